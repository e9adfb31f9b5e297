import Derived.Test.YtbkedgpligcicaaDictJ01
import Derived.Deep.DeepCutAuto
import Derived.OrdersHeld
import Derived.Deep.AppendLies
import Derived.Deep.RegionLaw
namespace Go.Proofs.Ytbkedgpligcicaa
open Go Go.RowKit
set_option linter.unusedVariables false
set_option maxRecDepth 100000

theorem suf_same (ts : List Tx) (lo depth : Nat) : suf ts lo lo depth = [] := by simp [suf]
theorem labels_nil_one (n : Nat) (h : n ∈ labelsT [([] : Tx)]) : False := (labelsT_mem.1 h).2 rfl
theorem labels_nil (n : Nat) (h : n ∈ labelsT ([] : List Tx)) : False := (labelsT_mem.1 h).2 rfl
theorem heap_set_same {w : World} {b : Nat} {cs : Array Value} {t : TypeId} (h : w.heap[b]? = some (.cells cs t)) (k : Nat) (u : Value) : (w.setCell ⟨b, k, none⟩ u).heap[b]? = some (.cells (cs.setIfInBounds k u) t) := by
  obtain ⟨hlt, hk⟩ := Array.getElem?_eq_some_iff.1 h
  show (w.heap.modify b _)[b]? = _
  rw [Array.getElem?_eq_getElem (by rw [Array.size_modify]; exact hlt), Array.getElem_modify_self, hk]
  rfl
theorem heap_set_other (w : World) (b k : Nat) (u : Value) (x : Nat) (hx : x ≠ b) : (w.setCell ⟨b, k, none⟩ u).heap[x]? = w.heap[x]? := heap_setCell_other w ⟨b, k, none⟩ x u hx
theorem MkFr.set {w : World} {r : Nat → Role} (b k : Nat) (u : Value) (hb : w.heap.size ≤ b ∨ (r b ≠ .oth ∧ r b ≠ .arc)) : MkFr w (w.setCell ⟨b, k, none⟩ u) r r := by
  have hg : w.grownBy (w.setCell ⟨b, k, none⟩ u) (some b) := ⟨rfl, rfl, rfl, by simp, fun i _ hne => heap_set_other w b k u i (by simpa using hne)⟩
  exact ⟨hg.os, hg.tape, hg.output, hg.size, fun _ _ => rfl, fun i hi hr => heap_set_other w b k u i (by
    rintro rfl
    rcases hb with hb | hb
    · omega
    · rcases hr with hr | hr
      · exact hb.1 hr
      · exact hb.2 hr)⟩
/-- Where make stands among the terms. -/
structure At1 (ts : List Tx) (lo hi depth i : Nat) (fin : Bool) : Prop where
  l1 : lo ≤ i
  l2 : i ≤ hi
  fin : fin = finT (suf ts lo i depth)
  ne : ∀ j, i ≤ j → j < hi → depth < (ts.getD j []).length
  lt : ∀ c q, i < hi → (ts.getD i []).drop depth = c :: q → headLt c (suf ts lo i depth)
theorem drop_cons {t : Tx} {d : Nat} (h : d < t.length) : t.drop d = t.getD d 0 :: t.drop (d + 1) := by
  rw [List.drop_eq_getElem_cons h]; simp [h]
/-- The terms that go on with one byte, and what stands behind them. -/
theorem At1.next {ts : List Tx} {lo hi depth i k : Nat} {fin : Bool} {c : UInt8} (h : At1 ts lo hi depth i fin) (h2 : hi ≤ ts.length) (hr : RiseT (suf ts lo hi depth)) (hik : i < k) (hk : k ≤ hi) (hc : ∀ j, i ≤ j → j < k → (ts.getD j []).getD depth 0 = c) (hn : k < hi → (ts.getD k []).getD depth 0 ≠ c) :
    headIs c (suf ts i k depth) ∧ headLt c (suf ts lo i depth) ∧ At1 ts lo hi depth k fin := by
  have hI : headIs c (suf ts i k depth) := by
    intro t ht
    obtain ⟨j, hj1, hj2, hj3, rfl⟩ := suf_mem ht
    rw [drop_cons (h.ne j hj1 (by omega)), hc j hj1 hj2]
    exact ⟨_, rfl⟩
  have hL : headLt c (suf ts lo i depth) := by
    have e := drop_cons (h.ne i (Nat.le_refl _) (by omega))
    rw [hc i (Nat.le_refl _) hik] at e
    exact h.lt c _ (by omega) e
  refine ⟨hI, hL, ⟨by have := h.l1; omega, hk, ?_, fun j hj1 hj2 => h.ne j (by omega) hj2, fun c' q hkh e => ?_⟩⟩
  · rw [suf_split ts h.l1 (by omega : i ≤ k) (by omega), finT_add hI]; exact h.fin
  · have e2 := drop_cons (h.ne k (by omega) hkh)
    rw [e] at e2
    have ec : c' = (ts.getD k []).getD depth 0 := (List.cons.inj e2).1
    have hne := hn hkh
    rw [← ec] at hne
    have hlt : c.toNat < c'.toNat := by
      rw [suf_split ts (show lo ≤ k by have := h.l1; omega) hk h2] at hr
      have hm1 : c :: ((ts.getD i []).drop (depth + 1)) ∈ suf ts lo k depth := by
        have := suf_in (ts := ts) (lo := lo) (hi := k) (depth := depth) (j := i) h.l1 hik (by omega)
        rw [drop_cons (h.ne i (Nat.le_refl _) (by omega)), hc i (Nat.le_refl _) hik] at this
        exact this
      have hm2 : c' :: q ∈ suf ts k hi depth := by
        have := suf_in (ts := ts) (lo := k) (hi := hi) (depth := depth) (j := k) (Nat.le_refl _) hkh (by omega)
        rw [e] at this
        exact this
      have := (List.pairwise_append.1 hr).2.2 _ hm1 _ hm2
      rw [ltT_cons] at this
      rcases this with h5 | ⟨h5, _⟩
      · exact h5
      · exact absurd h5.symm hne
    rw [suf_split ts h.l1 (by omega : i ≤ k) (by omega)]
    intro t ht
    rcases List.mem_append.1 ht with ht | ht
    · rcases hL t ht with h5 | ⟨d, q', h5, h6⟩
      · exact Or.inl h5
      · exact Or.inr ⟨d, q', h5, by omega⟩
    · obtain ⟨q', h5⟩ := hI t ht
      exact Or.inr ⟨c, q', h5, hlt⟩
/-- What the maker has, on the way through a call. -/
def On (base bm bb : Nat) (aT : Option Addr) (cT : Nat) (ts : List Tx) (O : List (List Tx)) (w : World) (r : Nat → Role) (s lo i depth : Nat) (fin : Bool) (W : World) : Prop :=
  ∃ (O1 : List (List Tx)) (r1 : Nat → Role) (vS : Value) (vb : Nat → Value) (xs : List Value) (cs : Array Value) (va : Value), MkAt W r1 base bm bb aT ts.length cT O1 vS vb xs cs ∧ OkO O1 ∧ O <+: O1 ∧ O1.length + (suf ts lo i depth).length ≤ O.length + szT (suf ts lo i depth) ∧ MkFr w W r r1 ∧ Way W r1 w.heap.size s fin va (stOf O1 (suf ts lo i depth)).2 ∧ Kids O1 (suf ts lo i depth) ∧ TsAt W r1 aT ts
theorem On.below {base bm bb : Nat} {aT : Option Addr} {cT : Nat} {ts : List Tx} {O : List (List Tx)} {w : World} {r : Nat → Role} {s lo i depth : Nat} {fin : Bool} {W W' : World} (h : On base bm bb aT cT ts O w r s lo i depth fin W) (hb : Below W.heap.size W W') : On base bm bb aT cT ts O w r s lo i depth fin W' := by
  obtain ⟨O1, r1, vS, vb, xs, cs, va, h1, h2, h3, h4, h5, h6, h7, h8⟩ := h
  have hf : MkFr W W' r1 r1 := (MkFr.refl W r1).below hb
  exact ⟨O1, r1, vS, vb, xs, cs, va, h1.kept hb.size (fun b hb' _ => hb.block b hb'), h2, h3, h4, h5.trans hf, h6.fr hf, h7, h8.fr hf⟩

/-- One arc more. -/
theorem arc_push {base bm bb : Nat} {aT : Option Addr} {cT : Nat} {ts : List Tx} {O O1 O2 : List (List Tx)} {w : World} {r r2 : Nat → Role} {lo i k depth : Nat} {fin : Bool} {c : UInt8} {W V w6 : World} {vS : Value} {vb : Nat → Value} {xs : List Value} {cs : Array Value} {va : Value} {g6 cp6 : Nat}
    (hmk : MkAt W r2 base bm bb aT ts.length cT O2 vS vb xs cs) (hok : OkO O2) (hp1 : O <+: O1) (hp2 : O1 <+: O2) (hlen1 : O1.length + (suf ts lo i depth).length ≤ O.length + szT (suf ts lo i depth)) (hlen2 : O2.length ≤ O1.length + max 1 (szT (suf ts i k (depth + 1)))) (hfr : MkFr w W r r2) (hway : Way W r2 w.heap.size w.heap.size fin va (stOf O1 (suf ts lo i depth)).2) (hkids : Kids O1 (suf ts lo i depth)) (hts : TsAt w r aT ts)
    (hI : headIs c (suf ts i k depth)) (hL : headLt c (suf ts lo i depth)) (hlo : lo ≤ i) (hik : i < k) (hkt : k ≤ ts.length) (hmem : suf ts i k (depth + 1) ∈ O2)
    (hV : Below W.heap.size W V) (hVs : V.heap.size ≤ W.heap.size + 1) (hown : w6.ownsRow w.heap.size 85 3 (.slice (some ⟨g6, 0, none⟩) ((stOf O1 (suf ts lo i depth)).2.length + 1) cp6) ((stOf O1 (suf ts lo i depth)).2.length + 1) (aC (stOf O1 (suf ts lo i depth)).2 ++ [.int .i64 (c.toNat : Int), .int .i64 ((O2.idxOf (suf ts i k (depth + 1)) : Nat) : Int), .int .i64 ((i : Int) - (lo : Int))])) (hg : V.grownBy w6 va.ownBlock) (hat : va.ownBlock = some g6 ∨ g6 = V.heap.size) (hlt : g6 < w6.heap.size) :
    w6.cell? ⟨w.heap.size, 1, none⟩ = some va ∧ w6.frozen? ⟨w.heap.size, 1, none⟩ = false ∧ On base bm bb aT cT ts O w r w.heap.size lo k depth fin (w6.setCell ⟨w.heap.size, 1, none⟩ (.slice (some ⟨g6, 0, none⟩) ((stOf O1 (suf ts lo i depth)).2.length + 1) cp6)) := by
  have hs : w.heap.size < W.heap.size := (Array.getElem?_eq_some_iff.1 hway.box).1
  have hblk : ∀ b, b < W.heap.size → va.ownBlock ≠ some b → w6.heap[b]? = W.heap[b]? := fun b hb hne => (hg.block b (Nat.lt_of_lt_of_le hb hV.size) (fun e => hne e.symm)).trans (hV.block b hb)
  have hsne : va.ownBlock ≠ some w.heap.size := fun e => (hway.rv _ e).2.1 rfl
  have hbox : w6.heap[w.heap.size]? = some (.cells #[.bool fin, va] 82) := (hblk _ hs hsne).trans hway.box
  have hsz6 : W.heap.size ≤ w6.heap.size := Nat.le_trans hV.size hg.size
  have hne : suf ts i k depth ≠ [] := fun e => by have := congrArg List.length e; rw [suf_len ts (by omega) hkt] at this; simp at this; omega
  have hsp := suf_split ts (depth := depth) hlo (show i ≤ k by omega) hkt
  have hmt := suf_tail ts i k depth
  have hk2 : Kids O2 (suf ts lo k depth) := by
    rw [hsp]
    exact (hkids.pre hp2).add hI hne hL (by rw [hmt]; exact hmem)
  have hst : (stOf O2 (suf ts lo k depth)).2 = (stOf O1 (suf ts lo i depth)).2 ++ [((c.toNat : Int), ((O2.idxOf (suf ts i k (depth + 1)) : Nat) : Int), (i : Int) - (lo : Int))] := by
    rw [hsp, stOf_add O2 hI hne hL, stOf_pre hp2 hkids, hmt, suf_len ts hlo (by omega)]
    simp only [List.append_cancel_left_eq, List.cons.injEq, and_true, Prod.mk.injEq, true_and]
    omega
  have hfresh : ∀ b, W.heap.size ≤ b → r2 b = .oth := hmk.new
  have hg6 : r2 g6 = .oth ∧ g6 ≠ w.heap.size := by
    rcases hat with e | e
    · exact ⟨(hway.rv g6 e).1, (hway.rv g6 e).2.1⟩
    · have := hV.size
      exact ⟨hfresh g6 (by omega), by omega⟩
  have hset : ∀ b, b ≠ w.heap.size → ∀ u, (w6.setCell ⟨w.heap.size, 1, none⟩ u).heap[b]? = w6.heap[b]? := fun b hb u => heap_set_other w6 w.heap.size 1 u b hb
  refine ⟨blkc hbox 1, frozen_of_row w6 w.heap.size 1 _ _ hbox, O2, r2, vS, vb, xs, cs, .slice (some ⟨g6, 0, none⟩) ((stOf O1 (suf ts lo i depth)).2.length + 1) cp6, ?_, hok, hp1.trans hp2, ?_, ?_, ?_, hk2, ?_⟩
  · refine hmk.kept (by simpa using hsz6) fun b hb hr => ?_
    rw [hset b (by rintro rfl; exact hr hway.rs)]
    exact hblk b hb fun e => hr (hway.rv b e).1
  · have e1 := szT_tail hI
    rw [hmt] at e1
    have e2 := szT_append (suf ts lo i depth) (suf ts i k depth)
    rw [← hsp] at e2
    have e3 := suf_len ts (lo := i) (hi := k) (depth := depth) (by omega) hkt
    have e4 := suf_len ts (lo := lo) (hi := i) (depth := depth) hlo (by omega)
    have e5 := suf_len ts (lo := lo) (hi := k) (depth := depth) (by omega) hkt
    have e6 := szT_ge (suf ts i k (depth + 1))
    have e7 := suf_len ts (lo := i) (hi := k) (depth := depth + 1) (by omega) hkt
    omega
  · exact ⟨hg.os.trans (hV.os.trans hfr.os), hg.tape.trans (hV.tape.trans hfr.tape), hg.output.trans (hV.output.trans hfr.output), by have := hfr.size; simp; omega, fun b hb => hfr.role b hb, fun b hb hr => by
      rw [hset b (by omega)]
      refine (hblk b (Nat.lt_of_lt_of_le hb hfr.size) fun e => ?_).trans (hfr.keep b hb hr)
      have := (hway.row.lt b e).1
      omega⟩
  · rw [hst]
    refine ⟨heap_set_same hbox 1 _, hway.rs, ?_, fun b hb => ?_⟩
    · rw [List.length_append, aC_snoc]
      exact own_congr hown fun b hb => hset b (by cases hb; exact hg6.2) _
    · cases hb
      exact ⟨hg6.1, hg6.2, by simpa using hlt⟩
  · exact hts.fr ⟨hg.os.trans (hV.os.trans hfr.os), hg.tape.trans (hV.tape.trans hfr.tape), hg.output.trans (hV.output.trans hfr.output), by have := hfr.size; simp; omega, fun b hb => hfr.role b hb, fun b hb hr => by
      rw [hset b (by omega)]
      refine (hblk b (Nat.lt_of_lt_of_le hb hfr.size) fun e => ?_).trans (hfr.keep b hb hr)
      have := (hway.row.lt b e).1
      omega⟩

theorem Try.infoArc : (Try.prog.info? 85).map (fun i => (i.zero, i.size, i.bytes)) = some (some (.agg #[.int .i64 0, .int .i64 0, .int .i64 0]), 3, 24) := by kernel_rfl
theorem labelsT_len (L : List Tx) : (labelsT L).length ≤ 256 := by
  have := List.length_filter_le (fun n => !(subT n L).isEmpty) (List.range 256)
  simpa [labelsT] using this
/-- What a call leaves for the arc. -/
def CallPost (base bm bb : Nat) (aT : Option Addr) (cT : Nat) (ts : List Tx) (O : List (List Tx)) (w : World) (r : Nat → Role) (lo i k depth : Nat) (fin : Bool) (e : Ending) (w' : World) : Prop :=
  ∃ (O1 O2 : List (List Tx)) (r2 : Nat → Role) (vS : Value) (vb : Nat → Value) (xs : List Value) (cs : Array Value) (va : Value), e = .returned (.int .i64 ((O2.idxOf (suf ts i k (depth + 1)) : Nat) : Int)) ∧ MkAt w' r2 base bm bb aT ts.length cT O2 vS vb xs cs ∧ OkO O2 ∧ O <+: O1 ∧ O1 <+: O2 ∧ O1.length + (suf ts lo i depth).length ≤ O.length + szT (suf ts lo i depth) ∧ O2.length ≤ O1.length + max 1 (szT (suf ts i k (depth + 1))) ∧ MkFr w w' r r2 ∧ Way w' r2 w.heap.size w.heap.size fin va (stOf O1 (suf ts lo i depth)).2 ∧ Kids O1 (suf ts lo i depth) ∧ suf ts i k (depth + 1) ∈ O2
theorem call_any {base bm bb : Nat} {aT : Option Addr} {cT : Nat} {ts : List Tx} {f : Nat} (ih : MakeN base bm bb aT cT ts f) {O : List (List Tx)} {w W : World} {r : Nat → Role} {lo hi i k depth : Nat} {fin : Bool} {c : UInt8} (h3 : ts.length ≤ 4096) (h2 : hi ≤ ts.length) (hlen : ∀ t ∈ suf ts lo hi depth, t.length < f + 1) (hdf : depth + (f + 1) ≤ 1000) (hrise : RiseT (suf ts lo hi depth)) (hsz : O.length + szT (suf ts lo hi depth) + 1 ≤ 300000) (hbase : base ≤ w.heap.size)
    (hat : At1 ts lo hi depth i fin) (hon : On base bm bb aT cT ts O w r w.heap.size lo i depth fin W) (hI : headIs c (suf ts i k depth)) (hik : i < k) (hkh : k ≤ hi) :
    Calls Try.prog 66 #[.pointer (some ⟨bm, 0, none⟩), .int .i64 (i : Int), .int .i64 (k : Int), .int .i64 ((depth : Int) + 1)] W fun e w' => CallPost base bm bb aT cT ts O w r lo i k depth fin e w' := by
  obtain ⟨O1, r1, vS1, vb1, xs1, cs1, va, hmk, hok, hpre, hlen1, hfr, hway, hkids, hts⟩ := hon
  have hl := hat.l1
  have e1 := szT_tail hI
  rw [suf_tail] at e1
  have e2 := szT_append (suf ts lo i depth) (suf ts i hi depth)
  rw [← suf_split ts hl hat.l2 h2] at e2
  have e3 := szT_append (suf ts i k depth) (suf ts k hi depth)
  rw [← suf_split ts (show i ≤ k by omega) hkh h2] at e3
  have e4 := suf_len ts (lo := i) (hi := k) (depth := depth) (by omega) (by omega)
  have e5 := suf_len ts (lo := lo) (hi := i) (depth := depth) hl (by omega)
  have hr2 : RiseT (suf ts i k (depth + 1)) := by
    rw [← suf_tail, ← subT_headIs hI]
    rw [suf_split ts hl hat.l2 h2, suf_split ts (show i ≤ k by omega) hkh h2] at hrise
    exact subT_rise (rise_left (rise_right hrise))
  have := ih i k (depth + 1) W r1 O1 vS1 vb1 xs1 cs1 hik (by omega) h3 (fun t ht => by
      obtain ⟨j, hj1, hj2, hj3, rfl⟩ := suf_mem ht
      have h5 := hlen _ (suf_in (depth := depth) (show lo ≤ j by omega) (show j < hi by omega) hj3)
      have h6 := hat.ne j hj1 (by omega)
      rw [List.length_drop] at h5 ⊢
      omega) (by omega) (fun j hj1 hj2 => hat.ne j hj1 (by omega)) hr2 hmk hok hts (by omega) (Nat.le_trans hbase hfr.size)
  rw [show ((depth + 1 : Nat) : Int) = (depth : Int) + 1 from by omega] at this
  refine this.mono ?_
  rintro e w' ⟨O2, r2, vS2, vb2, xs2, cs2, rfl, q1, q2, q3, q4, q5, q6⟩
  exact ⟨O1, O2, r2, vS2, vb2, xs2, cs2, va, rfl, q1, q2, hpre, q3, hlen1, q5, hfr.trans q6, hway.fr q6, hkids, q4⟩
theorem TsAt.text {w W : World} {r r' : Nat → Role} {g off : Nat} {ts : List Tx} (h : TsAt w r (some ⟨g, off, none⟩) ts) (hf : MkFr w W r r') {j : Nat} (hj : j < ts.length) : W.cell? ⟨g, off + j, none⟩ = some (.string ⟨(ts.getD j []).toArray⟩) := by
  rcases h.fr hf with h | ⟨g', off', e, _, _, hc⟩
  · rw [h] at hj; simp at hj
  · cases e
    exact hc j hj
end Go.Proofs.Ytbkedgpligcicaa

namespace Go.Proofs.Ytbkedgpligcicaa
open Go Go.RowKit
set_option linter.unusedVariables false
set_option maxRecDepth 100000

open Classical in
/-- The roles behind a new state. -/
noncomputable def rNew (r : Nat → Role) (gS gB H : Nat) (va : Value) : Nat → Role := fun b => if b = gS then .st else if b = gB then .lst H else if va.ownBlock = some b then .arc else r b

theorem getD_last {α : Type} (l : List α) (x d : α) : (l ++ [x]).getD l.length d = x := by
  rw [List.getD_eq_getElem?_getD, List.getElem?_append_right (Nat.le_refl _)]; simp
theorem getD_left {α : Type} (l : List α) (x d : α) {j : Nat} (h : j < l.length) : (l ++ [x]).getD j d = l.getD j d := by
  rw [List.getD_eq_getElem?_getD, List.getElem?_append_left h, ← List.getD_eq_getElem?_getD]

/-- Behind the first of the two statements. -/
theorem push_one {base bm bb : Nat} {aT : Option Addr} {nT cT : Nat} {O : List (List Tx)} {W V w6 : World} {r : Nat → Role} {vS : Value} {vb : Nat → Value} {xs : List Value} {cs : Array Value} {gS cS : Nat} {zs : List Value}
    (hmk : MkAt W r base bm bb aT nT cT O vS vb xs cs) (hV : Below W.heap.size W V) (hown : w6.ownsRow base 82 2 (.slice (some ⟨gS, 0, none⟩) (O.length + 1) cS) (O.length + 1) zs) (hg : V.grownBy w6 vS.ownBlock) (hat : vS.ownBlock = some gS ∨ gS = V.heap.size) :
    w6.cell? ⟨bm, 1, none⟩ = some vS ∧ w6.frozen? ⟨bm, 1, none⟩ = false ∧ W.heap.size ≤ w6.heap.size ∧ (w6.setCell ⟨bm, 1, none⟩ (.slice (some ⟨gS, 0, none⟩) (O.length + 1) cS)).heap[bm]? = some (.cells #[.slice aT nT cT, .slice (some ⟨gS, 0, none⟩) (O.length + 1) cS, .slice none 0 0, .slice (some ⟨bb, 0, none⟩) 1024 1024] 112) ∧
      (w6.setCell ⟨bm, 1, none⟩ (.slice (some ⟨gS, 0, none⟩) (O.length + 1) cS)).ownsRow base 82 2 (.slice (some ⟨gS, 0, none⟩) (O.length + 1) cS) (O.length + 1) zs ∧
      (∀ b, b < W.heap.size → r b ≠ .mk → r b ≠ .st → (w6.setCell ⟨bm, 1, none⟩ (.slice (some ⟨gS, 0, none⟩) (O.length + 1) cS)).heap[b]? = W.heap[b]?) ∧ (gS < W.heap.size → r gS = .st) ∧ gS ≠ bm ∧ w6.os = W.os ∧ w6.tape = W.tape ∧ w6.output = W.output := by
  have hbm : bm < W.heap.size := (Array.getElem?_eq_some_iff.1 hmk.box).1
  have hblk : ∀ b, b < W.heap.size → vS.ownBlock ≠ some b → w6.heap[b]? = W.heap[b]? := fun b hb hne => (hg.block b (Nat.lt_of_lt_of_le hb hV.size) (fun e => hne e.symm)).trans (hV.block b hb)
  have hbmS : vS.ownBlock ≠ some bm := fun e => by have := hmk.rst bm e; rw [hmk.rbm] at this; cases this
  have hbox : w6.heap[bm]? = _ := (hblk bm hbm hbmS).trans hmk.box
  have hgr : gS < W.heap.size → r gS = .st := fun h => by
    rcases hat with e | e
    · exact hmk.rst gS e
    · have := hV.size; omega
  have hgb : gS ≠ bm := by
    rintro rfl
    have := hgr hbm
    rw [hmk.rbm] at this
    cases this
  refine ⟨blkc hbox 1, frozen_of_row w6 bm 1 _ _ hbox, Nat.le_trans hV.size hg.size, heap_set_same hbox 1 _, own_congr hown fun b hb => heap_set_other w6 bm 1 _ b (by cases hb; exact hgb), fun b hb h1 h2 => ?_, hgr, hgb, hg.os.trans hV.os, hg.tape.trans hV.tape, hg.output.trans hV.output⟩
  rw [heap_set_other w6 bm 1 _ b (by rintro rfl; exact h1 hmk.rbm)]
  exact hblk b hb fun e => h2 (hmk.rst b e)

/-- Behind both. -/
theorem push_two {base bm bb : Nat} {aT : Option Addr} {nT cT : Nat} {O : List (List Tx)} {L : List Tx} {W V w7 w8 : World} {r : Nat → Role} {vS : Value} {vb : Nat → Value} {xs : List Value} {cs : Array Value} {gS cS gB cB H : Nat} {a : Option Addr} {ca : Nat} {fin : Bool} {l : List Ar}
    (hmk : MkAt W r base bm bb aT nT cT O vS vb xs cs) (hok : OkO O) (hk : Kids O L) (hst : stOf O L = (fin, l)) (hH : mixOf (fin, l) = H) (hH2 : H < 1024)
    (hA : HoldA W a l) (hAr : ∀ b off, a = some ⟨b, off, none⟩ → r b = .oth ∧ b < W.heap.size ∧ (Value.slice a l.length ca).ownBlock = some b) (hvaO : ∀ b, (Value.slice a l.length ca).ownBlock = some b → r b = .oth ∧ b < W.heap.size)
    (hz7 : W.heap.size ≤ w7.heap.size) (hbox7 : w7.heap[bm]? = some (.cells #[.slice aT nT cT, .slice (some ⟨gS, 0, none⟩) (O.length + 1) cS, .slice none 0 0, .slice (some ⟨bb, 0, none⟩) 1024 1024] 112))
    (hown7 : w7.ownsRow base 82 2 (.slice (some ⟨gS, 0, none⟩) (O.length + 1) cS) (O.length + 1) (xs ++ [.bool fin, .slice a l.length ca]))
    (hk7 : ∀ b, b < W.heap.size → r b ≠ .mk → r b ≠ .st → w7.heap[b]? = W.heap[b]?) (hgS : gS < W.heap.size → r gS = .st) (hgSm : gS ≠ bm)
    (hV : Below w7.heap.size w7 V) (hown : w8.ownsRow base 3 1 (.slice (some ⟨gB, 0, none⟩) ((bkt (stM O) H).length + 1) cB) ((bkt (stM O) H).length + 1) (nV (bkt (stM O) H) ++ [.int .i64 (O.length : Int)])) (hg : V.grownBy w8 (vb H).ownBlock) (hat : (vb H).ownBlock = some gB ∨ gB = V.heap.size) (hlt : gB < w8.heap.size) :
    (∃ u, w8.cell? ⟨bb, H, none⟩ = some u) ∧ w8.frozen? ⟨bb, H, none⟩ = false ∧ W.heap.size ≤ w8.heap.size ∧
      (∀ b, b < W.heap.size → r b = .oth ∨ r b = .arc → (w8.setCell ⟨bb, H, none⟩ (.slice (some ⟨gB, 0, none⟩) ((bkt (stM O) H).length + 1) cB)).heap[b]? = W.heap[b]?) ∧
      MkAt (w8.setCell ⟨bb, H, none⟩ (.slice (some ⟨gB, 0, none⟩) ((bkt (stM O) H).length + 1) cB)) (rNew r gS gB H (.slice a l.length ca)) base bm bb aT nT cT (O ++ [L]) (.slice (some ⟨gS, 0, none⟩) (O.length + 1) cS) (fun h => if h = H then .slice (some ⟨gB, 0, none⟩) ((bkt (stM O) H).length + 1) cB else vb h) (xs ++ [.bool fin, .slice a l.length ca]) (cs.setIfInBounds H (.slice (some ⟨gB, 0, none⟩) ((bkt (stM O) H).length + 1) cB)) ∧
      (∀ b, b < W.heap.size → (Value.slice a l.length ca).ownBlock ≠ some b → rNew r gS gB H (.slice a l.length ca) b = r b) ∧ w8.heap[bm]? = some (.cells #[.slice aT nT cT, .slice (some ⟨gS, 0, none⟩) (O.length + 1) cS, .slice none 0 0, .slice (some ⟨bb, 0, none⟩) 1024 1024] 112) ∧ bm ≠ bb := by
  have hbbW : bb < W.heap.size := (Array.getElem?_eq_some_iff.1 hmk.bks).1
  have hbmW : bm < W.heap.size := (Array.getElem?_eq_some_iff.1 hmk.box).1
  have hbH := (hmk.lst H hH2).2
  have hltH : ∀ b, (vb H).ownBlock = some b → b < W.heap.size := fun b hb => ((hmk.lst H hH2).1.lt b hb).2
  have hgS7 : gS < w7.heap.size := (hown7.lt gS rfl).2
  have hgBr : gB < W.heap.size → r gB = .lst H := fun h => by
    rcases hat with e | e
    · exact hbH gB e
    · have := hV.size; omega
  have hblk8 : ∀ b, b < w7.heap.size → (vb H).ownBlock ≠ some b → w8.heap[b]? = w7.heap[b]? := fun b hb hne => (hg.block b (Nat.lt_of_lt_of_le hb hV.size) (fun e => hne e.symm)).trans (hV.block b hb)
  have hz8 : W.heap.size ≤ w8.heap.size := Nat.le_trans hz7 (Nat.le_trans hV.size hg.size)
  have rne : ∀ {x y : Nat} {p q : Role}, r x = p → r y = q → p ≠ q → x ≠ y := fun h1 h2 hne e => hne (by rw [← h1, ← h2, e])
  have hbmb : bm ≠ bb := rne hmk.rbm hmk.rbb (by simp)
  have hHbb : (vb H).ownBlock ≠ some bb := fun e => absurd (hbH bb e) (by rw [hmk.rbb]; simp)
  have hHbm : (vb H).ownBlock ≠ some bm := fun e => absurd (hbH bm e) (by rw [hmk.rbm]; simp)
  have hHgS : (vb H).ownBlock ≠ some gS := fun e => absurd (hbH gS e) (by rw [hgS (hltH gS e)]; simp)
  have hgBbb : gB ≠ bb := fun e => absurd (hgBr (by omega)) (by rw [e, hmk.rbb]; simp)
  have hgBbm : gB ≠ bm := fun e => absurd (hgBr (by omega)) (by rw [e, hmk.rbm]; simp)
  have hgSbb : gS ≠ bb := fun e => absurd (hgS (by omega)) (by rw [e, hmk.rbb]; simp)
  have hgBgS : gB ≠ gS := fun e => by
    rcases hat with e2 | e2
    · rw [e] at e2; exact hHgS e2
    · have := hV.size; omega
  have hbks8 : w8.heap[bb]? = some (.cells cs 66) := ((hblk8 bb (by omega) hHbb).trans (hk7 bb hbbW (by rw [hmk.rbb]; simp) (by rw [hmk.rbb]; simp))).trans hmk.bks
  have hset : ∀ b, b ≠ bb → ∀ u, (w8.setCell ⟨bb, H, none⟩ u).heap[b]? = w8.heap[b]? := fun b hb u => heap_set_other w8 bb H u b hb
  have hkeep : ∀ b, b < W.heap.size → r b ≠ .mk → r b ≠ .st → r b ≠ .bk → r b ≠ .lst H → ∀ u, (w8.setCell ⟨bb, H, none⟩ u).heap[b]? = W.heap[b]? := fun b hb h1 h2 h3 h4 u => by
    rw [hset b (by rintro rfl; exact h3 hmk.rbb), hblk8 b (by omega) (fun e => h4 (hbH b e)), hk7 b hb h1 h2]
  have hR : ∀ b, b < W.heap.size → (Value.slice a l.length ca).ownBlock ≠ some b → rNew r gS gB H (.slice a l.length ca) b = r b := fun b hb hva => by
    unfold rNew
    by_cases e1 : b = gS
    · rw [if_pos e1, e1, hgS (by omega)]
    · rw [if_neg e1]
      by_cases e2 : b = gB
      · rw [if_pos e2, e2, hgBr (by omega)]
      · rw [if_neg e2, if_neg hva]
  have hR2 : ∀ b, b < W.heap.size → r b ≠ .oth → rNew r gS gB H (.slice a l.length ca) b = r b := fun b hb hr => hR b hb fun e => hr (hvaO b e).1
  have hSn := stM_snoc hok hk
  rw [hst] at hSn
  have hxl : xs.length = O.length * 2 := hmk.row.1
  have hSl : (stM O).length = O.length := stM_len O
  refine ⟨⟨vb H, by rw [blkc hbks8 H]; exact hmk.cat H hH2⟩, frozen_of_row w8 bb H _ _ hbks8, hz8, fun b hb hr => hkeep b hb (by rcases hr with e | e <;> rw [e] <;> simp) (by rcases hr with e | e <;> rw [e] <;> simp) (by rcases hr with e | e <;> rw [e] <;> simp) (by rcases hr with e | e <;> rw [e] <;> simp) _, ⟨?_, ?_, ?_, hmk.lbm, hmk.lbb, heap_set_same hbks8 H _, by simpa using hmk.csz, fun h hh => ?_, fun h hh => ?_, ?_, fun b hb => ?_, fun j hj => ?_, fun b hb => ?_⟩, hR, (hblk8 bm (by omega) hHbm).trans hbox7, hbmb⟩
  · rw [hset bm hbmb, hblk8 bm (by omega) hHbm]; exact hbox7
  · rw [hR2 bm hbmW (by rw [hmk.rbm]; simp)]; exact hmk.rbm
  · rw [hR2 bb hbbW (by rw [hmk.rbb]; simp)]; exact hmk.rbb
  · by_cases e : h = H
    · subst e
      rw [if_pos rfl, Array.getElem?_setIfInBounds_self_of_lt (by rw [hmk.csz]; exact hh)]
    · rw [if_neg e, Array.getElem?_setIfInBounds_ne (fun e2 => e e2.symm)]
      exact hmk.cat h hh
  · rw [hSn, bkt_snoc, hH, hSl]
    by_cases e : h = H
    · subst e
      rw [if_pos rfl, if_pos rfl]
      refine ⟨?_, fun b hb => ?_⟩
      · have e2 : nV (bkt (stM O) h ++ [O.length]) = nV (bkt (stM O) h) ++ [.int .i64 (O.length : Int)] := by simp [nV]
        rw [e2, List.length_append]
        exact own_congr hown fun b hb => hset b (by cases hb; exact hgBbb) _
      · cases hb
        unfold rNew
        rw [if_neg hgBgS, if_pos rfl]
    · rw [if_neg e, if_neg (fun e2 => e e2.symm), List.append_nil]
      refine ⟨own_congr (hmk.lst h hh).1 fun b hb => ?_, fun b hb => ?_⟩
      · have h1 := (hmk.lst h hh).2 b hb
        exact hkeep b ((hmk.lst h hh).1.lt b hb).2 (by rw [h1]; simp) (by rw [h1]; simp) (by rw [h1]; simp) (by rw [h1]; simpa using e) _
      · have h1 := (hmk.lst h hh).2 b hb
        rw [hR2 b ((hmk.lst h hh).1.lt b hb).2 (by rw [h1]; simp)]
        exact h1
  · rw [List.length_append]
    exact own_congr hown7 fun b hb => by
      cases hb
      rw [hset gS hgSbb, hblk8 gS hgS7 hHgS]
  · cases hb
    unfold rNew
    rw [if_pos rfl]
  · rw [hSn]
    rw [List.length_append, List.length_singleton] at hj
    by_cases e : j < O.length
    · obtain ⟨h1, aj, cj, h2, h3, h4⟩ := hmk.sts j e
      rw [getD_left _ _ _ (by rw [hSl]; exact e), List.getElem?_append_left (by omega), List.getElem?_append_left (by omega)]
      refine ⟨h1, aj, cj, h2, h3.keep (by simpa using hz8) fun b off e2 hb => ?_, fun b off e2 => ?_⟩
      · have h5 := h4 b off e2
        exact hkeep b hb (by rw [h5]; simp) (by rw [h5]; simp) (by rw [h5]; simp) (by rw [h5]; simp) _
      · have h5 := h4 b off e2
        have hbl : b < W.heap.size := by
          rcases Nat.lt_or_ge b W.heap.size with h6 | h6
          · exact h6
          · have := hmk.new b h6; rw [h5] at this; cases this
        rw [hR2 b hbl (by rw [h5]; simp)]
        exact h5
    · obtain rfl : j = O.length := by omega
      have e1 : (stM O ++ [(fin, l)]).getD O.length st0 = (fin, l) := by have := getD_last (stM O) (fin, l) st0; rw [hSl] at this; exact this
      rw [e1, List.getElem?_append_right (by omega), List.getElem?_append_right (by omega), show O.length * 2 - xs.length = 0 from by omega, show O.length * 2 + 1 - xs.length = 1 from by omega]
      refine ⟨rfl, a, ca, rfl, hA.keep (by simpa using hz8) fun b off e2 hb => ?_, fun b off e2 => ?_⟩
      · have h5 := (hAr b off e2).1
        exact hkeep b hb (by rw [h5]; simp) (by rw [h5]; simp) (by rw [h5]; simp) (by rw [h5]; simp) _
      · obtain ⟨h5, h6, h7⟩ := hAr b off e2
        unfold rNew
        rw [if_neg (fun e3 => absurd (hgS (by omega)) (by rw [← e3, h5]; simp)), if_neg (fun e3 => absurd (hgBr (by omega)) (by rw [← e3, h5]; simp)), if_pos h7]
  · have hb8 : w8.heap.size ≤ b := by simpa using hb
    have h78 := Nat.le_trans hV.size hg.size
    unfold rNew
    rw [if_neg (by omega), if_neg (by omega), if_neg (fun e => by have := (hvaO b e).2; omega)]
    exact hmk.new b (by omega)
end Go.Proofs.Ytbkedgpligcicaa

namespace Go.Proofs.Ytbkedgpligcicaa
open Go Go.RowKit
set_option linter.unusedVariables false
set_option maxRecDepth 100000

theorem Try.infoSt : (Try.prog.info? 82).map (fun i => (i.zero, i.size, i.bytes)) = some (some (.agg #[.bool false, .slice none 0 0]), 2, 32) := by kernel_rfl
theorem Try.infoIn : (Try.prog.info? 3).map (fun i => (i.zero, i.size, i.bytes)) = some (some (.int .i64 0), 1, 8) := by kernel_rfl
section
variable {w : World} {r : Nat → Role} {base bm bb : Nat} {aT : Option Addr} {nT cT : Nat} {O : List (List Tx)} {vS : Value} {vb : Nat → Value} {xs : List Value} {cs : Array Value}
theorem own_form {e size n : Nat} {v : Value} {zs : List Value} (h : w.ownsRow base e size v n zs) : ∃ a c, v = .slice a n c := by
  rcases h.2 with ⟨rfl, h0⟩ | ⟨g, cap, cur, rfl, _⟩
  · exact ⟨none, 0, by rw [h0]⟩
  · exact ⟨_, _, rfl⟩
theorem MkAt.bkAt (h : MkAt w r base bm bb aT nT cT O vS vb xs cs) {H : Nat} (hH : H < 1024) {j : Nat} (hj : j < (bkt (stM O) H).length) : ∃ g c, vb H = .slice (some ⟨g, 0, none⟩) (bkt (stM O) H).length c ∧ g < w.heap.size ∧ w.cell? ⟨g, j, none⟩ = some (.int .i64 (((bkt (stM O) H).getD j 0 : Nat) : Int)) := by
  have ho := (h.lst H hH).1
  rcases own_cases ho with ⟨_, h0⟩ | ⟨g, c, e, _, hg⟩
  · omega
  · refine ⟨g, c, e, hg, ?_⟩
    rw [e] at ho
    rw [ho.cellAt j (by omega)]
    simp [nV, hj]
theorem MkAt.stAt (h : MkAt w r base bm bb aT nT cT O vS vb xs cs) {x : Nat} (hx : x < O.length) : ∃ g c aj cj, vS = .slice (some ⟨g, 0, none⟩) O.length c ∧ g < w.heap.size ∧ w.cell? ⟨g, x * 2, none⟩ = some (.bool ((stM O).getD x st0).1) ∧ w.cell? ⟨g, x * 2 + 1, none⟩ = some (.slice aj ((stM O).getD x st0).2.length cj) ∧ HoldA w aj ((stM O).getD x st0).2 := by
  obtain ⟨h1, aj, cj, h2, h3, _⟩ := h.sts x hx
  have ho := h.row
  rcases ho.2 with ⟨_, h0⟩ | ⟨g, cap, cur, e, _, hg, _⟩
  · omega
  · rw [e] at ho
    refine ⟨g, cap, aj, cj, e, (Array.getElem?_eq_some_iff.1 hg).1, ?_, ?_, h3⟩
    · rw [ho.cellAt (x * 2) (by omega)]; exact h1
    · rw [ho.cellAt (x * 2 + 1) (by omega)]; exact h2
theorem stOf_small {L : List Tx} (hk : Kids O L) (ho : O.length ≤ 1000000) : SmallA (stOf O L).2 := by
  intro a ha
  obtain ⟨n, hn, rfl⟩ := List.mem_map.1 ha
  have h1 := (labelsT_mem.1 hn).1
  have h2 := List.idxOf_lt_length_of_mem (hk n hn)
  exact ⟨by simp, by simp; omega, by simp, by simp; omega⟩
theorem found {L : List Tx} {x : Nat} (hok : OkO O) (hL : RiseT L) (hk : Kids O L) (hx : x < O.length) (h : (stM O).getD x st0 = stOf O L) : L ∈ O ∧ O.idxOf L = x := by
  have hm : O[x]? = some O[x] := List.getElem?_eq_getElem hx
  rw [stM_at hm] at h
  have hin : O[x] ∈ O := List.getElem_mem _
  have e := stOf_inj (hok.rise _ hin) hL (fun n hn => hok.closed _ hin n hn) hk h
  rw [← e]
  exact ⟨hin, idxOf_of hok.nodup hm⟩
theorem missed {L : List Tx} {H : Nat} (hH : mixOf (stOf O L) = H) (h : ∀ j, j < (bkt (stM O) H).length → (stM O).getD ((bkt (stM O) H).getD j 0) st0 ≠ stOf O L) : L ∉ O := by
  intro hm
  have hx := List.idxOf_lt_length_of_mem hm
  have e := stM_at (idxOf_at hm)
  have hb : O.idxOf L ∈ bkt (stM O) H := by
    unfold bkt
    rw [List.mem_filter]
    refine ⟨by rw [stM_len]; simpa using hx, ?_⟩
    rw [e, hH]
    simp
  obtain ⟨j, hj, e2⟩ := List.getElem_of_mem hb
  refine h j hj ?_
  have e3 : (bkt (stM O) H).getD j 0 = O.idxOf L := by rw [List.getD_eq_getElem?_getD, List.getElem?_eq_getElem hj]; exact e2
  rw [e3]
  exact e
end
end Go.Proofs.Ytbkedgpligcicaa

namespace Go.Proofs.Ytbkedgpligcicaa
open Go Go.RowKit
set_option linter.unusedVariables false
set_option linter.unusedSimpArgs false
set_option maxRecDepth 100000

/-! The operations of one region of l04Maker.make, by hand. -/
theorem mkx_move (W : World) (ρ : Operand → Value) (o : Oper) (x : Operand) (ho : o.op = .move x) (v : Value) (hx : ρ x = v) : (execOp ρ o).run Try.prog W = .ok (.value v) W := by
  unfold execOp
  simp only [ho, Sem.run_pure, hx]
theorem mkx_nil (W : World) (ρ : Operand → Value) (o : Oper) (x : Operand) (ho : o.op = .nilCheck x) (b off : Nat) (hx : ρ x = .pointer (some ⟨b, off, none⟩)) : (execOp ρ o).run Try.prog W = .ok (.value (.pointer (some ⟨b, off, none⟩))) W := by
  unfold execOp
  simp only [ho, hx, Sem.run_bind, Sem.run_pure, Result.andThen_ok]
theorem mkx_field1 (W : World) (ρ : Operand → Value) (o : Oper) (x : Operand) (ho : o.op = .fieldAddr 112 x 1) (b : Nat) (hx : ρ x = .pointer (some ⟨b, 0, none⟩)) : (execOp ρ o).run Try.prog W = .ok (.value (.pointer (some ⟨b, 1, none⟩))) W := by
  unfold execOp
  simp only [ho, hx, Sem.run_bind, Sem.run_pure, Result.andThen_ok]
  go_simp
theorem mkx_field3 (W : World) (ρ : Operand → Value) (o : Oper) (x : Operand) (ho : o.op = .fieldAddr 112 x 3) (b : Nat) (hx : ρ x = .pointer (some ⟨b, 0, none⟩)) : (execOp ρ o).run Try.prog W = .ok (.value (.pointer (some ⟨b, 3, none⟩))) W := by
  unfold execOp
  simp only [ho, hx, Sem.run_bind, Sem.run_pure, Result.andThen_ok]
  go_simp
theorem mkx_loadBk (W : World) (ρ : Operand → Value) (o : Oper) (x : Operand) (ho : o.op = .load 110 x) (b off : Nat) (a : Option Addr) (n c : Nat) (hx : ρ x = .pointer (some ⟨b, off, none⟩)) (h0 : W.cell? ⟨b, off, none⟩ = some (.slice a n c)) : (execOp ρ o).run Try.prog W = .ok (.value (.slice a n c)) W := by
  unfold execOp
  simp only [ho, Instr.loadAt, Instr.sureAddr, hx, Sem.run_bind, Sem.run_pure, Result.andThen_ok]
  go_simp
theorem mkx_loadSt (W : World) (ρ : Operand → Value) (o : Oper) (x : Operand) (ho : o.op = .load 25 x) (b off : Nat) (a : Option Addr) (n c : Nat) (hx : ρ x = .pointer (some ⟨b, off, none⟩)) (h0 : W.cell? ⟨b, off, none⟩ = some (.slice a n c)) : (execOp ρ o).run Try.prog W = .ok (.value (.slice a n c)) W := by
  unfold execOp
  simp only [ho, Instr.loadAt, Instr.sureAddr, hx, Sem.run_bind, Sem.run_pure, Result.andThen_ok]
  go_simp
theorem mkx_loadIn (W : World) (ρ : Operand → Value) (o : Oper) (x : Operand) (ho : o.op = .load 66 x) (b off : Nat) (a : Option Addr) (n c : Nat) (hx : ρ x = .pointer (some ⟨b, off, none⟩)) (h0 : W.cell? ⟨b, off, none⟩ = some (.slice a n c)) : (execOp ρ o).run Try.prog W = .ok (.value (.slice a n c)) W := by
  unfold execOp
  simp only [ho, Instr.loadAt, Instr.sureAddr, hx, Sem.run_bind, Sem.run_pure, Result.andThen_ok]
  go_simp
theorem mkx_idxB (W : World) (ρ : Operand → Value) (o : Oper) (x y : Operand) (ho : o.op = .indexAddr 110 x y) (b H : Nat) (hH : (H : Int) < 1024) (hx : ρ x = .slice (some ⟨b, 0, none⟩) 1024 1024) (hy : ρ y = .int .i64 (H : Int)) : (execOp ρ o).run Try.prog W = .ok (.value (.pointer (some ⟨b, H, none⟩))) W := by
  unfold execOp
  simp only [ho, hx, hy, Sem.run_bind, Sem.run_pure, Result.andThen_ok]
  go_simp
theorem mkx_lenS (W : World) (ρ : Operand → Value) (o : Oper) (x : Operand) (ho : o.op = .call { callee := .builtin .len, args := #[x], argTypes := #[25] }) (a : Option Addr) (n c : Nat) (hx : ρ x = .slice a n c) : (execOp ρ o).run Try.prog W = .ok (.value (.int .i64 (n : Int))) W := by
  unfold execOp
  simp only [ho, Sem.run_bind, Sem.run_pure, Result.andThen_ok, resolve, invoke, builtin, List.map_toArray, List.map_cons, List.map_nil, hx]
  go_simp
theorem mkx_sub1 (W : World) (ρ : Operand → Value) (o : Oper) (x : Operand) (ho : o.op = .binOp .sub 3 x (.const (.int .i64 1)) 3) (n : Nat) (hn : n ≤ 300000) (hx : ρ x = .int .i64 ((n + 1 : Nat) : Int)) (hc : ρ (.const (.int .i64 1)) = .int .i64 1) : (execOp ρ o).run Try.prog W = .ok (.value (.int .i64 (n : Int))) W := by
  have hw : IntKind.i64.wrap (n : Int) = (n : Int) := IntWalk.i64_in _ ⟨by omega, by omega⟩
  have he : ((n + 1 : Nat) : Int) - 1 = (n : Int) := by omega
  unfold execOp
  simp only [ho, hx, hc, Sem.run_bind, Sem.run_pure, Result.andThen_ok]
  go_simp
theorem mkx_buildI (W : World) (ρ : Operand → Value) (o : Oper) (x : Operand) (ho : o.op = .buildSlice 66 1 #[(0, x)]) (n : Int) (hx : ρ x = .int .i64 n) :
    (execOp ρ o).run Try.prog W = .ok (.value (.slice (some ⟨W.heap.size, 0, none⟩) 1 1)) (W.alloc (.cells #[.int .i64 n] 3)) := by
  unfold execOp
  simp only [ho, hx, Sem.run_bind, Sem.run_pure, Result.andThen_ok]
  go_simp
theorem mkx_storeIn (W : World) (ρ : Operand → Value) (o : Oper) (x y : Operand) (ho : o.op = .store 66 x y) (b off : Nat) (a : Option Addr) (n c : Nat) (u : Value) (hx : ρ x = .pointer (some ⟨b, off, none⟩)) (hy : ρ y = .slice a n c) (h0 : W.cell? ⟨b, off, none⟩ = some u) (h1 : W.frozen? ⟨b, off, none⟩ = false) : (execOp ρ o).run Try.prog W = .ok .skip (W.setCell ⟨b, off, none⟩ (.slice a n c)) := by
  unfold execOp
  simp only [ho, hx, hy, Sem.run_bind, Sem.run_pure, Result.andThen_ok]
  go_simp
section
variable {ops : Array Oper} {Q : Exit → Act → World → Prop} {K : Act → World → Prop} {a : Act} {w : World}
theorem mkOp_val {i : Nat} {o : Oper} (v : Value) (w' : World) (hi : ops[i]? = some o) (hw : Region.wanted o (yielded ops a.tmps) = true) (ho : (execOp a.eval o).run Try.prog w = .ok (.value v) w')
    (h : K (a.put o.dst v) w') : wpOp Try.prog ops Q i K a w := by
  unfold wpOp
  simp only [hi, hw, if_true, Oper.wp, ho, Oper.upon]
  exact .inl h
theorem mkOp_skip {i : Nat} {o : Oper} (w' : World) (hi : ops[i]? = some o) (hw : Region.wanted o (yielded ops a.tmps) = true) (ho : (execOp a.eval o).run Try.prog w = .ok .skip w')
    (h : K (a.put o.dst undef) w') : wpOp Try.prog ops Q i K a w := by
  unfold wpOp
  simp only [hi, hw, if_true, Oper.wp, ho, Oper.upon]
  exact .inl h
theorem mkOp_wp {i : Nat} {o : Oper} (hi : ops[i]? = some o) (hw : Region.wanted o (yielded ops a.tmps) = true) (h : o.wp Try.prog a w K Q) : wpOp Try.prog ops Q i K a w := by
  unfold wpOp
  simp only [hi, hw, if_true]
  exact .inl h
theorem mkAny_one {md : Region.Mode} {S : World → Prop} (i : Nat) {fuel : Nat} {listed : Array Bool} (hr : Region.ready md ops listed = [i])
    (h : wpOp Try.prog ops Q i (fun a' w' => S w' ∧ wpAnyH Try.prog md ops Q S fuel (listed.setIfInBounds i true) a' w') a w) : wpAnyH Try.prog md ops Q S (fuel + 1) listed a w :=
  wpAnyH_all hr (by simp) (fun j hj => by
    have e : j = i := by simpa using hj
    subst e
    exact h)
theorem mkAny_two {md : Region.Mode} {S : World → Prop} (i j : Nat) {fuel : Nat} {listed : Array Bool} (hr : Region.ready md ops listed = [i, j])
    (h1 : wpOp Try.prog ops Q i (fun a' w' => S w' ∧ wpAnyH Try.prog md ops Q S fuel (listed.setIfInBounds i true) a' w') a w)
    (h2 : wpOp Try.prog ops Q j (fun a' w' => S w' ∧ wpAnyH Try.prog md ops Q S fuel (listed.setIfInBounds j true) a' w') a w) : wpAnyH Try.prog md ops Q S (fuel + 1) listed a w :=
  wpAnyH_all hr (by simp) (fun k hk => by
    simp only [List.mem_cons, List.not_mem_nil, or_false] at hk
    rcases hk with e | e
    · subst e; exact h1
    · subst e; exact h2)
end
end Go.Proofs.Ytbkedgpligcicaa
