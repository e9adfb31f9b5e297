import Derived.Test.YtjndogajdlophaaMkM
import Derived.Deep.DeepCutAuto
namespace Go.Proofs.Ytjndogajdlophaa
open Go Go.RowKit
set_option linter.unusedVariables false
set_option maxRecDepth 100000

theorem suf_same (ts : List Tx) (lo depth : Nat) : suf ts lo lo depth = [] := by simp [suf]
theorem labels_nil_one (n : Nat) (h : n ∈ labelsT [([] : Tx)]) : False := (labelsT_mem.1 h).2 rfl
theorem labels_nil (n : Nat) (h : n ∈ labelsT ([] : List Tx)) : False := (labelsT_mem.1 h).2 rfl
theorem heap_set_same {w : World} {b : Nat} {cs : Array Value} {t : TypeId} (h : w.heap[b]? = some (.cells cs t)) (k : Nat) (u : Value) : (w.setCell ⟨b, k, none⟩ u).heap[b]? = some (.cells (cs.setIfInBounds k u) t) := by
  obtain ⟨hlt, hk⟩ := Array.getElem?_eq_some_iff.1 h
  show (w.heap.modify b _)[b]? = _
  rw [Array.getElem?_eq_getElem (by rw [Array.size_modify]; exact hlt), Array.getElem_modify_self, hk]
  rfl
theorem heap_set_other (w : World) (b k : Nat) (u : Value) (x : Nat) (hx : x ≠ b) : (w.setCell ⟨b, k, none⟩ u).heap[x]? = w.heap[x]? := heap_setCell_other w ⟨b, k, none⟩ x u hx
theorem MkFr.set {w : World} {r : Nat → Role} (b k : Nat) (u : Value) (hb : w.heap.size ≤ b ∨ (r b ≠ .oth ∧ r b ≠ .arc)) : MkFr w (w.setCell ⟨b, k, none⟩ u) r r := by
  have hg : w.grownBy (w.setCell ⟨b, k, none⟩ u) (some b) := ⟨rfl, rfl, rfl, by simp, fun i _ hne => heap_set_other w b k u i (by simpa using hne)⟩
  exact ⟨hg.os, hg.tape, hg.output, hg.size, fun _ _ => rfl, fun i hi hr => heap_set_other w b k u i (by
    rintro rfl
    rcases hb with hb | hb
    · omega
    · rcases hr with hr | hr
      · exact hb.1 hr
      · exact hb.2 hr)⟩
/-- Where make stands among the terms. -/
structure At1 (ts : List Tx) (lo hi depth i : Nat) (fin : Bool) : Prop where
  l1 : lo ≤ i
  l2 : i ≤ hi
  fin : fin = finT (suf ts lo i depth)
  ne : ∀ j, i ≤ j → j < hi → depth < (ts.getD j []).length
  lt : ∀ c q, i < hi → (ts.getD i []).drop depth = c :: q → headLt c (suf ts lo i depth)
theorem drop_cons {t : Tx} {d : Nat} (h : d < t.length) : t.drop d = t.getD d 0 :: t.drop (d + 1) := by
  rw [List.drop_eq_getElem_cons h]; simp [h]
/-- The terms that go on with one byte, and what stands behind them. -/
theorem At1.next {ts : List Tx} {lo hi depth i k : Nat} {fin : Bool} {c : UInt8} (h : At1 ts lo hi depth i fin) (h2 : hi ≤ ts.length) (hr : RiseT (suf ts lo hi depth)) (hik : i < k) (hk : k ≤ hi) (hc : ∀ j, i ≤ j → j < k → (ts.getD j []).getD depth 0 = c) (hn : k < hi → (ts.getD k []).getD depth 0 ≠ c) :
    headIs c (suf ts i k depth) ∧ headLt c (suf ts lo i depth) ∧ At1 ts lo hi depth k fin := by
  have hI : headIs c (suf ts i k depth) := by
    intro t ht
    obtain ⟨j, hj1, hj2, hj3, rfl⟩ := suf_mem ht
    rw [drop_cons (h.ne j hj1 (by omega)), hc j hj1 hj2]
    exact ⟨_, rfl⟩
  have hL : headLt c (suf ts lo i depth) := by
    have e := drop_cons (h.ne i (Nat.le_refl _) (by omega))
    rw [hc i (Nat.le_refl _) hik] at e
    exact h.lt c _ (by omega) e
  refine ⟨hI, hL, ⟨by have := h.l1; omega, hk, ?_, fun j hj1 hj2 => h.ne j (by omega) hj2, fun c' q hkh e => ?_⟩⟩
  · rw [suf_split ts h.l1 (by omega : i ≤ k) (by omega), finT_add hI]; exact h.fin
  · have e2 := drop_cons (h.ne k (by omega) hkh)
    rw [e] at e2
    have ec : c' = (ts.getD k []).getD depth 0 := (List.cons.inj e2).1
    have hne := hn hkh
    rw [← ec] at hne
    have hlt : c.toNat < c'.toNat := by
      rw [suf_split ts (show lo ≤ k by have := h.l1; omega) hk h2] at hr
      have hm1 : c :: ((ts.getD i []).drop (depth + 1)) ∈ suf ts lo k depth := by
        have := suf_in (ts := ts) (lo := lo) (hi := k) (depth := depth) (j := i) h.l1 hik (by omega)
        rw [drop_cons (h.ne i (Nat.le_refl _) (by omega)), hc i (Nat.le_refl _) hik] at this
        exact this
      have hm2 : c' :: q ∈ suf ts k hi depth := by
        have := suf_in (ts := ts) (lo := k) (hi := hi) (depth := depth) (j := k) (Nat.le_refl _) hkh (by omega)
        rw [e] at this
        exact this
      have := (List.pairwise_append.1 hr).2.2 _ hm1 _ hm2
      rw [ltT_cons] at this
      rcases this with h5 | ⟨h5, _⟩
      · exact h5
      · exact absurd h5.symm hne
    rw [suf_split ts h.l1 (by omega : i ≤ k) (by omega)]
    intro t ht
    rcases List.mem_append.1 ht with ht | ht
    · rcases hL t ht with h5 | ⟨d, q', h5, h6⟩
      · exact Or.inl h5
      · exact Or.inr ⟨d, q', h5, by omega⟩
    · obtain ⟨q', h5⟩ := hI t ht
      exact Or.inr ⟨c, q', h5, hlt⟩
/-- What the maker has, on the way through a call. -/
def On (base bm bb : Nat) (aT : Option Addr) (cT : Nat) (ts : List Tx) (O : List (List Tx)) (w : World) (r : Nat → Role) (s lo i depth : Nat) (fin : Bool) (W : World) : Prop :=
  ∃ (O1 : List (List Tx)) (r1 : Nat → Role) (vS : Value) (vb : Nat → Value) (xs : List Value) (cs : Array Value) (va : Value), MkAt W r1 base bm bb aT ts.length cT O1 vS vb xs cs ∧ OkO O1 ∧ O <+: O1 ∧ O1.length + (suf ts lo i depth).length ≤ O.length + szT (suf ts lo i depth) ∧ MkFr w W r r1 ∧ Way W r1 w.heap.size s fin va (stOf O1 (suf ts lo i depth)).2 ∧ Kids O1 (suf ts lo i depth) ∧ TsAt W r1 aT ts
theorem On.below {base bm bb : Nat} {aT : Option Addr} {cT : Nat} {ts : List Tx} {O : List (List Tx)} {w : World} {r : Nat → Role} {s lo i depth : Nat} {fin : Bool} {W W' : World} (h : On base bm bb aT cT ts O w r s lo i depth fin W) (hb : Below W.heap.size W W') : On base bm bb aT cT ts O w r s lo i depth fin W' := by
  obtain ⟨O1, r1, vS, vb, xs, cs, va, h1, h2, h3, h4, h5, h6, h7, h8⟩ := h
  have hf : MkFr W W' r1 r1 := (MkFr.refl W r1).below hb
  exact ⟨O1, r1, vS, vb, xs, cs, va, h1.kept hb.size (fun b hb' _ => hb.block b hb'), h2, h3, h4, h5.trans hf, h6.fr hf, h7, h8.fr hf⟩

/-- One arc more. -/
theorem arc_push {base bm bb : Nat} {aT : Option Addr} {cT : Nat} {ts : List Tx} {O O1 O2 : List (List Tx)} {w : World} {r r2 : Nat → Role} {lo i k depth : Nat} {fin : Bool} {c : UInt8} {W V w6 : World} {vS : Value} {vb : Nat → Value} {xs : List Value} {cs : Array Value} {va : Value} {g6 cp6 : Nat}
    (hmk : MkAt W r2 base bm bb aT ts.length cT O2 vS vb xs cs) (hok : OkO O2) (hp1 : O <+: O1) (hp2 : O1 <+: O2) (hlen1 : O1.length + (suf ts lo i depth).length ≤ O.length + szT (suf ts lo i depth)) (hlen2 : O2.length ≤ O1.length + max 1 (szT (suf ts i k (depth + 1)))) (hfr : MkFr w W r r2) (hway : Way W r2 w.heap.size w.heap.size fin va (stOf O1 (suf ts lo i depth)).2) (hkids : Kids O1 (suf ts lo i depth)) (hts : TsAt w r aT ts)
    (hI : headIs c (suf ts i k depth)) (hL : headLt c (suf ts lo i depth)) (hlo : lo ≤ i) (hik : i < k) (hkt : k ≤ ts.length) (hmem : suf ts i k (depth + 1) ∈ O2)
    (hV : Below W.heap.size W V) (hVs : V.heap.size ≤ W.heap.size + 1) (hown : w6.ownsRow w.heap.size 110 3 (.slice (some ⟨g6, 0, none⟩) ((stOf O1 (suf ts lo i depth)).2.length + 1) cp6) ((stOf O1 (suf ts lo i depth)).2.length + 1) (aC (stOf O1 (suf ts lo i depth)).2 ++ [.int .i64 (c.toNat : Int), .int .i64 ((O2.idxOf (suf ts i k (depth + 1)) : Nat) : Int), .int .i64 ((i : Int) - (lo : Int))])) (hg : V.grownBy w6 va.ownBlock) (hat : va.ownBlock = some g6 ∨ g6 = V.heap.size) (hlt : g6 < w6.heap.size) :
    w6.cell? ⟨w.heap.size, 1, none⟩ = some va ∧ w6.frozen? ⟨w.heap.size, 1, none⟩ = false ∧ On base bm bb aT cT ts O w r w.heap.size lo k depth fin (w6.setCell ⟨w.heap.size, 1, none⟩ (.slice (some ⟨g6, 0, none⟩) ((stOf O1 (suf ts lo i depth)).2.length + 1) cp6)) := by
  have hs : w.heap.size < W.heap.size := (Array.getElem?_eq_some_iff.1 hway.box).1
  have hblk : ∀ b, b < W.heap.size → va.ownBlock ≠ some b → w6.heap[b]? = W.heap[b]? := fun b hb hne => (hg.block b (Nat.lt_of_lt_of_le hb hV.size) (fun e => hne e.symm)).trans (hV.block b hb)
  have hsne : va.ownBlock ≠ some w.heap.size := fun e => (hway.rv _ e).2.1 rfl
  have hbox : w6.heap[w.heap.size]? = some (.cells #[.bool fin, va] 104) := (hblk _ hs hsne).trans hway.box
  have hsz6 : W.heap.size ≤ w6.heap.size := Nat.le_trans hV.size hg.size
  have hne : suf ts i k depth ≠ [] := fun e => by have := congrArg List.length e; rw [suf_len ts (by omega) hkt] at this; simp at this; omega
  have hsp := suf_split ts (depth := depth) hlo (show i ≤ k by omega) hkt
  have hmt := suf_tail ts i k depth
  have hk2 : Kids O2 (suf ts lo k depth) := by
    rw [hsp]
    exact (hkids.pre hp2).add hI hne hL (by rw [hmt]; exact hmem)
  have hst : (stOf O2 (suf ts lo k depth)).2 = (stOf O1 (suf ts lo i depth)).2 ++ [((c.toNat : Int), ((O2.idxOf (suf ts i k (depth + 1)) : Nat) : Int), (i : Int) - (lo : Int))] := by
    rw [hsp, stOf_add O2 hI hne hL, stOf_pre hp2 hkids, hmt, suf_len ts hlo (by omega)]
    simp only [List.append_cancel_left_eq, List.cons.injEq, and_true, Prod.mk.injEq, true_and]
    omega
  have hfresh : ∀ b, W.heap.size ≤ b → r2 b = .oth := hmk.new
  have hg6 : r2 g6 = .oth ∧ g6 ≠ w.heap.size := by
    rcases hat with e | e
    · exact ⟨(hway.rv g6 e).1, (hway.rv g6 e).2.1⟩
    · have := hV.size
      exact ⟨hfresh g6 (by omega), by omega⟩
  have hset : ∀ b, b ≠ w.heap.size → ∀ u, (w6.setCell ⟨w.heap.size, 1, none⟩ u).heap[b]? = w6.heap[b]? := fun b hb u => heap_set_other w6 w.heap.size 1 u b hb
  refine ⟨blkc hbox 1, frozen_of_row w6 w.heap.size 1 _ _ hbox, O2, r2, vS, vb, xs, cs, .slice (some ⟨g6, 0, none⟩) ((stOf O1 (suf ts lo i depth)).2.length + 1) cp6, ?_, hok, hp1.trans hp2, ?_, ?_, ?_, hk2, ?_⟩
  · refine hmk.kept (by simpa using hsz6) fun b hb hr => ?_
    rw [hset b (by rintro rfl; exact hr hway.rs)]
    exact hblk b hb fun e => hr (hway.rv b e).1
  · have e1 := szT_tail hI
    rw [hmt] at e1
    have e2 := szT_append (suf ts lo i depth) (suf ts i k depth)
    rw [← hsp] at e2
    have e3 := suf_len ts (lo := i) (hi := k) (depth := depth) (by omega) hkt
    have e4 := suf_len ts (lo := lo) (hi := i) (depth := depth) hlo (by omega)
    have e5 := suf_len ts (lo := lo) (hi := k) (depth := depth) (by omega) hkt
    have e6 := szT_ge (suf ts i k (depth + 1))
    have e7 := suf_len ts (lo := i) (hi := k) (depth := depth + 1) (by omega) hkt
    omega
  · exact ⟨hg.os.trans (hV.os.trans hfr.os), hg.tape.trans (hV.tape.trans hfr.tape), hg.output.trans (hV.output.trans hfr.output), by have := hfr.size; simp; omega, fun b hb => hfr.role b hb, fun b hb hr => by
      rw [hset b (by omega)]
      refine (hblk b (Nat.lt_of_lt_of_le hb hfr.size) fun e => ?_).trans (hfr.keep b hb hr)
      have := (hway.row.lt b e).1
      omega⟩
  · rw [hst]
    refine ⟨heap_set_same hbox 1 _, hway.rs, ?_, fun b hb => ?_⟩
    · rw [List.length_append, aC_snoc]
      exact own_congr hown fun b hb => hset b (by cases hb; exact hg6.2) _
    · cases hb
      exact ⟨hg6.1, hg6.2, by simpa using hlt⟩
  · exact hts.fr ⟨hg.os.trans (hV.os.trans hfr.os), hg.tape.trans (hV.tape.trans hfr.tape), hg.output.trans (hV.output.trans hfr.output), by have := hfr.size; simp; omega, fun b hb => hfr.role b hb, fun b hb hr => by
      rw [hset b (by omega)]
      refine (hblk b (Nat.lt_of_lt_of_le hb hfr.size) fun e => ?_).trans (hfr.keep b hb hr)
      have := (hway.row.lt b e).1
      omega⟩

theorem Try.infoArc : (Try.prog.info? 110).map (fun i => (i.zero, i.size, i.bytes)) = some (some (.agg #[.int .i64 0, .int .i64 0, .int .i64 0]), 3, 24) := by kernel_rfl
theorem labelsT_len (L : List Tx) : (labelsT L).length ≤ 256 := by
  have := List.length_filter_le (fun n => !(subT n L).isEmpty) (List.range 256)
  simpa [labelsT] using this
/-- What a call leaves for the arc. -/
def CallPost (base bm bb : Nat) (aT : Option Addr) (cT : Nat) (ts : List Tx) (O : List (List Tx)) (w : World) (r : Nat → Role) (lo i k depth : Nat) (fin : Bool) (e : Ending) (w' : World) : Prop :=
  ∃ (O1 O2 : List (List Tx)) (r2 : Nat → Role) (vS : Value) (vb : Nat → Value) (xs : List Value) (cs : Array Value) (va : Value), e = .returned (.int .i64 ((O2.idxOf (suf ts i k (depth + 1)) : Nat) : Int)) ∧ MkAt w' r2 base bm bb aT ts.length cT O2 vS vb xs cs ∧ OkO O2 ∧ O <+: O1 ∧ O1 <+: O2 ∧ O1.length + (suf ts lo i depth).length ≤ O.length + szT (suf ts lo i depth) ∧ O2.length ≤ O1.length + max 1 (szT (suf ts i k (depth + 1))) ∧ MkFr w w' r r2 ∧ Way w' r2 w.heap.size w.heap.size fin va (stOf O1 (suf ts lo i depth)).2 ∧ Kids O1 (suf ts lo i depth) ∧ suf ts i k (depth + 1) ∈ O2
theorem call_any {base bm bb : Nat} {aT : Option Addr} {cT : Nat} {ts : List Tx} {f : Nat} (ih : MakeN base bm bb aT cT ts f) {O : List (List Tx)} {w W : World} {r : Nat → Role} {lo hi i k depth : Nat} {fin : Bool} {c : UInt8} (h3 : ts.length ≤ 4096) (h2 : hi ≤ ts.length) (hlen : ∀ t ∈ suf ts lo hi depth, t.length < f + 1) (hdf : depth + (f + 1) ≤ 1000) (hrise : RiseT (suf ts lo hi depth)) (hsz : O.length + szT (suf ts lo hi depth) + 1 ≤ 300000) (hbase : base ≤ w.heap.size)
    (hat : At1 ts lo hi depth i fin) (hon : On base bm bb aT cT ts O w r w.heap.size lo i depth fin W) (hI : headIs c (suf ts i k depth)) (hik : i < k) (hkh : k ≤ hi) :
    Calls Try.prog 66 #[.pointer (some ⟨bm, 0, none⟩), .int .i64 (i : Int), .int .i64 (k : Int), .int .i64 ((depth : Int) + 1)] W fun e w' => CallPost base bm bb aT cT ts O w r lo i k depth fin e w' := by
  obtain ⟨O1, r1, vS1, vb1, xs1, cs1, va, hmk, hok, hpre, hlen1, hfr, hway, hkids, hts⟩ := hon
  have hl := hat.l1
  have e1 := szT_tail hI
  rw [suf_tail] at e1
  have e2 := szT_append (suf ts lo i depth) (suf ts i hi depth)
  rw [← suf_split ts hl hat.l2 h2] at e2
  have e3 := szT_append (suf ts i k depth) (suf ts k hi depth)
  rw [← suf_split ts (show i ≤ k by omega) hkh h2] at e3
  have e4 := suf_len ts (lo := i) (hi := k) (depth := depth) (by omega) (by omega)
  have e5 := suf_len ts (lo := lo) (hi := i) (depth := depth) hl (by omega)
  have hr2 : RiseT (suf ts i k (depth + 1)) := by
    rw [← suf_tail, ← subT_headIs hI]
    rw [suf_split ts hl hat.l2 h2, suf_split ts (show i ≤ k by omega) hkh h2] at hrise
    exact subT_rise (rise_left (rise_right hrise))
  have := ih i k (depth + 1) W r1 O1 vS1 vb1 xs1 cs1 hik (by omega) h3 (fun t ht => by
      obtain ⟨j, hj1, hj2, hj3, rfl⟩ := suf_mem ht
      have h5 := hlen _ (suf_in (depth := depth) (show lo ≤ j by omega) (show j < hi by omega) hj3)
      have h6 := hat.ne j hj1 (by omega)
      rw [List.length_drop] at h5 ⊢
      omega) (by omega) (fun j hj1 hj2 => hat.ne j hj1 (by omega)) hr2 hmk hok hts (by omega) (Nat.le_trans hbase hfr.size)
  rw [show ((depth + 1 : Nat) : Int) = (depth : Int) + 1 from by omega] at this
  refine this.mono ?_
  rintro e w' ⟨O2, r2, vS2, vb2, xs2, cs2, rfl, q1, q2, q3, q4, q5, q6⟩
  exact ⟨O1, O2, r2, vS2, vb2, xs2, cs2, va, rfl, q1, q2, hpre, q3, hlen1, q5, hfr.trans q6, hway.fr q6, hkids, q4⟩
theorem TsAt.text {w W : World} {r r' : Nat → Role} {g off : Nat} {ts : List Tx} (h : TsAt w r (some ⟨g, off, none⟩) ts) (hf : MkFr w W r r') {j : Nat} (hj : j < ts.length) : W.cell? ⟨g, off + j, none⟩ = some (.string ⟨(ts.getD j []).toArray⟩) := by
  rcases h.fr hf with h | ⟨g', off', e, _, _, hc⟩
  · rw [h] at hj; simp at hj
  · cases e
    exact hc j hj
end Go.Proofs.Ytjndogajdlophaa
