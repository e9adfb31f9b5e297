import Derived.RangeFuncNested
import Derived.RangeFuncBound
import Derived.RangeFuncCalls
import Derived.RangeFuncLeaves
import Derived.RangeFuncFrom
import Derived.Shelf.Abstract
import Derived.Shelf.RegionOpen
import Derived.WalkKit
import Derived.OwnWalkIn
import Derived.TacticsInMore
import Derived.LoopNIn
import Derived.LoopIn
import Derived.Test.YtjndogajdlophaaDictRangeJ14
import Derived.Deep.DeepCutAuto
import Derived.Deep.CutBlock
import Derived.Test.YtjndogajdlophaaDictRangeJ01
import Derived.Test.YtjndogajdlophaaDictRangeJ04
namespace Go.Proofs.Ytjndogajdlophaa
open Go Go.RowKit Go.Shelf
set_option linter.unusedVariables false
set_option maxRecDepth 100000

/-- A loop that counts: its box, its record, the place of its deferred calls. -/
structure Cnt (cb h : Nat) (r : Loop) (k : Nat) (W : World) : Prop where
  box : W.heap[cb]? = some (.cells #[.int .i64 (k : Int)] 3)
  rc : W.heap[h + 1]? = some (.loop r)
  df : W.heap[h]? = some (.deferred (some []))
theorem Cnt.but {cb h k : Nat} {r : Loop} {W W' : World} {X : Nat → Prop} (c : Cnt cb h r k W) (hb : But X W W') (hx : ¬ X cb ∧ ¬ X h ∧ ¬ X (h + 1)) : Cnt cb h r k W' :=
  ⟨(hb.block cb (Array.getElem?_eq_some_iff.1 c.box).1 hx.1).trans c.box, (hb.block _ (Array.getElem?_eq_some_iff.1 c.rc).1 hx.2.2).trans c.rc, (hb.block _ (Array.getElem?_eq_some_iff.1 c.df).1 hx.2.1).trans c.df⟩
/-- What one round does. -/
def YieldC (P : Program) (cb h : Nat) (r : Loop) : Prop := ∀ (m k : Nat) (x : Value) (W : World), k < 4096 → Cnt cb h r k W →
  YieldAt Fence.wide m P (h + 1) #[x] W fun e W' => e = .returned (.bool true) ∧ Cnt cb h r (k + 1) W' ∧ But (fun b => b = cb) W W'
theorem range_count {n : Nat} {P : Program} {g : Operand} {ps : Array Tmp} {assign body : Code} {Q : Exit → Act → World → Prop} {a : Act} {w : World} {cb gf N : Nat} {lb : Array Value} {X : Nat → Prop}
    (hg : a.eval g = .func (.func gf) #[] lb) (eg : ∀ args w, (callFunc gf args).run P w = .ok (.enter gf args) w) (hps : ps.size = 1)
    (hbox : w.heap[cb]? = some (.cells #[.int .i64 0] 3)) (hX : ¬ X (w.heap.size + 1) ∧ ¬ X w.heap.size)
    (hit : ∀ (r : Loop) (W1 : World), Below w.heap.size w W1 → YieldC P cb w.heap.size r → Cnt cb w.heap.size r 0 W1 →
      CallsIn Fence.wide (n - 1) P gf (#[.func (.yield (w.heap.size + 1)) #[] #[]] ++ lb) W1 fun e W' => (∃ v, e = .returned v) ∧ Cnt cb w.heap.size r N W' ∧ But X W1 W')
    (a₁ : Value → Act)
    (hassign : ∀ (l m : Nat) (x : Value) (W : World) (K : Act → World → Prop), K (a₁ x) W → assign.wpIn (Fence.wide.inRound l) m P (Exit.then K (fun _ _ _ => False)) { tmps := (ps.zip #[x]).foldl (fun t (p, v) => t.setIfInBounds p v) a.tmps, defers := [] } W)
    (hbody : ∀ (l m k : Nat) (x : Value) (W : World), k < 4096 → W.heap[cb]? = some (.cells #[.int .i64 (k : Int)] 3) → body.wpIn (Fence.wide.inRound l) m P (fun e _ W' => e = .normal ∧ W' = W.setCell ⟨cb, 0, none⟩ (.int .i64 ((k + 1 : Nat) : Int))) (a₁ x) W)
    (hdone : ∀ W' : World, W'.heap[cb]? = some (.cells #[.int .i64 (N : Int)] 3) → But X w W' → W'.heap[w.heap.size]? = some (.deferred (some [])) → Q .normal { a with defers := { target := .collected w.heap.size, args := #[] } :: a.defers } W') :
    (Code.rangeFunc g ps assign body).wpIn Fence.wide n P Q a w := by
  have hcb : cb < w.heap.size := (Array.getElem?_eq_some_iff.1 hbox).1
  refine wpIn_rangeFunc fun fn hfn => ?_
  obtain ⟨r0, hr0⟩ : ∃ r0 : Loop, r0 = { state := .ready, pending := none, fn, tmps := a.tmps, params := ps, assign, body, defers := w.heap.size } := ⟨_, rfl⟩
  obtain ⟨W1, hW1⟩ : ∃ W1, (w.alloc (.deferred (some []))).alloc (.loop r0) = W1 := ⟨_, rfl⟩
  have hB1 : Below w.heap.size w W1 := by rw [← hW1]; exact ((Below.refl _ w).alloc (Nat.le_refl _) _).alloc (by simp) _
  have hC1 : Cnt cb w.heap.size r0 0 W1 := by
    refine ⟨(hB1.block cb hcb).trans hbox, ?_, ?_⟩
    · rw [← hW1]; have := World.alloc_heap_new (w.alloc (.deferred (some []))) (.loop r0); rwa [World.size_alloc] at this
    · rw [← hW1]; exact (Below.heap_alloc _ _ _ (by simp)).trans (World.alloc_heap_new w _)
  refine ⟨w.heap.size + 1, [{ target := .collected w.heap.size, args := #[] }], W1, { target := .fn (.func gf) lb, args := #[.func (.yield (w.heap.size + 1)) #[] #[]] }, W1, gf,
    #[.func (.yield (w.heap.size + 1)) #[] #[]] ++ lb, W1, ?_, ?_, fun _ _ => trivial, ?_, fun h => (by cases h), ?_⟩
  · rw [← hW1, hr0]; exact run_enterLoop_outer _ _ _ _ _
  · simp only [resolve, hg]
    simp [go_sem]
  · simp [invoke, go_sem, eg]
  · refine (hit r0 W1 hB1 ?_ hC1).mono ?_
    · intro m k x W hk hc
      have hl := hc.rc
      have hlt : w.heap.size + 1 < W.heap.size := (Array.getElem?_eq_some_iff.1 hl).1
      have hy := run_yield (P := P) (args := #[x]) hl (by rw [hr0]; simp [hps])
      rw [hr0] at hy
      refine ⟨fn, _, assign, body, hy, roundIn_of_wpIn hfn (hassign _ m x W _ ⟨_, run_beginRound hl (by rw [hr0]), ?_⟩)⟩
      obtain ⟨W2, hW2⟩ : ∃ W2, W.putObj (w.heap.size + 1) (.loop { r0 with state := .busy }) = W2 := ⟨_, rfl⟩
      rw [hW2]
      have hb2 : W2.heap[cb]? = some (.cells #[.int .i64 (k : Int)] 3) := by rw [← hW2]; exact (World.putObj_heap_other (by omega)).trans hc.box
      have hl2 : W2.heap[w.heap.size + 1]? = some (.loop { r0 with state := .busy }) := by rw [← hW2]; exact World.putObj_heap_same hlt
      refine wpIn_mono (hbody (w.heap.size + 1) m k x W2 hk hb2) ?_
      rintro e a3 W3 ⟨rfl, hW3⟩
      have hl3 : W3.heap[w.heap.size + 1]? = some (.loop { r0 with state := .busy }) := by rw [hW3]; exact (heap_set_other W2 cb 0 _ _ (by omega)).trans hl2
      have hlt3 := (Array.getElem?_eq_some_iff.1 hl3).1
      have hb3 : W3.heap[cb]? = some (.cells #[.int .i64 ((k + 1 : Nat) : Int)] 3) := by rw [hW3]; exact heap_setCell_same W2 cb 0 _ _ _ hb2
      have hend := run_endRound (P := P) none hl3
      have hrec : ({ { r0 with state := .busy } with state := if (none : Option Code).isNone then .ready else .done, pending := none } : Loop) = r0 := by rw [hr0]; rfl
      rw [hrec] at hend
      have ho : ∀ b, b ≠ cb → (W3.putObj (w.heap.size + 1) (.loop r0)).heap[b]? = W.heap[b]? := fun b hb => by
        by_cases e : b = w.heap.size + 1
        · rw [e, World.putObj_heap_same hlt3]; exact hl.symm
        · rw [World.putObj_heap_other e, hW3, heap_set_other W2 cb 0 _ b hb, ← hW2, World.putObj_heap_other e]
      refine ⟨_, _, hend, rfl, ⟨(World.putObj_heap_other (by omega)).trans hb3, (ho _ (by omega)).trans hl, (ho _ (by omega)).trans hc.df⟩, ?_⟩
      exact ⟨by rw [hW3, ← hW2]; rfl, by rw [hW3, ← hW2]; rfl, by rw [hW3, ← hW2]; rfl, by rw [hW3, ← hW2]; simp [World.putObj], fun b _ hb => ho b hb⟩
    · rintro e W2 ⟨⟨v, rfl⟩, hc, hb⟩
      have hend := run_endLoop (P := P) hc.rc (by rw [hr0]; simp)
      have hpn : r0.pending = none := by rw [hr0]
      rw [hpn] at hend
      have hq1 : cb ≠ w.heap.size + 1 := by omega
      have hq2 : w.heap.size ≠ w.heap.size + 1 := by omega
      refine ⟨none, _, hend, hdone _ ((World.putObj_heap_other hq1).trans hc.box) ?_ ((World.putObj_heap_other hq2).trans hc.df)⟩
      · refine ⟨hb.os.trans hB1.os, hb.tape.trans hB1.tape, hb.output.trans hB1.output, ?_, fun b hlt hn => ?_⟩
        · have := hB1.size; have := hb.size; simp [World.putObj]; omega
        · rw [World.putObj_heap_other (by omega), hb.block b (Nat.lt_of_lt_of_le hlt hB1.size) hn]
          exact hB1.block b hlt
end Go.Proofs.Ytjndogajdlophaa

namespace Go.Proofs.Ytjndogajdlophaa
open Go Go.RowKit Go.Shelf
set_option linter.unusedVariables false
set_option maxRecDepth 100000
attribute [local go_sem] Oper.semAt_some

theorem convX_own {w : World} {base n : Nat} {v : Value} {bs : List UInt8} (h : w.ownsRow base 5 1 v n (Lib.byteCells bs)) (hl : bs.length = n) :
    (convert 34 9 v).run Try.prog w = .ok (.string ⟨bs.toArray⟩) w := by
  rcases own_cases h with ⟨rfl, rfl⟩ | ⟨g, cp, rfl, _, _⟩
  · have : bs = [] := List.length_eq_zero_iff.1 hl
    subst this
    exact run_convert_bytes_nil w 34 5 Try.underlying34 Try.underlying5 0 0 9 Try.underlying9
  · subst hl
    refine run_convert_bytes_back w 34 9 5 ⟨g, 0, none⟩ cp bs Try.underlying34 Try.underlying5 Try.underlying9 fun j hj => ?_
    have := own_bytes h rfl j hj
    rw [show (⟨g, 0, none⟩ : Addr).add j = ⟨g, 0 + j, none⟩ from by simp only [Addr.add]; split <;> simp_all]
    simpa [hj] using this
/-- The blocks that tell writes. -/
def TX (cb : Nat) (gv : Value) : Nat → Prop := fun b => b = cb ∨ gv.ownBlock = some b
/-- What tell leaves. -/
def TellPost (cb h0 : Nat) (r : Loop) (lo : Nat) (p : Tx) (gv : Value) (m : Nat) (W : World) (e : Ending) (W' : World) : Prop :=
  e = .returned (.bool true) ∧ Cnt cb h0 r m W' ∧ W'.ownsRow lo 5 1 gv p.length (Lib.byteCells p) ∧ But (TX cb gv) W W'
theorem own_ne_cnt {W : World} {lo cb h0 k n : Nat} {r : Loop} {gv : Value} {xs : List Value} (h : W.ownsRow lo 5 1 gv n xs) (c : Cnt cb h0 r k W) : gv.ownBlock ≠ some cb ∧ gv.ownBlock ≠ some h0 ∧ gv.ownBlock ≠ some (h0 + 1) := by
  refine ⟨fun e => ?_, fun e => ?_, fun e => ?_⟩
  · obtain ⟨_, cur, hc⟩ := own_blk h e
    exact blk_ne hc c.box (by decide) rfl
  · obtain ⟨_, cur, hc⟩ := own_blk h e
    rw [c.df] at hc; cases hc
  · obtain ⟨_, cur, hc⟩ := own_blk h e
    rw [c.rc] at hc; cases hc
/-- The bytes that were there when an arc was followed and told. -/
theorem own_kin {W W2 W3 : World} {lo B cb : Nat} {gv gv' : Value} {p : Tx} {x : UInt8} (h : W.ownsRow lo 5 1 gv p.length (Lib.byteCells p)) (hk : Kin lo B gv gv' p W W2) (hne : gv.ownBlock ≠ some B) (hcb : gv.ownBlock ≠ some cb)
    (ho : W3.ownsRow lo 5 1 gv' (p ++ [x]).length (Lib.byteCells (p ++ [x]))) (hb : But (TX cb gv') W2 W3) (hs : W.heap.size ≤ W2.heap.size) : W3.ownsRow lo 5 1 gv p.length (Lib.byteCells p) := by
  rcases hk with ⟨g, cap, cap', rfl, rfl⟩ | ⟨h1, h2⟩
  · obtain ⟨a1, a2⟩ := h
    obtain ⟨b1, b2⟩ := ho
    refine ⟨a1, ?_⟩
    rcases b2 with ⟨e, _⟩ | ⟨g', cap2, cur, e, hb', hc, hn, hm, hsz, ht⟩
    · cases e
    rcases a2 with ⟨e2, _⟩ | ⟨g2, cap3, cur2, e2, hb2, hc2, hn2, hm2, hsz2, ht2⟩
    · cases e2
    simp only [Value.slice.injEq, Option.some.injEq, Addr.mk.injEq] at e e2
    obtain ⟨⟨rfl, _⟩, rfl, rfl⟩ := e
    obtain ⟨⟨rfl, _⟩, _, rfl⟩ := e2
    refine .inr ⟨g, cap, cur, rfl, hb2, hc, hn2, hm2, hsz, ?_⟩
    have := congrArg (List.take (p.length * 1)) ht
    rw [List.take_take, byteCells_snoc] at this
    rw [show min (p.length * 1) ((p ++ [x]).length * 1) = p.length * 1 by simp] at this
    rw [this, List.take_append_of_le_length (by rw [a1]; exact Nat.le_refl _), ← a1, List.take_length]
  · refine own_congr h fun b hb' => ?_
    have hlt := (h.lt b hb').2
    have hnB : b ≠ B := fun e => hne (by rw [hb', e])
    rw [hb.block b (by omega) (fun e => by
      rcases e with e | e
      · exact hcb (by rw [hb', e])
      · have := h1 b e; omega)]
    exact h2 b hlt hnB
section
variable {w0 : World} {aS : Option Addr} {cS : Nat} {S : List St} {ts : List Tx} {ord : List (List Tx)} {cb h0 lo : Nat} {r : Loop}
/-- What tell is asked, at texts of at most h bytes. -/
def TellC (w0 : World) (aS : Option Addr) (cS : Nat) (S : List St) (ord : List (List Tx)) (cb h0 lo : Nat) (r : Loop) (h : Nat) : Prop :=
  ∀ (L : List Tx) (p : Tx) (gv : Value) (k m : Nat) (W : World), L ∈ ord → RiseT L → (∀ s ∈ L, s.length < h) → p.length + h ≤ 1000000 → k + L.length ≤ 8192 → m + L.length ≤ 4096 →
    Cnt cb h0 r m W → W.ownsRow lo 5 1 gv p.length (Lib.byteCells p) → Below w0.heap.size w0 W → lo ≤ W.heap.size →
    Calls Try.prog 63 #[.agg #[.slice aS S.length cS, .int .i64 ((ord.idxOf L : Nat) : Int), gv, .int .i64 (k : Int)], .func (.yield (h0 + 1)) #[] #[]] W (TellPost cb h0 r lo p gv (m + L.length) W)
set_option maxHeartbeats 8000000 in
theorem tell_step (hd : DictAt ts ord S) (hy : YieldC Try.prog cb h0 r) (hold : HoldS w0 aS S) (hlo : w0.heap.size ≤ lo) (hcb : w0.heap.size ≤ cb) {h : Nat} (ih : TellC w0 aS cS S ord cb h0 lo r h) : TellC w0 aS cS S ord cb h0 lo r (h + 1) := by
  intro L p gv k m W hL hr hsh hp hk hm hc ho hb hlW
  obtain ⟨ag, cg, rfl⟩ := own_form ho
  have hiL := hd.lt hL
  have HX : Hid (CurX w0 (W.alloc (.cells #[.slice aS S.length cS, .int .i64 ((ord.idxOf L : Nat) : Int), .slice ag p.length cg, .int .i64 (k : Int)] 63)) lo W.heap.size aS cS S (ord.idxOf L) k p (Value.slice ag p.length cg)) := by
    refine ⟨hb.trans (((Below.refl _ _).alloc (Nat.le_refl _) _).mono hb.size), hold, hb.size, hlo, fun e => ?_, heap_alloc_new W _, ho.alloc _⟩
    have := (ho.lt _ e).2
    omega
  have HC : Hid (Cnt cb h0 r m (W.alloc (.cells #[.slice aS S.length cS, .int .i64 ((ord.idxOf L : Nat) : Int), .slice ag p.length cg, .int .i64 (k : Int)] 63))) := hc.but (X := fun _ => False) (But.of_below ((Below.refl _ _).alloc (Nat.le_refl _) _)) ⟨id, id, id⟩
  have HB1 : Hid (Below W.heap.size W (W.alloc (.cells #[.slice aS S.length cS, .int .i64 ((ord.idxOf L : Nat) : Int), .slice ag p.length cg, .int .i64 (k : Int)] 63))) := (Below.refl _ _).alloc (Nat.le_refl _) _
  have HNe := hidd (own_ne_cnt ho hc)
  have hcbW : cb < W.heap.size := (Array.getElem?_eq_some_iff.1 hc.box).1
  have Hgl : Hid (∀ b, (Value.slice ag p.length cg).ownBlock = some b → b < W.heap.size) := fun b e => (ho.lt b e).2
  have HD := hidd hd
  have HL := hidd hL
  have HR := hidd hr
  have HSh := hidd hsh
  have HIh := hidd ih
  have HY := hidd hy
  have HF := hidd (hd.fin hL)
  have Ht0 := hidd (toldAt_zero hr)
  have Hte := hidd (toldAt_end L)
  clear hc ho hb hd hL hr hsh ih hy hold
  obtain ⟨ix, hix⟩ : ∃ ix, ord.idxOf L = ix := ⟨_, rfl⟩
  rw [hix] at HX HC HB1 HF hiL
  rw [hix]
  go_enter Try.func63, Try.ntmps63
  go_upto_region 1 with fail
  obtain ⟨W1, hW1⟩ : ∃ W1, W.alloc (.cells #[.slice aS S.length cS, .int .i64 (ix : Int), (Value.slice ag p.length cg), .int .i64 (k : Int)] 63) = W1 := ⟨_, rfl⟩
  rw [hW1] at HX HC HB1
  try rw [hW1]
  clear hW1
  have hsz1 : W.heap.size < W1.heap.size := (Array.getElem?_eq_some_iff.1 HX.out.box).1
  have HFin := hidd (finalX_any HX.out hiL)
  rw [HF.out] at HFin
  go_cut [16] (fun v wy => v = .bool false ∧ Cnt cb h0 r (m + toldAt L 0) wy ∧ But (fun b => b = cb) W1 wy)
  case first =>
    cases hf : finT L with
    | true =>
      rw [hf] at HFin Ht0
      have hlen : 0 < L.length := by
        cases L with
        | nil => simp [finT] at hf
        | cons a b => simp
      have HYq : Hid (∀ q, YieldAt Fence.wide 3 Try.prog (h0 + 1) #[.string ⟨p.toArray⟩] (W1.drewN q) fun e W' => e = .returned (.bool true) ∧ Cnt cb h0 r (m + 1) W' ∧ But (fun b => b = cb) (W1.drewN q) W') := fun q => HY.out 3 m _ _ (by omega) (HC.out.but (X := fun _ => False) (But.of_below (below_drewN (Below.refl _ _) q)) ⟨id, id, id⟩)
      have HCv : Hid (∀ q, (convert 34 9 (Value.slice ag p.length cg)).run Try.prog (W1.drewN q) = .ok (.string ⟨p.toArray⟩) (W1.drewN q)) := fun q => convX_own (own_below HX.out.row (below_drewN (Below.refl _ _) q)) rfl
      have x2 := blkc HX.out.box 2
      clear hf
      refine (wpIn_wide (n := 4)).1 ?_
      gi_wp2_with fail
      refine ⟨trivial, ((callsIn_wide (n := 3)).2 HFin.out).mono ?_⟩
      clear HFin
      rintro e w2 ⟨rfl, q, rfl⟩
      have xc := HCv.out q
      obtain ⟨fn, tmps, assign, body, hyr, hR⟩ := HYq.out q
      dsimp only
      gi_wp2_with fail
      refine hR.mono ?_
      rintro e W3 ⟨rfl, hc3, hb3⟩
      have HC3 := hidd hc3
      have HB3 := hidd (But.trans (X := fun b => b = cb) (Z := fun b => b = cb) (But.of_below (below_drewN (Below.refl W1.heap.size W1) q)) hb3 (fun _ _ h => h) (fun _ _ h => h))
      clear hc3 hb3
      gi_wp2
      go_meet
      case rel => exact ⟨rfl, by rw [Ht0.out]; exact HC3.out, HB3.out⟩
    | false =>
      rw [hf] at HFin Ht0
      clear hf
      go_wp2_with fail
      refine HFin.out.mono ?_
      rintro e w2 ⟨rfl, q, rfl⟩
      dsimp only
      go_wp2_with fail
      go_meet
      case rel => exact ⟨rfl, by rw [Ht0.out]; exact HC.out.but (X := fun _ => False) (But.of_below (below_drewN (Below.refl _ _) q)) ⟨id, id, id⟩, But.of_below (below_drewN (Below.refl _ _) q)⟩
  case rest =>
    obtain ⟨rfl, hcC, hbC⟩ := hcut
    have HCc := hidd hcC
    have HBc := hidd hbC
    clear hcC hbC HFin
    have HXc : Hid (CurX w0 wc lo W.heap.size aS cS S ix k p (Value.slice ag p.length cg)) := by
      refine ⟨HX.out.old.trans (HBc.out.below (HX.out.old.size) (fun i hi e => by omega)), HX.out.hold, HX.out.new, HX.out.newl, HX.out.ne, (HBc.out.block _ hsz1 (by omega)).trans HX.out.box, own_congr HX.out.row fun b hb => HBc.out.block b (HX.out.row.lt b hb).2 (fun e => HNe.out.1 (by rw [hb, e]))⟩
    have HAr := hidd (arcsX_any HXc.out hiL)
    rw [← hix, HD.out.arcs HL.out] at HAr
    have hal : (stOf ord L).2.length ≤ 256 := by have := labelsT_len L; simpa [stOf] using this
    have hall : (stOf ord L).2.length = (labelsT L).length := by simp [stOf]
    obtain ⟨l, hl⟩ : ∃ l, (stOf ord L).2 = l := ⟨_, rfl⟩
    rw [hl] at HAr hal hall
    have Hl := hidd hl
    have Hall := hidd hall
    clear hl hall
    go_wp2_with fail
    refine HAr.out.mono ?_
    rintro e w2 ⟨ai, ci, q, rfl, hA1, hw2⟩
    have HB2 : Hid (Below wc.heap.size wc w2) := by rw [hw2]; exact below_drewN (Below.refl _ _) q
    have HC2 := hidd (HCc.out.but (X := fun _ => False) (But.of_below HB2.out) ⟨id, id, id⟩)
    have HX2 := hidd (HXc.out.below HB2.out)
    have HA1 := hidd hA1
    have HB12 : Hid (But (TX cb (Value.slice ag p.length cg)) W1 w2) := HBc.out.trans (But.of_below (X := fun _ => False) HB2.out) (fun _ _ h => .inl h) (fun _ _ h => h.elim)
    clear hw2 hA1 HAr HB2 HCc HXc HBc HX HC
    dsimp only
    go_wp2_with fail
    go_loopw [19] (fun iv wr => ∃ j : Nat, j ≤ l.length ∧ iv = .int .i64 (j : Int) ∧ Cnt cb h0 r (m + toldAt L j) wr ∧ CurX w0 wr lo W.heap.size aS cS S ix k p (Value.slice ag p.length cg) ∧ But (TX cb (Value.slice ag p.length cg)) W1 wr) (fun iv _ => l.length - (intOf iv).toNat)
    case atStart => exact ⟨0, Nat.zero_le _, rfl, HC2.out, HX2.out, HB12.out⟩
    case round =>
      clear HC2 HX2 HB12
      obtain ⟨j, hj, rfl, hcr, hxr, hbr⟩ := hrel
      have HCr := hidd hcr
      have HXr := hidd hxr
      have HBr := hidd hbr
      clear hcr hxr hbr
      by_cases hlt : j < l.length
      · have hltz : (j : Int) < (l.length : Int) := by omega
        obtain ⟨n, hn⟩ : ∃ n, (labelsT L)[j]? = some n := ⟨(labelsT L)[j]'(by rw [← Hall.out]; exact hlt), List.getElem?_eq_getElem _⟩
        have hlab : n ∈ labelsT L := List.mem_of_getElem? hn
        have hn256 : n < 256 := (labelsT_mem.1 hlab).1
        have q3 : l.getD j ar0 = ((n : Int), ((ord.idxOf (subT n L) : Nat) : Int), ((aheadT n L : Nat) : Int)) := by
          rw [List.getD_eq_getElem?_getD, ← Hl.out, stOf_at hn]; rfl
        have HTn := hidd (toldAt_next hn)
        have HMn := hidd (dict_next HD.out.bfs HL.out hlab)
        have HRn := hidd (subT_rise (n := n) HR.out)
        have HSn : Hid (∀ s ∈ subT n L, s.length < h) := by
          intro s hs
          obtain ⟨c, _, hc⟩ := subT_mem.1 hs
          have := HSh.out _ hc
          simp at this
          omega
        have hadd := aheadT_succ n L
        have hah := ahead_le n L
        have hah1 := ahead_le (n + 1) L
        have htn : toldAt L j = aheadT n L := by unfold toldAt; rw [List.getD_eq_getElem?_getD, hn]; rfl
        obtain ⟨x, hx⟩ : ∃ x : UInt8, x.toNat = n := ⟨UInt8.ofNat n, by simp [UInt8.toNat_ofNat']; omega⟩
        subst hx
        have HK := hidd (fun (gv' : Value) (W' : World) => HIh.out (subT x.toNat L) (p ++ [x]) gv' (k + aheadT x.toNat L) (m + toldAt L j) W' HMn.out HRn.out HSn.out (by simp; omega) (by omega) (by omega))
        generalize ord.idxOf (subT x.toNat L) = nx at *
        generalize aheadT x.toNat L = ah at *
        have Hn := hidd hn
        clear HRn HSn HMn hn hlab hadd
        obtain ⟨g1, o1, rfl, hg1, hc1⟩ := HA1.out.resolve_left (fun e => by rw [e] at hlt; simp at hlt)
        obtain ⟨p0, p1, p2⟩ := hc1 j hlt
        replace p0 := (HXr.out.old.cell (p := ⟨g1, o1 + j * 3, none⟩) hg1).trans p0
        replace p1 := (HXr.out.old.cell (p := ⟨g1, o1 + j * 3 + 1, none⟩) hg1).trans p1
        replace p2 := (HXr.out.old.cell (p := ⟨g1, o1 + j * 3 + 2, none⟩) hg1).trans p2
        rw [q3] at p0 p1 p2
        dsimp only at p0 p1 p2
        clear hc1 q3
        have hsr : W.heap.size < wr.heap.size := (Array.getElem?_eq_some_iff.1 HXr.out.box).1
        have HBa := hidd ((Below.refl wr.heap.size wr).alloc (Nat.le_refl _) (.cells #[.int .i64 (x.toNat : Int), .int .i64 (nx : Int), .int .i64 (ah : Int)] 110))
        have HQa := hidd (heap_alloc_new wr (.cells #[.int .i64 (x.toNat : Int), .int .i64 (nx : Int), .int .i64 (ah : Int)] 110))
        go_upto_region 6 with fail
        obtain ⟨wa, hwa⟩ : ∃ wa, wr.alloc (.cells #[.int .i64 (x.toNat : Int), .int .i64 (nx : Int), .int .i64 (ah : Int)] 110) = wa := ⟨_, rfl⟩
        rw [hwa] at HBa HQa
        try rw [hwa]
        have hsa : wa.heap.size = wr.heap.size + 1 := by rw [← hwa]; simp
        clear hwa p0 p1 p2
        have HXa := hidd (HXr.out.below HBa.out)
        have y0 := blkc HXa.out.box 0
        have y1 := blkc HXa.out.box 1
        have y2 := blkc HXa.out.box 2
        have y3 := blkc HXa.out.box 3
        have HBn := hidd ((Below.refl wa.heap.size wa).alloc (Nat.le_refl _) (.cells #[.slice aS S.length cS, .int .i64 (ix : Int), (Value.slice ag p.length cg), .int .i64 (k : Int)] 63))
        have HQn := hidd (heap_alloc_new wa (.cells #[.slice aS S.length cS, .int .i64 (ix : Int), (Value.slice ag p.length cg), .int .i64 (k : Int)] 63))
        go_upto_region 7 with fail
        obtain ⟨wn, hwn⟩ : ∃ wn, wa.alloc (.cells #[.slice aS S.length cS, .int .i64 (ix : Int), (Value.slice ag p.length cg), .int .i64 (k : Int)] 63) = wn := ⟨_, rfl⟩
        rw [hwn] at HBn HQn
        try rw [hwn]
        have hsn : wn.heap.size = wa.heap.size + 1 := by rw [← hwn]; simp
        clear hwn y0 y1 y2 y3
        have HXn := hidd (HXa.out.below HBn.out)
        rw [hsa] at HQn
        have HXm : Hid (CurX w0 wn lo (wr.heap.size + 1) aS cS S ix k p (Value.slice ag p.length cg)) := ⟨HXn.out.old, HXn.out.hold, by have := HXr.out.old.size; omega, HXn.out.newl, fun e => by have := Hgl.out _ e; omega, HQn.out, HXn.out.row⟩
        have HBrn : Hid (Below wr.heap.size wr wn) := HBa.out.trans (HBn.out.mono HBa.out.size)
        have HCn := hidd (HCr.out.but (X := fun _ => False) (But.of_below HBrn.out) ⟨id, id, id⟩)
        have HFo := hidd (followX_any (x := x) (j := nx) (m := ah) HXm.out (by omega) (by omega) (by omega) (by omega))
        have z0 := blkc (blko HQa.out HBn.out) 0
        have z1 := blkc (blko HQa.out HBn.out) 1
        have z2 := blkc (blko HQa.out HBn.out) 2
        go_wp2_with fail
        refine HFo.out.mono ?_
        rintro e w3 ⟨gv', rfl, hcu, hbu, hki⟩
        have HCu := hidd hcu
        have HBu := hidd hbu
        have HKi := hidd hki
        clear hcu hbu hki HFo z0 z1 z2
        dsimp only
        have u0 := blkc HCu.out.box 0
        have u1 := blkc HCu.out.box 1
        have u2 := blkc HCu.out.box 2
        have u3 := blkc HCu.out.box 3
        have hh0 : h0 < wr.heap.size := (Array.getElem?_eq_some_iff.1 HCr.out.df).1
        have hh1 : h0 + 1 < wr.heap.size := (Array.getElem?_eq_some_iff.1 HCr.out.rc).1
        have HC3 : Hid (Cnt cb h0 r (m + toldAt L j) w3) := HCn.out.but HBu.out ⟨fun e => by rcases e with e | e; omega; exact HNe.out.1 e, fun e => by rcases e with e | e; omega; exact HNe.out.2.1 e, fun e => by rcases e with e | e; omega; exact HNe.out.2.2 e⟩
        have HTe := hidd (HK.out gv' w3 HC3.out HCu.out.row HCu.out.old (by have := HBu.out.size; omega))
        go_wp2_with fail
        refine HTe.out.mono ?_
        rintro e w4 ⟨rfl, hc4, ho4, hb4⟩
        have HC4 := hidd hc4
        have HO4 := hidd ho4
        have HB4 := hidd hb4
        clear hc4 ho4 hb4 HTe u0 u1 u2 u3
        dsimp only
        have HO5 : Hid (w4.ownsRow lo 5 1 (Value.slice ag p.length cg) p.length (Lib.byteCells p)) := own_kin HXn.out.row HKi.out HXm.out.ne HNe.out.1 HO4.out HB4.out HBu.out.size
        have HB5 : Hid (But (TX cb (Value.slice ag p.length cg)) wr w4) := by
          refine (But.of_below (X := fun _ => False) HBrn.out).trans (HBu.out.trans HB4.out (Z := fun b => TX cb (Value.slice ag p.length cg) b ∨ wr.heap.size ≤ b) ?_ ?_) (fun _ _ h => h.elim) ?_
          · rintro i hi (e | e)
            · exact .inr (by omega)
            · exact .inl (.inr e)
          · rintro i hi (e | e)
            · exact .inl (.inl e)
            · rcases HKi.out with ⟨g, cap, cap', e1, e2⟩ | ⟨h1, _⟩
              · refine .inl (.inr ?_)
                rw [e1]
                rw [e2] at e
                exact e
              · have := h1 i e
                exact .inr (by omega)
          · rintro i hi (e | e)
            · exact e
            · omega
        have HX5 : Hid (CurX w0 w4 lo W.heap.size aS cS S ix k p (Value.slice ag p.length cg)) := by
          refine ⟨HXr.out.old.trans (HB5.out.below HXr.out.old.size (fun i hi e => ?_)), HXr.out.hold, HXr.out.new, HXr.out.newl, HXr.out.ne, (HB5.out.block _ hsr (fun e => ?_)).trans HXr.out.box, HO5.out⟩
          · rcases e with e | e
            · omega
            · have := (HXr.out.row.lt _ e).1
              omega
          · rcases e with e | e
            · omega
            · exact HXr.out.ne e
        have HB6 : Hid (But (TX cb (Value.slice ag p.length cg)) W1 w4) := HBr.out.trans HB5.out (fun _ _ h => h) (fun _ _ h => h)
        have HC5 : Hid (Cnt cb h0 r (m + toldAt L (j + 1)) w4) := by
          show Cnt _ _ _ _ _
          rw [HTn.out, ← Nat.add_assoc]
          exact HC4.out
        go_wp2_with fail
        go_roundw
        case rel => exact ⟨j + 1, by omega, by go_num, HC5.out, HX5.out, HB6.out⟩
        case measure => simp [intOf]; omega
      · have hltz : ¬ (j : Int) < (l.length : Int) := by omega
        obtain rfl : j = l.length := by omega
        have HC5 : Hid (Cnt cb h0 r (m + L.length) wr) := by
          show Cnt _ _ _ _ _
          rw [← Hte.out, ← Hall.out]
          exact HCr.out
        have HB6 : Hid (But (TX cb (Value.slice ag p.length cg)) W wr) := (But.of_below (X := fun _ => False) HB1.out).trans HBr.out (fun _ _ h => h.elim) (fun _ _ h => h)
        go_wp2_with fail
        go_ret
        exact ⟨rfl, HC5.out, HXr.out.row, HB6.out⟩
end
end Go.Proofs.Ytjndogajdlophaa

namespace Go.Proofs.Ytjndogajdlophaa
open Go Go.RowKit
set_option linter.unusedVariables false

/-- Marks among the deferred calls of an activation: of each loop over an iterator that was left. -/
def mark (D : Nat) : Deferred := { target := .collected D, args := #[] }
structure Marks (w : World) (B : Nat) (Ds : List Nat) : Prop where
  nodup : Ds.Nodup
  at_ : ∀ D ∈ Ds, B ≤ D ∧ w.heap[D]? = some (.deferred (some []))
/-- Cells that stay, but for those that a call has laid. -/
def KeepD (w w' : World) : Prop := ∀ D : Nat, w.heap[D]? = some (.deferred (some [])) → w'.heap[D]? = some (.deferred (some []))
theorem Marks.keep {w w' : World} {B : Nat} {Ds : List Nat} (h : Marks w B Ds) (hk : KeepD w w') : Marks w' B Ds := ⟨h.nodup, fun D hD => ⟨(h.at_ D hD).1, hk D (h.at_ D hD).2⟩⟩
theorem Marks.push {w : World} {B D : Nat} {Ds : List Nat} (h : Marks w B Ds) (hB : B ≤ D) (hD : w.heap[D]? = some (.deferred (some []))) (hn : D ∉ Ds) : Marks w B (D :: Ds) :=
  ⟨List.nodup_cons.2 ⟨hn, h.nodup⟩, fun x hx => by
    rcases List.mem_cons.1 hx with rfl | hx
    · exact ⟨hB, hD⟩
    · exact h.at_ x hx⟩
theorem Marks.lt {w : World} {B : Nat} {Ds : List Nat} (h : Marks w B Ds) {D : Nat} (hD : D ∈ Ds) : D < w.heap.size := (Array.getElem?_eq_some_iff.1 (h.at_ D hD).2).1
/-- All but marks stays. -/
structure AllBut (w w' : World) : Prop where
  os : w'.os = w.os
  tape : w'.tape = w.tape
  output : w'.output = w.output
  size : w'.heap.size = w.heap.size
  block : ∀ b : Nat, w.heap[b]? ≠ some (.deferred (some [])) → w'.heap[b]? = w.heap[b]?
theorem AllBut.refl (w : World) : AllBut w w := ⟨rfl, rfl, rfl, rfl, fun _ _ => rfl⟩
theorem leaves_marks {F : Fence} {n : Nat} {P : Program} {fn : Func} {tmps : Array Value} {R : Ending → World → Prop} {B : Nat} : ∀ (Ds : List Nat) (w0 w : World), Marks w B Ds → AllBut w0 w → Below B w0 w →
    (∀ w', AllBut w0 w' → Below B w0 w' → LeavesIn F n P fn tmps R [] .returning w') → LeavesInM F n P fn tmps R (Ds.map mark) .returning w
  | [], w0, w, _, ha, hb, h => h w ha hb
  | D :: Ds, w0, w, hm, ha, hb, h => by
    have hD := (hm.at_ D (by simp)).2
    have hB := (hm.at_ D (by simp)).1
    have hnd := List.nodup_cons.1 hm.nodup
    refine ⟨by simp, .inl ⟨D, _, rfl, run_takeDeferred hD, ?_⟩⟩
    refine leaves_marks Ds w0 (w.putObj D (.deferred none)) ⟨hnd.2, fun x hx => ⟨(hm.at_ x (by simp [hx])).1, ?_⟩⟩ ?_ ?_ h
    · rw [World.putObj_heap_other (fun e => by subst e; exact hnd.1 hx)]
      exact (hm.at_ x (by simp [hx])).2
    · refine ⟨ha.os, ha.tape, ha.output, by rw [← ha.size]; simp [World.putObj], fun b hb' => ?_⟩
      have hne : b ≠ D := by
        rintro rfl
        by_cases hq : w0.heap[b]? = some (.deferred (some []))
        · exact hb' hq
        · exact hq ((ha.block b hb').symm.trans hD)
      rw [World.putObj_heap_other hne]
      exact ha.block b hb'
    · refine ⟨hb.os, hb.tape, hb.output, by have := hb.size; simpa [World.putObj] using this, fun b hb' => ?_⟩
      rw [World.putObj_heap_other (by omega)]
      exact hb.block b hb'
end Go.Proofs.Ytjndogajdlophaa

namespace Go.Proofs.Ytjndogajdlophaa
open Go Go.RowKit Go.Shelf
set_option linter.unusedVariables false
set_option maxRecDepth 100000
attribute [local go_sem] Oper.semAt_some

/-- What is captured, and what it is asked. -/
theorem terms1_any {w0 : World} {aS : Option Addr} {cS : Nat} {S : List St} {ord : List (List Tx)} {cb h0 lo Bt k : Nat} {r : Loop} {L : List Tx} {p : Tx} {gv : Value} {W : World} (hT : TellC w0 aS cS S ord cb h0 lo r 65)
    (hL : L ∈ ord) (hr : RiseT L) (hs : ∀ s ∈ L, s.length < 65) (hp : p.length ≤ 65536) (hk : k + L.length ≤ 8192) (hm : L.length ≤ 4096) (hc : Cnt cb h0 r 0 W) (ho : W.ownsRow lo 5 1 gv p.length (Lib.byteCells p)) (hb : Below w0.heap.size w0 W) (hlo : lo ≤ W.heap.size)
    (hbx : W.heap[Bt]? = some (.cells #[.slice aS S.length cS, .int .i64 ((ord.idxOf L : Nat) : Int), gv, .int .i64 (k : Int)] 63)) :
    Calls Try.prog 62 #[.func (.yield (h0 + 1)) #[] #[], .pointer (some ⟨Bt, 0, none⟩)] W fun e W' => (∃ v, e = .returned v) ∧ Cnt cb h0 r L.length W' ∧ But (TX cb gv) W W' := by
  have HT := hidd (hT L p gv k 0 W hL hr hs (by omega) hk (by omega) hc ho hb hlo)
  rw [Nat.zero_add] at HT
  have x0 := blkc hbx 0
  have x1 := blkc hbx 1
  have x2 := blkc hbx 2
  have x3 := blkc hbx 3
  clear hT hc ho hb hs
  generalize ord.idxOf L = ix at *
  go_enter Try.func62, Try.ntmps62
  go_wp2_with fail
  refine HT.out.mono ?_
  rintro e W2 ⟨rfl, h1, h2, h3⟩
  have H1 := hidd h1
  have H3 := hidd h3
  clear h1 h2 h3
  dsimp only
  go_wp2_with fail
  go_end0
  exact ⟨⟨_, rfl⟩, H1.out, H3.out⟩
theorem tell_all {w0 : World} {aS : Option Addr} {cS : Nat} {S : List St} {ts : List Tx} {ord : List (List Tx)} {cb h0 lo : Nat} {r : Loop} (hd : DictAt ts ord S) (hy : YieldC Try.prog cb h0 r) (hold : HoldS w0 aS S) (hlo : w0.heap.size ≤ lo) (hcb : w0.heap.size ≤ cb) (hway : ∀ L ∈ ord, L ≠ []) : ∀ h, TellC w0 aS cS S ord cb h0 lo r h
  | 0 => fun L p gv k m W hL _ hs => by
    obtain ⟨s, hsm⟩ := List.exists_mem_of_ne_nil _ (hway L hL)
    exact absurd (hs s hsm) (Nat.not_lt_zero _)
  | h + 1 => tell_step hd hy hold hlo hcb (tell_all hd hy hold hlo hcb hway h)
theorem termsX_any (x0 x1 x2 x3 : Value) (w : World) :
    Calls Try.prog 31 #[.agg #[x0, x1, x2, x3]] w fun e w' => e = .returned (.func (.func 62) #[] #[.pointer (some ⟨w.heap.size, 0, none⟩)]) ∧ w' = w.alloc (.cells #[x0, x1, x2, x3] 63) := by
  go_enter Try.func31, Try.ntmps31
  go_wp2_with fail
  go_ret
  exact ⟨rfl, rfl⟩
theorem rgLeave {tmps : Array Value} {w W : World} {x y z : Int} (hB : Below w.heap.size w W) (h4 : tmps.getD 4 undef = .int .i64 x) (h5 : tmps.getD 5 undef = .int .i64 y) (h6 : tmps.getD 6 undef = .int .i64 z) :
    ∀ w', AllBut W w' → Below w.heap.size W w' → LeavesIn Fence.wide 4 Try.prog Try.f9 tmps (fun e w' => e = .returned (.tuple #[.int .i64 x, .int .i64 y, .int .i64 z]) ∧ Below w.heap.size w w') [] .returning w' := by
  intro w' ha hb
  refine ⟨.tuple #[.int .i64 x, .int .i64 y, .int .i64 z], ?_, rfl, hB.trans hb⟩
  have h4' : tmps[4]?.getD undef = .int .i64 x := by simpa using h4
  have h5' : tmps[5]?.getD undef = .int .i64 y := by simpa using h5
  have h6' : tmps[6]?.getD undef = .int .i64 z := by simpa using h6
  simp [results, Try.results9, go_sem, h4', h5', h6']
theorem way_all {ts : List Tx} {ord : List (List Tx)} (hg : GoodT ts) (hb : IsBfs nextT ts ord) (hne : ts ≠ []) : ∀ L ∈ ord, OnWay ts L :=
  hb.all (OnWay ts) ⟨hg.1, hne, Nat.le_refl _, fun t ht => (hg.2.2 t ht).2⟩ (fun x hx => hx.next)
set_option maxHeartbeats 8000000 in
theorem implRange_any (hok : OkC 29) : RangeC 9 := by
  intro c a cap S t w hn hA hS
  have HOk := hidd (fun W (hW : Below w.heap.size w W) => hok c a cap S W hn hA (hS.below hW))
  have HS := hidd hS
  clear hok hA hS
  have HBa : Hid (Below w.heap.size w (w.alloc (.cells #[.int .i64 c, .slice a S.length cap] 30))) := (Below.refl _ _).alloc (Nat.le_refl _) _
  have Hbx := hidd (heap_alloc_new w (.cells #[.int .i64 c, .slice a S.length cap] 30))
  have hsl : (⟨t.toArray⟩ : ByteArray).size = t.length := by rw [Lib.size_eq]
  refine (callsIn_wide (n := 4)).1 ?_
  refine callsIn_of_wp_marks Try.func9 rfl trivial ?_ rfl
  simp only [Try.ntmps9, List.size_toArray, List.length_cons, List.length_nil, Nat.reduceAdd, Nat.reduceSub, Array.replicate_succ, Array.replicate_zero, List.push_toArray, List.append_toArray, List.nil_append, List.cons_append]
  refine wpIn_wide.2 ?_
  by_cases hl : 65536 < t.length
  · have hlz : (t.length : Int) > 65536 := by omega
    have HF := hidd (rangeO_long (d := dictT c S) hl)
    go_wp2_with fail
    rw [HF.out]
    refine leaves_marks (B := w.heap.size) [] _ _ ⟨List.nodup_nil, by simp⟩ (AllBut.refl _) (Below.refl _ _) ?_
    exact rgLeave HBa.out rfl rfl rfl
  have hlz : ¬ (t.length : Int) > 65536 := by omega
  go_wp2_with fail
  refine (HOk.out _ HBa.out).mono ?_
  rintro e w1 ⟨rfl, hb1⟩
  have HB1 := hidd (HBa.out.trans (hb1.mono HBa.out.size))
  have Hbx1 := hidd (blko Hbx.out hb1)
  clear hb1 Hbx HOk
  dsimp only
  rcases okD_cases c S with ⟨hok, ts, hts⟩ | ⟨hok, hno⟩
  · rw [hok]
    have HD := hidd (dictT_some hts)
    obtain ⟨ord, hat⟩ := hts.at
    have HAt := hidd hat
    have HG := hidd hts.1
    have hcl : c = (ts.length : Int) := by
      obtain ⟨_, o, _, _, e⟩ := hts
      exact (Prod.mk.inj e).1
    clear hok hts hat
    have b0 := blkc Hbx1.out 0
    have b1 := blkc Hbx1.out 1
    have hzw : w.heap.size < w1.heap.size := (Array.getElem?_eq_some_iff.1 Hbx1.out).1
    have HBc := hidd ((Below.refl w1.heap.size w1).alloc (Nat.le_refl _) (.cells #[.slice a S.length cap, .int .i64 0, .slice none 0 0, .int .i64 0] 63))
    have HC0 : Hid (CurAt w1 (w1.alloc (.cells #[.slice a S.length cap, .int .i64 0, .slice none 0 0, .int .i64 0] 63)) w1.heap.size a cap S (ord.idxOf ts) 0 [] (.slice none 0 0)) := by
      refine ⟨HBc.out, HS.out.below HB1.out, Nat.le_refl _, ?_, World.ownsRow_nil _ _ _ _⟩
      rw [(dict_root HAt.out.bfs).2]
      exact heap_alloc_new w1 _
    have HSp := hidd (spell_any t (by omega) HAt.out HC0.out)
    go_upto_region 6 with fail
    obtain ⟨wq, hwq⟩ : ∃ wq, w1.alloc (.cells #[.slice a S.length cap, .int .i64 0, .slice none 0 0, .int .i64 0] 63) = wq := ⟨_, rfl⟩
    rw [hwq] at HSp HBc
    try rw [hwq]
    clear hwq HC0 b1
    replace b0 := (HBc.out.cell (p := ⟨w.heap.size, 0, none⟩) hzw).trans b0
    have HBq := hidd (HB1.out.trans (HBc.out.mono HB1.out.size))
    go_cut [25] from 18 to 33 (fun cv wy => Below w.heap.size w wy ∧ ((¬ (subs t ts).length = 0 ∧ cv = .bool false ∧ subs t ts ∈ ord ∧ ∃ gv, CurAt w1 wy w1.heap.size a cap S (ord.idxOf (subs t ts)) (rk t ts) t gv) ∨ ((subs t ts).length = 0 ∧ cv = .bool true)))
    case first =>
      by_cases hts : ts = []
      · have hc0 : c = 0 := by rw [hcl, hts]; rfl
        have HZ : Hid ((subs t ts).length = 0) := by
          show _ = _
          rw [hts, subs_nil]; rfl
        clear HSp hcl
        subst hc0
        go_wp2_with fail
        go_meet
        case rel => exact ⟨HBq.out, Or.inr ⟨HZ.out, rfl⟩⟩
      · have hcb : (c == 0) = false := by
          rw [hcl]
          cases ts with
          | nil => exact absurd rfl hts
          | cons x y => simp; omega
        have HW := hidd (way_all HG.out HAt.out.bfs hts)
        clear hcl
        go_wp2_with fail
        refine HSp.out.mono ?_
        rintro e w2 ⟨b, rfl, hb2, hsp⟩
        have HB2 := hidd (HB1.out.trans (hb2.mono HB1.out.size))
        clear hb2 HSp
        dsimp only
        rcases hsp with ⟨rfl, hm, gv2, hcu⟩ | ⟨rfl, hno⟩
        · have HCu := hidd hcu
          have HM := hidd hm
          clear hcu hm
          go_wp2_with fail
          go_meet
          case rel => exact ⟨HB2.out, Or.inl ⟨fun e => (HW.out _ HM.out).2.1 (List.length_eq_zero_iff.1 e), rfl, HM.out, gv2, HCu.out⟩⟩
        · have HN := hidd hno
          clear hno
          go_wp2_with fail
          go_meet
          case rel => exact ⟨HB2.out, Or.inr ⟨by rw [HN.out]; rfl, rfl⟩⟩
    case rest =>
      obtain ⟨hb3, hcs⟩ := hcut
      have HB3 := hidd hb3
      clear hb3 HSp b0 HBc HBq hcl
      rcases hcs with ⟨hin, rfl, hmem, gv, hcu⟩ | ⟨hout, rfl⟩
      · have hts : ts ≠ [] := fun e => hin (by rw [e, subs_nil]; rfl)
        have HW := hidd (way_all HG.out HAt.out.bfs hts)
        have HR : Hid (rangeO (dictT c S) t = (((rk t ts : Nat) : Int), (((subs t ts).length : Nat) : Int), 0)) := by
          show _ = _
          rw [HD.out, rangeO_in hl hin]
        have HOW := hidd (HW.out _ hmem)
        have hLl : (subs t ts).length ≤ 4096 := Nat.le_trans HOW.out.2.2.1 HAt.out.few
        have hrk := rk_le t ts
        have hrk2 : rk t ts ≤ 4096 := Nat.le_trans hrk HAt.out.few
        have HM := hidd hmem
        have HCu := hidd hcu
        clear hin hmem hcu hts hrk
        have Hbt : Hid (∀ b, gv.ownBlock = some b → w1.heap.size + 1 ≤ b ∧ b < wc.heap.size) := fun b hb => HCu.out.row.lt b hb
        have hBl : w1.heap.size < wc.heap.size := (Array.getElem?_eq_some_iff.1 HCu.out.box).1
        have HBk := hidd ((Below.refl wc.heap.size wc).alloc (Nat.le_refl _) (.cells #[.int .i64 0] 3))
        have HKb := hidd (heap_alloc_new wc (.cells #[.int .i64 0] 3))
        generalize hL : subs t ts = L at *
        generalize hkk : rk t ts = kk at *
        clear hkk
        obtain ⟨ix, hix⟩ : ∃ ix, ord.idxOf L = ix := ⟨_, rfl⟩
        rw [hix] at HCu
        go_upto_region 9 with fail
        obtain ⟨wk, hwk⟩ : ∃ wk, wc.alloc (.cells #[.int .i64 0] 3) = wk := ⟨_, rfl⟩
        rw [hwk] at HBk HKb
        try rw [hwk]
        have hszk : wk.heap.size = wc.heap.size + 1 := by rw [← hwk]; simp
        clear hwk
        have HCk := hidd (HCu.out.below HBk.out)
        have x0 := blkc HCk.out.box 0
        have x1 := blkc HCk.out.box 1
        have x2 := blkc HCk.out.box 2
        have x3 := blkc HCk.out.box 3
        go_wp2_with fail
        refine (termsX_any _ _ _ _ _).mono ?_
        rintro e wt ⟨rfl, hwt⟩
        have HBt := hidd ((Below.refl wk.heap.size wk).alloc (Nat.le_refl _) (.cells #[.slice a S.length cap, .int .i64 (ix : Int), gv, .int .i64 (kk : Int)] 63))
        have HKt := hidd (heap_alloc_new wk (.cells #[.slice a S.length cap, .int .i64 (ix : Int), gv, .int .i64 (kk : Int)] 63))
        have hszt : wt.heap.size = wk.heap.size + 1 := by rw [hwt]; simp
        rw [← hwt] at HBt HKt
        clear hwt x0 x1 x2 x3
        dsimp only
        go_wp2_with fail
        refine (wpIn_wide (n := 4)).1 ?_
        have HCt := hidd (HCk.out.below HBt.out)
        have HKb2 := hidd (blko HKb.out HBt.out)
        have HBw : Hid (Below w.heap.size w wt) := HB3.out.trans ((HBk.out.trans (HBt.out.mono HBk.out.size)).mono HB3.out.size)
        have hne8 : wc.heap.size ≠ wt.heap.size := by omega
        have HOt : Hid (wt.ownsRow (w1.heap.size + 1) 5 1 gv t.length (Lib.byteCells t)) := HCt.out.row
        have HB1t : Hid (Below w1.heap.size w1 wt) := HCt.out.old
        have HSo : Hid (HoldS w1 a S) := HCt.out.hold
        have HNum : Hid (wt.heap[w1.heap.size]? = some (.cells #[.slice a S.length cap, .int .i64 (ix : Int), gv, .int .i64 (kk : Int)] 63)) := HCt.out.box
        have hgt : ∀ b, gv.ownBlock = some b → b < wt.heap.size := fun b hb => (HOt.out.lt b hb).2
        have HGt := hidd hgt
        clear hgt HCt HCk HCu HKb HBk HBt HB3
        refine range_count (cb := wc.heap.size) (gf := 62) (N := L.length) (lb := #[.pointer (some ⟨wk.heap.size, 0, none⟩)]) (X := TX wc.heap.size gv) rfl (enters_of Try.func62 (by kernel_rfl) rfl) rfl HKb2.out ?hx ?it
          (fun x => { tmps := #[.agg #[.int .i64 c, .slice a S.length cap], .string ⟨t.toArray⟩, .pointer (some ⟨w.heap.size, 0, none⟩), undef, .int .i64 0, .int .i64 0, .int .i64 0, .pointer (some ⟨w1.heap.size, 0, none⟩), .pointer (some ⟨wc.heap.size, 0, none⟩), .string ⟨t.toArray⟩, .int .i64 (t.length : Int), .bool false, .agg #[.int .i64 c, .slice a S.length cap], .bool true, .bool false, .pointer (some ⟨w.heap.size, 1, none⟩), .slice a S.length cap, .agg #[.slice a S.length cap, .int .i64 0, .slice none 0 0, .int .i64 0], u18, u19, u20, u21, u22, u23, u24, .bool false, .agg #[.slice a S.length cap, .int .i64 (ix : Int), gv, .int .i64 (kk : Int)], .func (.func 62) #[] #[.pointer (some ⟨wk.heap.size, 0, none⟩)], x, u29, u30, u31, u32, u33], defers := [] }) ?asg ?bo ?dne
        case hx =>
          refine ⟨fun e => ?_, fun e => ?_⟩
          · rcases e with e | e
            · omega
            · have := HGt.out _ e; omega
          · rcases e with e | e
            · omega
            · have := HGt.out _ e; omega
        case it =>
          intro r W1 hb1 hy hc
          refine (callsIn_wide (n := 3)).2 ?_
          have hb2 : Below w1.heap.size w1 W1 := HB1t.out.trans (hb1.mono HB1t.out.size)
          exact terms1_any (k := kk) (tell_all HAt.out hy HSo.out (Nat.le_succ _) (by omega) (fun M hM => (HW.out M hM).2.1) 65) HM.out HOW.out.1 (fun s hs => Nat.lt_succ_of_le (HOW.out.2.2.2 s hs)) (by omega) (by omega) hLl hc (own_below HOt.out hb1) hb2 (by have := hb1.size; omega) (by rw [hix]; exact blko HKt.out hb1)
        case asg =>
          clear hszk hszt
          intro l m x W K hK
          gi_wp2
          exact hK
        case bo =>
          intro l m k x W hk hbx
          have k0 := blkc hbx 0
          have kf := blkf hbx 0
          have hz : IntKind.i64.wrap ((k : Int) + 1) = ((k + 1 : Nat) : Int) := by
            have : (k : Int) + 1 = ((k + 1 : Nat) : Int) := by omega
            rw [this]
            exact IntWalk.i64_in _ ⟨by omega, by omega⟩
          gi_wp2
        case dne =>
          intro W' hbx hbu hdf
          have k0 := blkc hbx 0
          have HNu : Hid (W'.heap[w1.heap.size]? = some (.cells #[.slice a S.length cap, .int .i64 (ix : Int), gv, .int .i64 (kk : Int)] 63)) := by
            refine (hbu.block _ (by omega) (fun e => ?_)).trans HNum.out
            rcases e with e | e
            · omega
            · have := (HOt.out.lt _ e).1; omega
          have n3 := blkc HNu.out 3
          have HBz : Hid (Below w.heap.size w W') := HBw.out.trans (hbu.below HBw.out.size (fun i hi e => by
            rcases e with e | e
            · have := HB1.out.size; omega
            · have := (HOt.out.lt _ e).1; omega))
          have Hdf := hidd hdf
          clear hbx hbu hdf hszk hszt hne8
          go_wp2_with fail
          go_quiet (fail)
          go_wp2_with fail
          rw [HR.out]
          have Hdq : Hid ((W'.drewN nq).heap[wt.heap.size]? = some (.deferred (some []))) := by show _ = _; rw [← Hdf.out]; simp
          refine leaves_marks (B := w.heap.size) [wt.heap.size] _ _ ⟨by simp, fun D hD => ?_⟩ (AllBut.refl _) (Below.refl _ _) ?_
          · have : D = wt.heap.size := by simpa using hD
            subst this
            exact ⟨HBw.out.size, Hdq.out⟩
          · exact rgLeave (below_drewN HBz.out nq) rfl rfl rfl
      · have HR : Hid (rangeO (dictT c S) t = (0, 0, 8)) := by
          show _ = _
          rw [HD.out, rangeO_out hl hout]
        clear hout
        go_wp2_with fail
        rw [HR.out]
        refine leaves_marks (B := w.heap.size) [] _ _ ⟨List.nodup_nil, by simp⟩ (AllBut.refl _) (Below.refl _ _) ?_
        exact rgLeave HB3.out rfl rfl rfl
  · rw [hok]
    have HR : Hid (rangeO (dictT c S) t = (0, 0, 1)) := by
      show _ = _
      rw [dictT_none hno, rangeO_none hl]
    clear hok hno
    go_wp2_with fail
    rw [HR.out]
    refine leaves_marks (B := w.heap.size) [] _ _ ⟨List.nodup_nil, by simp⟩ (AllBut.refl _) (Below.refl _ _) ?_
    exact rgLeave HB1.out rfl rfl rfl
end Go.Proofs.Ytjndogajdlophaa

namespace Go.Proofs.Ytjndogajdlophaa
open Go Go.RowKit Go.Shelf
set_option linter.unusedVariables false
attribute [local go_sem] Oper.semAt_some

/-- What an iterator has captured stays, and what lay ahead of all. -/
def KpB (n0 Bs : Nat) (W W' : World) : Prop := W'.heap[Bs]? = W.heap[Bs]? ∧ Below n0 W W'
theorem KpB.refl (n0 Bs : Nat) (W : World) : KpB n0 Bs W W := ⟨rfl, Below.refl _ _⟩
theorem KpB.trans {n0 Bs : Nat} {A B C : World} (h : KpB n0 Bs A B) (k : KpB n0 Bs B C) : KpB n0 Bs A C := ⟨k.1.trans h.1, h.2.trans k.2⟩
theorem cellH {W W' : World} {g : Nat} (h : W'.heap[g]? = W.heap[g]?) (k : Nat) : W'.cell? ⟨g, k, none⟩ = W.cell? ⟨g, k, none⟩ := by simp [World.cell?, h]
def arcOf (l : List Ar) (x : Nat) : Array Value := #[.int .i64 (x : Int), .agg #[.int .i64 (l.getD x ar0).1, .int .i64 (l.getD x ar0).2.1, .int .i64 (l.getD x ar0).2.2]]
theorem rev_step (c : Nat) : (List.range (c + 1)).reverse = c :: (List.range c).reverse := by rw [List.range_succ, List.reverse_append]; rfl

set_option maxRecDepth 100000 in
set_option maxHeartbeats 2000000 in
theorem back1_any (F : Fence) (n : Nat) (hF : F.fn 112) (hro : F.round = none) (hn : 1 ≤ n) (l Bs n0 : Nat) (a : Option Addr) (arcs : List Ar) (cap : Nat) (hlen : arcs.length ≤ 1048576) (J Jx : List Nat → World → Prop) (Bb : Nat) (hJa : AbidesFrom Bb J)
    (hY : ∀ pre x W, J pre W → pre.length < arcs.length → YieldAt F (n - 1) Try.prog l (arcOf arcs x) W fun e W' =>
      (e = .returned (.bool true) ∧ J (pre ++ [x]) W' ∧ KpB n0 Bs W W') ∨ (e = .returned (.bool false) ∧ Jx (pre ++ [x]) W'))
    (W : World) (hBs : W.cell? ⟨Bs, 0, none⟩ = some (.slice a arcs.length cap)) (hold : ∀ W', Below n0 W W' → HoldA W' a arcs) (h0 : J [] W) :
    CallsIn F n Try.prog 112 #[.func (.yield l) #[] #[], .pointer (some ⟨Bs, 0, none⟩)] W fun e W' => (∃ v, e = .returned v) ∧
      ((∃ ys, ys = (List.range arcs.length).reverse ∧ J ys W') ∨ (∃ pre : List Nat, True ∧ Jx pre W')) := by
  refine callsIn_of_wp Try.func112 rfl hF ?_ hro
  simp only [Try.ntmps112, List.size_toArray, List.length_cons, List.length_nil, Nat.reduceAdd, Nat.reduceSub, Array.replicate_succ, Array.replicate_zero, List.push_toArray, List.append_toArray, List.nil_append, List.cons_append]
  have HH := hidd hold
  clear hold
  gi_wp2
  gi_loopw [3] (fun i wr => ∃ (c : Nat) (pre : List Nat), i = .int .i64 ((c : Int) - 1) ∧ c ≤ arcs.length ∧ pre ++ (List.range c).reverse = (List.range arcs.length).reverse ∧ J pre wr ∧ KpB n0 Bs W wr) (fun i _ => (intOf i + 1).toNat)
  case atStart => exact ⟨arcs.length, [], by go_num, Nat.le_refl _, rfl, h0, KpB.refl _ _ _⟩
  case round =>
    obtain ⟨c, pre, rfl, hat, hpre, hJs, hkp⟩ := hrel
    have c1 := (cellH hkp.1 0).trans hBs
    have Hkp := hidd hkp
    have Hpre := hidd hpre
    have HJ := hidd hJs
    clear hkp hpre hJs
    by_cases hc : c = 0
    · subst hc
      have HE : Hid (pre = (List.range arcs.length).reverse) := by
        show _ = _
        have := Hpre.out
        simpa using this
      gi_wp2
      go_end0
      refine ⟨⟨_, rfl⟩, .inl ?_⟩
      have hj := HJ.out
      rw [HE.out] at hj
      first | exact hj | exact ⟨_, rfl, hj⟩
    · obtain ⟨x, rfl⟩ : ∃ x, c = x + 1 := ⟨c - 1, by omega⟩
      have Hst := hidd (rev_step x)
      have hpl : pre.length < arcs.length := by have := congrArg List.length Hpre.out; simp at this; omega
      have hxl : x < arcs.length := by omega
      have hxz : ((x + 1 : Nat) : Int) - 1 = (x : Int) := by omega
      rw [hxz]
      clear hxz hat hc
      have hxlz : (x : Int) < (arcs.length : Int) := by omega
      obtain ⟨b, off, rfl, hb, hcell⟩ := (HH.out wr Hkp.out.2).resolve_left (fun h => by rw [h] at hxl; simp at hxl)
      obtain ⟨x0, x1, x2⟩ := hcell x hxl
      clear hcell
      have hJd : J pre wr.drew := hJa pre wr wr.drew none HJ.out ⟨rfl, rfl, rfl, Nat.le_refl _, fun _ _ _ => rfl⟩ (fun r e => by cases e)
      obtain ⟨fn, tmps, assign, body, hy, hR⟩ := hY pre x wr HJ.out hpl
      rw [arcOf] at hy
      generalize arcs.getD x ar0 = p at *
      clear hJd
      gi_wp2
      refine hR.mono ?_
      rintro e W3 (⟨rfl, hJ3, hk3⟩ | ⟨rfl, hJx3⟩)
      · gi_wp2
        go_roundw
        · exact ⟨x, pre ++ [x], by go_num, by omega, by rw [List.append_assoc, ← Hpre.out, Hst.out]; rfl, hJ3, Hkp.out.trans hk3⟩
        · simp [intOf]
      · gi_wp2
        refine bodyPost_ret (results_none rfl _ _ _) rfl ?_
        exact ⟨⟨_, rfl⟩, .inr ⟨_, trivial, hJx3⟩⟩
theorem back_any (F : Fence) (n : Nat) (hF : F.fn 101) (hro : F.round = none) (a : Option Addr) (len cap : Nat) (w : World) :
    CallsIn F n Try.prog 101 #[.slice a len cap] w fun e w' => e = .returned (.func (.func 112) #[] #[.pointer (some ⟨w.heap.size, 0, none⟩)]) ∧ w' = w.alloc (.cells #[.slice a len cap] 102) := by
  refine callsIn_of_wp Try.func101 rfl hF ?_ hro
  simp only [Try.ntmps101, List.size_toArray, List.length_cons, List.length_nil, Nat.reduceAdd, Nat.reduceSub, Array.replicate_succ, Array.replicate_zero, List.push_toArray, List.append_toArray, List.nil_append, List.cons_append]
  gi_wp2
  go_ret
  exact ⟨rfl, rfl⟩
theorem back_stops (F : Fence) (n : Nat) (hF : F.fn 112) (hro : F.round = none) (hn : 1 ≤ n) (Bs n0 : Nat) (a : Option Addr) (arcs : List Ar) (cap : Nat) (hlen : arcs.length ≤ 1048576) (w : World)
    (hBs : Bs < w.heap.size) (hn0 : n0 ≤ w.heap.size) (hc1 : w.cell? ⟨Bs, 0, none⟩ = some (.slice a arcs.length cap)) (hold : ∀ W', Below n0 w W' → HoldA W' a arcs) :
    SeqStopsK F n Try.prog 112 #[.pointer (some ⟨Bs, 0, none⟩)] (fun x : Nat => arcOf arcs x) (KpB n0 Bs) (fun ys => ys = (List.range arcs.length).reverse) (fun _ => True) arcs.length w := fun l J Jx W hW hJ _ hY h0 => by
  have k1 := (hW.cell (p := ⟨Bs, 0, none⟩) hBs).trans hc1
  exact back1_any F n hF hro hn l Bs n0 a arcs cap hlen J Jx _ hJ hY W k1 (fun W' h => hold W' ((hW.mono hn0).trans h)) h0
end Go.Proofs.Ytjndogajdlophaa

namespace Go.Proofs.Ytjndogajdlophaa
open Go
set_option linter.unusedVariables false

/-! Chains of links. -/
abbrev Lk := Int × Int
def lkOf (a : Ar) : Lk := (a.1, a.2.1)
def ChainIs (L : List Ar) : List Lk → Nat → Prop
  | [], n => n = 0
  | p :: t, n => ∃ m r, n = m + 1 ∧ ChainIs L t r ∧ L[m]? = some (p.1, p.2, (r : Int))
theorem ChainIs.mono {L L' : List Ar} (h : L <+: L') : ∀ {l : List Lk} {n : Nat}, ChainIs L l n → ChainIs L' l n
  | [], n, hc => hc
  | p :: t, n, ⟨m, r, h1, h2, h3⟩ => by
    refine ⟨m, r, h1, ChainIs.mono h h2, ?_⟩
    obtain ⟨q, rfl⟩ := h
    rw [List.getElem?_append_left (List.getElem?_eq_some_iff.1 h3).1]
    exact h3
theorem ChainIs.le {L : List Ar} : ∀ {l : List Lk} {n : Nat}, ChainIs L l n → n ≤ L.length
  | [], n, hc => by cases hc; exact Nat.zero_le _
  | p :: t, n, ⟨m, r, h1, h2, h3⟩ => by
    have := (List.getElem?_eq_some_iff.1 h3).1
    omega
theorem ChainIs.fn {L : List Ar} (hn : L.Nodup) : ∀ {l : List Lk} {n n' : Nat}, ChainIs L l n → ChainIs L l n' → n = n'
  | [], n, n', h, h' => by cases h; cases h'; rfl
  | p :: t, n, n', ⟨m, r, h1, h2, h3⟩, ⟨m', r', h1', h2', h3'⟩ => by
    have hr := ChainIs.fn hn h2 h2'
    subst hr
    have := (List.getElem?_inj (List.getElem?_eq_some_iff.1 h3).1 hn).1 (h3.trans h3'.symm)
    omega
theorem ChainIs.inj {L : List Ar} : ∀ {l l' : List Lk} {n : Nat}, ChainIs L l n → ChainIs L l' n → l = l'
  | [], [], n, _, _ => rfl
  | [], p :: t, n, h, ⟨m, r, h1, _⟩ => by cases h; omega
  | p :: t, [], n, ⟨m, r, h1, _⟩, h => by cases h; omega
  | p :: t, p' :: t', n, ⟨m, r, h1, h2, h3⟩, ⟨m', r', h1', h2', h3'⟩ => by
    have e : m = m' := by omega
    subst e
    rw [h3] at h3'
    simp only [Option.some.injEq, Prod.mk.injEq] at h3'
    obtain ⟨e1, e2, e3⟩ := h3'
    have er : r = r' := by omega
    subst er
    rw [ChainIs.inj h2 h2']
    congr 1
    exact Prod.ext e1 e2
/-- What allDiffer tells. -/
def lks (S : List St) (i : Nat) : List Lk := (arcsAt S i).map lkOf
def DiffP (S : List St) (n : Nat) : Prop := ∀ i j, i < n → j < n → finAt S i = finAt S j → lks S i = lks S j → i = j
theorem DiffP.snoc {S : List St} {n : Nat} (h : DiffP S n) (h2 : ∀ i, i < n → ¬ (finAt S i = finAt S n ∧ lks S i = lks S n)) : DiffP S (n + 1) := by
  intro i j hi hj h3 h4
  by_cases h5 : i = n
  · by_cases h6 : j = n
    · omega
    · subst h5; exact absurd ⟨h3.symm, h4.symm⟩ (h2 j (by omega))
  · by_cases h6 : j = n
    · subst h6; exact absurd ⟨h3, h4⟩ (h2 i (by omega))
    · exact h i j (by omega) (by omega) h3 h4
/-- The marks of what was seen. -/
def frz (n : Nat) (f : Bool) : Nat := 2 * n + (if f then 1 else 0)
theorem frz_inj {n m : Nat} {f g : Bool} (h : frz n f = frz m g) : n = m ∧ f = g := by
  cases f <;> cases g <;> simp [frz] at h ⊢ <;> omega
def SeenOK (S : List St) (L : List Ar) (k : Nat) (Z : List Bool) : Prop := ∀ x, Z.getD x false = true ↔ ∃ i n, i < k ∧ ChainIs L (lks S i) n ∧ x = frz n (finAt S i)
def AllIn (S : List St) (L : List Ar) (k : Nat) : Prop := ∀ i, i < k → ∃ n, ChainIs L (lks S i) n
theorem SeenOK.mono {S : List St} {L L' : List Ar} {k : Nat} {Z : List Bool} (h : SeenOK S L k Z) (ha : AllIn S L k) (hp : L <+: L') (hn : L'.Nodup) : SeenOK S L' k Z := by
  intro x
  rw [h x]
  constructor
  · rintro ⟨i, n, h1, h2, h3⟩; exact ⟨i, n, h1, h2.mono hp, h3⟩
  · rintro ⟨i, n, h1, h2, h3⟩
    obtain ⟨m, hm⟩ := ha i h1
    have := ChainIs.fn hn (hm.mono hp) h2
    subst this
    exact ⟨i, m, h1, hm, h3⟩
theorem SeenOK.hit {S : List St} {L : List Ar} {k n : Nat} {Z : List Bool} (h : SeenOK S L k Z) (hc : ChainIs L (lks S k) n) (hz : Z.getD (frz n (finAt S k)) false = true) : ∃ i, i < k ∧ finAt S i = finAt S k ∧ lks S i = lks S k := by
  obtain ⟨i, m, h1, h2, h3⟩ := (h _).1 hz
  obtain ⟨rfl, e⟩ := frz_inj h3
  exact ⟨i, h1, e.symm, h2.inj hc⟩
theorem SeenOK.miss {S : List St} {L : List Ar} {k n : Nat} {Z : List Bool} (h : SeenOK S L k Z) (hL : L.Nodup) (ha : AllIn S L k) (hc : ChainIs L (lks S k) n) (hz : ¬ Z.getD (frz n (finAt S k)) false = true) : ∀ i, i < k → ¬ (finAt S i = finAt S k ∧ lks S i = lks S k) := by
  rintro i hi ⟨h1, h2⟩
  obtain ⟨m, hm⟩ := ha i hi
  rw [h2] at hm
  have := ChainIs.fn hL hm hc
  subst this
  exact hz ((h _).2 ⟨i, m, hi, by rw [h2]; exact hm, by rw [h1]⟩)
theorem SeenOK.set {S : List St} {L : List Ar} {k n : Nat} {Z : List Bool} (h : SeenOK S L k Z) (hL : L.Nodup) (hc : ChainIs L (lks S k) n) (hl : frz n (finAt S k) < Z.length) : SeenOK S L (k + 1) (Z.set (frz n (finAt S k)) true) := by
  intro x
  have e : (Z.set (frz n (finAt S k)) true).getD x false = if x = frz n (finAt S k) then true else Z.getD x false := by
    by_cases hx : x = frz n (finAt S k)
    · subst hx; simp [hl]
    · rw [if_neg hx]
      rw [List.getD_eq_getElem?_getD, List.getD_eq_getElem?_getD, List.getElem?_set, if_neg (fun e : frz n (finAt S k) = x => hx e.symm)]
  rw [e]
  by_cases hx : x = frz n (finAt S k)
  · rw [if_pos hx]
    exact ⟨fun _ => ⟨k, n, by omega, hc, hx⟩, fun _ => rfl⟩
  · rw [if_neg hx, h x]
    constructor
    · rintro ⟨i, m, h1, h2, h3⟩; exact ⟨i, m, by omega, h2, h3⟩
    · rintro ⟨i, m, h1, h2, h3⟩
      by_cases hi : i = k
      · subst hi
        have := ChainIs.fn hL h2 hc
        subst this
        exact absurd h3 hx
      · exact ⟨i, m, by omega, h2, h3⟩
theorem AllIn.snoc {S : List St} {L L' : List Ar} {k n : Nat} (h : AllIn S L k) (hp : L <+: L') (hc : ChainIs L' (lks S k) n) : AllIn S L' (k + 1) := by
  intro i hi
  by_cases hk : i = k
  · subst hk; exact ⟨n, hc⟩
  · obtain ⟨m, hm⟩ := h i (by omega)
    exact ⟨m, hm.mono hp⟩
theorem seen_new (S : List St) (m : Nat) : SeenOK S [] 0 (List.replicate m false) := by
  intro x
  constructor
  · intro h
    rw [List.getD_eq_getElem?_getD, List.getElem?_replicate] at h
    by_cases hx : x < m
    · simp [hx] at h
    · simp [hx] at h
  · rintro ⟨i, n, h, _⟩; omega
end Go.Proofs.Ytjndogajdlophaa
