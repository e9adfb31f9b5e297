import Derived.Test.YtoinajfliogcdaaDoorNearJ04
import Derived.Test.YtoinajfliogcdaaDoorNearJ05
namespace Go.Proofs.YtoinajfliogcdaaDoor
open Go Go.RowKit
set_option linter.unusedVariables false
set_option maxRecDepth 100000

theorem Tryd.infoSlI : (Tryd.prog.info? 30).map (fun i => (i.zero, i.size, i.bytes)) = some (some (.slice none 0 0), 1, 24) := by kernel_rfl
def atN (l : List Nat) (q : Nat) : Nat := l.getD q 0
structure Cl3 (w0 W : World) (rb gb gc cc gn n : Nat) (vl vf vn : Value) (κl nl : List Nat) (L : List (List Nat)) (vs : Value) (us : List Value) (R : RowMap) : Prop where
 below : Below w0.heap.size w0 W
 box : W.heap[rb]? = some (.cells #[vl, vf, vn] 62)
 rows : RowsF W w0.heap.size R
 cls : R 0 = some (.slice (some ⟨gc, 0, none⟩) n cc, nat2 κl)
 nx : R 1 = some (.slice (some ⟨gn, 0, none⟩) n n, nat2 nl)
 outer : W.ownsRow w0.heap.size 30 1 vs L.length us
 sig : ∀ j u s, us[j]? = some u → L[j]? = some s → R (3 + 2 * j) = some (u, nat2 s)
 bk : ∃ bs : Array Value, W.heap[gb]? = some (.cells bs 30) ∧ bs.size = 1024 ∧ ∀ h, h < 1024 → ∃ u, bs[h]? = some u ∧ R (4 + 2 * h) = some (u, nat2 (bkt L h))
 apart : vs.ownBlock ≠ some gb
 from_ : w0.heap.size ≤ gb
theorem Cl3.keep {w0 W W' : World} {rb gb gc cc gn n : Nat} {vl vf vn : Value} {κl nl : List Nat} {L : List (List Nat)} {vs : Value} {us : List Value} {R : RowMap} (h : Cl3 w0 W rb gb gc cc gn n vl vf vn κl nl L vs us R) (hb : Below W.heap.size W W') : Cl3 w0 W' rb gb gc cc gn n vl vf vn κl nl L vs us R := by
 obtain ⟨bs, b1, b2, b3⟩ := h.bk
 exact ⟨h.below.trans (hb.mono h.below.size), blko h.box hb, h.rows.below hb, h.cls, h.nx, own_below h.outer hb, h.sig, ⟨bs, blko b1 hb, b2, b3⟩, h.apart, h.from_⟩
theorem Cl3.rowed {w0 W W' : World} {rb gb gc cc gn n : Nat} {vl vf vn : Value} {κl nl : List Nat} {L : List (List Nat)} {vs : Value} {us : List Value} {R R' : RowMap} (h : Cl3 w0 W rb gb gc cc gn n vl vf vn κl nl L vs us R) (hB : Below w0.heap.size w0 W') (hk : ∀ b, b < W.heap.size → (∀ cur, W.heap[b]? ≠ some (.cells cur 3)) → W'.heap[b]? = W.heap[b]?) (hR : RowsF W' w0.heap.size R') (ho : ∀ a, a ≠ 2 → R' a = R a) : Cl3 w0 W' rb gb gc cc gn n vl vf vn κl nl L vs us R' := by
 obtain ⟨bs, b1, b2, b3⟩ := h.bk
 have k : ∀ (b : Nat) (cs : Array Value) (t : TypeId), t ≠ 3 → W.heap[b]? = some (.cells cs t) → W'.heap[b]? = some (.cells cs t) := by
  intro b cs t ht hh
  rw [hk b (Array.getElem?_eq_some_iff.1 hh).1 (fun cur e => by rw [hh] at e; simp only [Option.some.injEq, Obj.cells.injEq] at e; exact ht e.2.1)]
  exact hh
 refine ⟨hB, k _ _ _ (by decide) h.box, hR, by rw [ho 0 (by omega)]; exact h.cls, by rw [ho 1 (by omega)]; exact h.nx, ?_, fun j u s h1 h2 => by rw [ho _ (by omega)]; exact h.sig j u s h1 h2, ⟨bs, k _ _ _ (by decide) b1, b2, fun x hx => ?_⟩, h.apart, h.from_⟩
 ·refine own_congr h.outer (fun b hb => ?_)
  obtain ⟨_, cur, h2⟩ := own_blk h.outer hb
  rw [k b cur _ (by decide) h2, h2]
 ·obtain ⟨u, h1, h2⟩ := b3 x hx
  exact ⟨u, h1, by rw [ho _ (by omega)]; exact h2⟩
theorem Cl3.pushed {w0 W W' : World} {rb gb gc cc gn n : Nat} {vl vf vn : Value} {κl nl : List Nat} {L : List (List Nat)} {vs vs' : Value} {us : List Value} {R : RowMap} (h : Cl3 w0 W rb gb gc cc gn n vl vf vn κl nl L vs us R) {vg : Value} {s : List Nat} (hg : R 2 = some (vg, nat2 s)) (hb : But (fun b => vs.ownBlock = some b) W W') (ho : W'.ownsRow w0.heap.size 30 1 vs' (L.length + 1) (us ++ [vg])) (hat : ∀ b, vs'.ownBlock = some b → vs.ownBlock = some b ∨ W.heap.size ≤ b) :
  ∃ R', (∀ a, a ≠ 2 → a ≠ 3 + 2 * L.length → R' a = R a) ∧ Below w0.heap.size w0 W' ∧ W'.heap[rb]? = some (.cells #[vl, vf, vn] 62) ∧ RowsF W' w0.heap.size R' ∧ (∀ j u t, (us ++ [vg])[j]? = some u → (L ++ [s])[j]? = some t → R' (3 + 2 * j) = some (u, nat2 t)) ∧ W'.heap[gb]? = W.heap[gb]? ∧ vs'.ownBlock ≠ some gb := by
 have hus : us.length = L.length := by have := h.outer.1; omega
 obtain ⟨bs, b1, b2, b3⟩ := h.bk
 have hgbl := (Array.getElem?_eq_some_iff.1 b1).1
 have hx : ∀ b, vs.ownBlock = some b → ∀ cur, W.heap[b]? ≠ some (.cells cur 3) := by
  intro b hb cur e
  obtain ⟨_, c2, h2⟩ := own_blk h.outer hb
  rw [h2] at e
  simp only [Option.some.injEq, Obj.cells.injEq] at e
  exact absurd e.2.1 (by decide)
 have hrn := (h.rows.but hb hx).rename (j := 3 + 2 * L.length) hg (by omega)
 refine ⟨_, fun a h1 h2 => ?_, ?_, ?_, hrn, fun j u t h1 h2 => ?_, ?_, ?_⟩
 ·rw [upd_other _ _ h1, upd_other _ _ h2]
 ·exact h.below.trans (hb.below h.below.size (fun i hi e => by have := (own_blk h.outer e).1; omega))
 ·rw [hb.block rb (Array.getElem?_eq_some_iff.1 h.box).1 (fun e => by
   obtain ⟨_, c2, h2⟩ := own_blk h.outer e
   rw [h.box] at h2
   simp only [Option.some.injEq, Obj.cells.injEq] at h2
   exact absurd h2.2.1 (by decide))]
  exact h.box
 ·rw [upd_other _ _ (by omega)]
  by_cases hj : j = L.length
  ·subst hj
   rw [upd_same]
   have e1 : vg = u := by rw [← hus] at h1; simpa using h1
   have e2 : s = t := by simpa using h2
   rw [e1, e2]
  ·have hj' : j < L.length := by
    have := (List.getElem?_eq_some_iff.1 h2).1
    simp at this
    omega
   rw [upd_other _ _ (by omega)]
   exact h.sig j u t (by rw [List.getElem?_append_left (by omega)] at h1; exact h1) (by rw [List.getElem?_append_left hj'] at h2; exact h2)
 ·exact hb.block gb hgbl h.apart
 ·intro e
  rcases hat gb e with h1 | h1
  ·exact h.apart h1
  ·omega
theorem Cl3.bucketed {w0 W W1 W2 : World} {rb gb gc cc gn n : Nat} {vl vf vn : Value} {κl nl : List Nat} {L : List (List Nat)} {vs vs' : Value} {us : List Value} {R R1 : RowMap} (h : Cl3 w0 W rb gb gc cc gn n vl vf vn κl nl L vs us R) {vg : Value} {s : List Nat} {x : Nat} {bs : Array Value} {u u' : Value}
  (r1 : ∀ a, a ≠ 2 → a ≠ 3 + 2 * L.length → R1 a = R a) (r2 : Below w0.heap.size w0 W1) (r3 : W1.heap[rb]? = some (.cells #[vl, vf, vn] 62)) (r4 : RowsF W1 w0.heap.size R1) (r5 : ∀ j u t, (us ++ [vg])[j]? = some u → (L ++ [s])[j]? = some t → R1 (3 + 2 * j) = some (u, nat2 t)) (r7 : vs'.ownBlock ≠ some gb) (r8 : W1.ownsRow w0.heap.size 30 1 vs' (L.length + 1) (us ++ [vg]))
  (b1 : W1.heap[gb]? = some (.cells bs 30)) (b2 : bs.size = 1024) (b3 : ∀ h, h < 1024 → ∃ u, bs[h]? = some u ∧ R (4 + 2 * h) = some (u, nat2 (bkt L h))) (hx : x < 1024) (hs : hashOf s = x) (hu : R1 (4 + 2 * x) = some (u, nat2 (bkt L x)))
  (hb : But (fun b => u.ownBlock = some b) W1 W2) (ho : W2.ownsRow w0.heap.size 3 1 u' ((bkt L x).length + 1) (zI (nat2 (bkt L x)) ++ [.int .i64 (L.length : Int)])) (hat : ∀ b, u'.ownBlock = some b → u.ownBlock = some b ∨ W1.heap.size ≤ b) :
  ∃ R', Cl3 w0 (W2.setCell ⟨gb, x, none⟩ u') rb gb gc cc gn n vl vf vn κl nl (L ++ [s]) vs' (us ++ [vg]) R' := by
 have e0 : zI (nat2 (bkt L x)) ++ [.int .i64 (L.length : Int)] = zI (nat2 (bkt (L ++ [s]) x)) := by
  rw [bkt_snoc, if_pos hs, nat2_app, zI_app]; rfl
 have e1 : (bkt L x).length + 1 = (nat2 (bkt (L ++ [s]) x)).length := by
  rw [nat2_len, bkt_snoc, if_pos hs]; simp
 rw [e0, e1] at ho
 have hR2 := r4.growB hu hb ho hat
 have kp : ∀ (b : Nat) (cs : Array Value) (t : TypeId), t ≠ 3 → W1.heap[b]? = some (.cells cs t) → W2.heap[b]? = some (.cells cs t) := by
  intro b cs t ht hh
  rw [hb.block b (Array.getElem?_eq_some_iff.1 hh).1 (fun e => by
   obtain ⟨_, cur, h2⟩ := own_blk (r4.own _ _ _ hu) e
   rw [hh] at h2
   simp only [Option.some.injEq, Obj.cells.injEq] at h2
   exact ht h2.2.1)]
  exact hh
 have hgb2 := kp _ _ _ (by decide) b1
 have hbB : Below w0.heap.size w0 W2 := r2.trans (hb.below r2.size (fun i hi e => by have := (own_blk (r4.own _ _ _ hu) e).1; omega))
 have hB2 : But (fun b => b = gb) W2 (W2.setCell ⟨gb, x, none⟩ u') := (But.refl _ _).set gb x u' rfl
 have hR3 := hR2.but hB2 (fun b e cur hc => by
  subst e
  rw [hgb2] at hc
  simp only [Option.some.injEq, Obj.cells.injEq] at hc
  exact absurd hc.2.1 (by decide))
 have ks : ∀ b, b ≠ gb → (W2.setCell ⟨gb, x, none⟩ u').heap[b]? = W2.heap[b]? := fun b hb' => heap_set_other W2 gb x u' b hb'
 refine ⟨_, ⟨?_, ?_, hR3, ?_, ?_, ?_, ?_, ⟨bs.setIfInBounds x u', blk_setk hgb2 x u', by simpa using b2, ?_⟩, r7, h.from_⟩⟩
 ·exact hbB.trans (hB2.below hbB.size (fun i hi e => by have := h.from_; omega))
 ·rw [ks rb (blk_ne r3 b1 (by decide))]
  exact kp _ _ _ (by decide) r3
 ·rw [upd_other _ _ (by omega), r1 0 (by omega) (by omega)]; exact h.cls
 ·rw [upd_other _ _ (by omega), r1 1 (by omega) (by omega)]; exact h.nx
 ·rw [List.length_append, List.length_singleton]
  refine own_congr r8 (fun b hbk => ?_)
  obtain ⟨_, cur, h2⟩ := own_blk r8 hbk
  rw [ks b (by rintro rfl; exact r7 hbk), kp b cur _ (by decide) h2, h2]
 ·intro j v t h1 h2
  rw [upd_other _ _ (by omega)]
  exact r5 j v t h1 h2
 ·intro y hy
  by_cases e : y = x
  ·subst e
   exact ⟨u', by simp [b2, hy], by rw [upd_same]⟩
  ·obtain ⟨v, h1, h2⟩ := b3 y hy
   refine ⟨v, by rw [Array.getElem?_setIfInBounds_ne (Ne.symm e)]; exact h1, ?_⟩
   rw [upd_other _ _ (by omega), r1 _ (by omega) (by omega), h2, bkt_snoc, if_neg (by rw [hs]; exact Ne.symm e)]
theorem Cl3.setNext {w0 W : World} {rb gb gc cc gn n : Nat} {vl vf vn : Value} {κl nl : List Nat} {L : List (List Nat)} {vs : Value} {us : List Value} {R : RowMap} (h : Cl3 w0 W rb gb gc cc gn n vl vf vn κl nl L vs us R) (hn : nl.length = n) {i x : Nat} (hi : i < n) : ∃ R', Cl3 w0 (W.setCell ⟨gn, i, none⟩ (.int .i64 (x : Int))) rb gb gc cc gn n vl vf vn κl (nl.set i x) L vs us R' := by
 obtain ⟨bs, b1, b2, b3⟩ := h.bk
 have hnx : R 1 = some (.slice (some ⟨gn, 0, none⟩) (nat2 nl).length n, nat2 nl) := by rw [nat2_len, hn]; exact h.nx
 have hR := h.rows.set hnx (k := i) (by rw [nat2_len]; omega) (x : Int)
 obtain ⟨hge, cur, hgn⟩ := own_blk (h.rows.own 1 _ _ h.nx) (b := gn) rfl
 have ks : ∀ (b : Nat) (cs : Array Value) (t : TypeId), t ≠ 3 → W.heap[b]? = some (.cells cs t) → (W.setCell ⟨gn, i, none⟩ (.int .i64 (x : Int))).heap[b]? = some (.cells cs t) := by
  intro b cs t ht hh
  rw [heap_set_other W gn i _ b (blk_ne hh hgn ht)]
  exact hh
 have e : (nat2 nl).set i (x : Int) = nat2 (nl.set i x) := by simp [nat2, List.map_set]
 rw [e] at hR
 refine ⟨_, ⟨?_, ks _ _ _ (by decide) h.box, hR, ?_, ?_, ?_, ?_, ⟨bs, ks _ _ _ (by decide) b1, b2, ?_⟩, h.apart, h.from_⟩⟩
 ·exact h.below.trans (((But.refl (fun b => b = gn) W).set gn i _ rfl).below h.below.size (fun j hj e' => by omega))
 ·rw [upd_other _ _ (by omega)]; exact h.cls
 ·rw [upd_same, nat2_len, hn]
 ·refine own_congr h.outer (fun b hb => ?_)
  obtain ⟨_, c2, h2⟩ := own_blk h.outer hb
  rw [ks b c2 _ (by decide) h2, h2]
 ·intro j u t h1 h2
  rw [upd_other _ _ (by omega)]
  exact h.sig j u t h1 h2
 ·intro y hy
  obtain ⟨u, h1, h2⟩ := b3 y hy
  exact ⟨u, h1, by rw [upd_other _ _ (by omega)]; exact h2⟩
end Go.Proofs.YtoinajfliogcdaaDoor

namespace Go.Proofs.YtoinajfliogcdaaDoor
open Go
set_option linter.unusedVariables false

def dst (hit : Nat → Bool) (i : Nat) : Int := if hit i = true then 0 else 1
def nextF (hit : Nat → Bool) (k : Int) (f : Nat → Int) : Nat → Int
 | 0 => min (f 0 + 1) (k + 1)
 | i + 1 => min (f i + dst hit i) (min (f (i + 1) + 1) (min (nextF hit k f i + 1) (k + 1)))
def rowL (len : Nat) (f : Nat → Int) : List Int := (List.range (len + 1)).map f
def fOf (z : List Int) (i : Nat) : Int := z.getD i 0
def cameN (head came : Int) (hit : Nat → Bool) : Int := if came < head then (if hit came.toNat = true then came + 1 else head + 1) else came
def stepS (len : Nat) (k head : Int) (hit : Nat → Bool) (z : List Int) : List Int := rowL len (nextF hit k (fOf z)) ++ [cameN head (fOf z (len + 1)) hit]
def finS (len : Nat) (k head : Int) (z : List Int) : Bool := decide (fOf z len ≤ k) && decide (fOf z (len + 1) = head)
def firstS (len : Nat) (k : Int) : List Int := rowL len (fun i => min (i : Int) (k + 1)) ++ [0]
theorem rowL_len (len : Nat) (f : Nat → Int) : (rowL len f).length = len + 1 := by simp [rowL]
theorem fOf_row {len : Nat} (f : Nat → Int) (x : Int) {i : Nat} (h : i ≤ len) : fOf (rowL len f ++ [x]) i = f i := by
 simp [fOf, rowL, List.getElem?_append, show i < len + 1 by omega]
theorem fOf_last (len : Nat) (f : Nat → Int) (x : Int) : fOf (rowL len f ++ [x]) (len + 1) = x := by
 simp [fOf, rowL]
theorem row_ext {len : Nat} {f g : Nat → Int} (h : ∀ i, i ≤ len → f i = g i) : rowL len f = rowL len g := List.map_congr_left fun i hi => h i (by have := List.mem_range.1 hi; omega)
structure RowOK (len : Nat) (k head : Int) (z : List Int) : Prop where
 form : z = rowL len (fOf z) ++ [fOf z (len + 1)]
 win : ∃ t : Nat, ∀ i, i ≤ len → 0 ≤ fOf z i ∧ fOf z i ≤ k + 1 ∧ (fOf z i ≤ k → (t : Int) ≤ i + fOf z i ∧ (i : Int) ≤ t + fOf z i)
 came : 0 ≤ fOf z (len + 1) ∧ fOf z (len + 1) ≤ head + 1
theorem RowOK.len {len : Nat} {k head : Int} {z : List Int} (h : RowOK len k head z) : z.length = len + 2 := by
 rw [h.form]; simp [rowL_len]
theorem firstS_ok {len : Nat} {k head : Int} (hk : 0 ≤ k) (hh : 0 ≤ head) : RowOK len k head (firstS len k) := by
 refine ⟨?_, ⟨0, fun i hi => ?_⟩, ?_⟩
 ·unfold firstS
  rw [fOf_last, row_ext fun i hi => (fOf_row (fun i => min (i : Int) (k + 1)) 0 hi)]
 ·unfold firstS
  rw [fOf_row _ _ hi]
  omega
 ·unfold firstS
  rw [fOf_last]
  omega
theorem nextF_nn {hit : Nat → Bool} {k : Int} (hk : 0 ≤ k) {f : Nat → Int} : ∀ (i : Nat), (∀ j, j ≤ i → 0 ≤ f j) → 0 ≤ nextF hit k f i ∧ nextF hit k f i ≤ k + 1
 | 0, h => by have := h 0 (by omega); simp only [nextF]; omega
 | i + 1, h => by
  have h1 := nextF_nn (hit := hit) hk i (fun j hj => h j (by omega))
  have h2 := h i (by omega)
  have h3 := h (i + 1) (by omega)
  have h4 : 0 ≤ dst hit i := by unfold dst; split <;> omega
  simp only [nextF]
  omega
theorem RowOK.step {len : Nat} {k head : Int} {z : List Int} (h : RowOK len k head z) (hk : 0 ≤ k) (hh : 0 ≤ head) (hit : Nat → Bool) : RowOK len k head (stepS len k head hit z) := by
 obtain ⟨t, ht⟩ := h.win
 have hc := h.came
 refine ⟨?_, ⟨t + 1, ?_⟩, ?_⟩
 ·unfold stepS
  rw [fOf_last, row_ext fun i hi => (fOf_row (nextF hit k (fOf z)) _ hi)]
 ·intro i hi
  unfold stepS
  rw [fOf_row _ _ hi]
  have hb := nextF_nn (hit := hit) hk (f := fOf z) i (fun j hj => (ht j (by omega)).1)
  refine ⟨hb.1, hb.2, ?_⟩
  induction i with
  | zero =>
   simp only [nextF]
   have := ht 0 (by omega)
   omega
  | succ i ih =>
   have ih' := ih (by omega) (nextF_nn (hit := hit) hk (f := fOf z) i (fun j hj => (ht j (by omega)).1))
   have h1 := ht i (by omega)
   have h2 := ht (i + 1) hi
   have h4 : 0 ≤ dst hit i := by unfold dst; split <;> omega
   simp only [nextF]
   omega
 ·unfold stepS
  rw [fOf_last]
  unfold cameN
  split
  ·split <;> omega
  ·omega
def decZ (len : Nat) (k : Int) (c : Nat) : List Int :=
 rowL len (fun i => if c / 32768 ≤ i + 2 ∧ i ≤ c / 32768 + 2 then ((c / 32 % 1024 / 4 ^ (i + 2 - c / 32768) % 4 : Nat) : Int) else k + 1) ++ [((c % 32 : Nat) : Int)]
theorem digit5 (e0 e1 e2 e3 e4 : Nat) (h0 : e0 < 4) (h1 : e1 < 4) (h2 : e2 < 4) (h3 : e3 < 4) (h4 : e4 < 4) :
  e0 + 4 * e1 + 16 * e2 + 64 * e3 + 256 * e4 < 1024 ∧ ∀ j, j ≤ 4 → (e0 + 4 * e1 + 16 * e2 + 64 * e3 + 256 * e4) / 4 ^ j % 4 = (match j with | 0 => e0 | 1 => e1 | 2 => e2 | 3 => e3 | _ => e4) := by
 refine ⟨by omega, fun j hj => ?_⟩
 match j, hj with
 | 0, _ => simp; omega
 | 1, _ => simp; omega
 | 2, _ => simp; omega
 | 3, _ => simp; omega
 | 4, _ => simp; omega
theorem RowOK.code {len : Nat} {k head : Int} {z : List Int} (h : RowOK len k head z) (hl : len ≤ 30) (hk : 0 ≤ k) (hk2 : k ≤ 2) (hh : head ≤ 30) : ∃ c, c < 1114112 ∧ decZ len k c = z := by
 obtain ⟨t0, ht0⟩ := h.win
 have hc := h.came
 obtain ⟨t, ht33, ht⟩ : ∃ t, t ≤ 33 ∧ ∀ i, i ≤ len → 0 ≤ fOf z i ∧ fOf z i ≤ k + 1 ∧ (fOf z i ≤ k → t ≤ i + 2 ∧ i ≤ t + 2) := by
  by_cases h1 : t0 ≤ len + 3
  ·exact ⟨t0, by omega, fun i hi => by have := ht0 i hi; omega⟩
  ·exact ⟨len + 3, by omega, fun i hi => by have := ht0 i hi; omega⟩
 have hd : ∃ e : Nat → Nat, (∀ j, e j < 4) ∧ ∀ i, i ≤ len → t ≤ i + 2 → i ≤ t + 2 → ((e (i + 2 - t) : Nat) : Int) = fOf z i := by
  refine ⟨fun j => if j + t ≤ len + 2 ∧ 2 ≤ j + t then (fOf z (j + t - 2)).toNat else 0, fun j => ?_, fun i hi h1 h2 => ?_⟩
  ·dsimp only
   split
   ·have := ht (j + t - 2) (by omega); omega
   ·omega
  ·have h3 : i + 2 - t + t - 2 = i := by omega
   dsimp only
   rw [h3]
   have := ht i hi
   split <;> omega
 obtain ⟨e, he, he2⟩ := hd
 obtain ⟨g1, g2⟩ := digit5 (e 0) (e 1) (e 2) (e 3) (e 4) (he 0) (he 1) (he 2) (he 3) (he 4)
 generalize hD : e 0 + 4 * e 1 + 16 * e 2 + 64 * e 3 + 256 * e 4 = d at g1 g2
 obtain ⟨x, hx⟩ : ∃ x : Nat, fOf z (len + 1) = (x : Int) := ⟨(fOf z (len + 1)).toNat, by omega⟩
 have hx32 : x < 32 := by omega
 refine ⟨t * 32768 + d * 32 + x, by omega, ?_⟩
 have q1 : (t * 32768 + d * 32 + x) / 32768 = t := by omega
 have q2 : (t * 32768 + d * 32 + x) / 32 % 1024 = d := by omega
 have q3 : (t * 32768 + d * 32 + x) % 32 = x := by omega
 rw [h.form]
 unfold decZ
 rw [q1, q2, q3, hx]
 congr 1
 refine row_ext fun i hi => ?_
 by_cases hw : t ≤ i + 2 ∧ i ≤ t + 2
 ·rw [if_pos hw, ← he2 i hi hw.1 hw.2, g2 (i + 2 - t) (by omega)]
  obtain ⟨j, hj⟩ : ∃ j, i + 2 - t = j := ⟨_, rfl⟩
  rw [hj]
  match j, (show j ≤ 4 by omega) with
  | 0, _ => rfl
  | 1, _ => rfl
  | 2, _ => rfl
  | 3, _ => rfl
  | 4, _ => rfl
 ·rw [if_neg hw]
  have := ht i hi
  omega
def bset (p : Nat → Bool) : Nat → Nat
 | 0 => 0
 | n + 1 => bset p n + (if p n = true then 2 ^ n else 0)
theorem bset_lt (p : Nat → Bool) : ∀ n, bset p n < 2 ^ n
 | 0 => by simp [bset]
 | n + 1 => by
  have := bset_lt p n
  simp only [bset]
  rw [Nat.pow_succ]
  split <;> omega
theorem bset_bit (p : Nat → Bool) : ∀ n i, (bset p n).testBit i = (decide (i < n) && p i)
 | 0, i => by simp [bset]
 | n + 1, i => by
  have h1 := bset_lt p n
  have ih := bset_bit p n
  simp only [bset]
  by_cases hp : p n = true
  ·rw [if_pos hp, Nat.add_comm]
   rcases Nat.lt_trichotomy i n with h | h | h
   ·rw [Nat.testBit_two_pow_add_gt h, ih]
    simp [h, show i < n + 1 by omega]
   ·subst h
    rw [Nat.testBit_two_pow_add_eq, ih]
    simp [hp]
   ·rw [Nat.testBit_lt_two_pow (Nat.lt_of_lt_of_le (show 2 ^ n + bset p n < 2 ^ (n + 1) by rw [Nat.pow_succ]; omega) (Nat.pow_le_pow_right (by omega) h))]
    simp [show ¬ i < n + 1 by omega]
  ·rw [if_neg hp, Nat.add_zero, ih]
   by_cases h : i = n
   ·subst h; simp [hp]
   ·simp [show (i < n + 1) = (i < n) by simp; omega]
abbrev Near := Nat × Nat × Nat × Nat
def q0N (len : Nat) (fit p : Nat) : Nat := ((p &&& fit) <<< 1) &&& (2 ^ (len + 1) - 1)
def q1N (len : Nat) (fit p pf nf : Nat) : Nat := (((p &&& fit) <<< 1) ||| (pf ||| ((pf ||| nf) <<< 1))) &&& (2 ^ (len + 1) - 1)
def stepI (len k head : Nat) (hit : Nat → Bool) (s : Near) : Near :=
 if s.2.2.2 < head ∧ hit s.2.2.2 = false then (0, 0, 0, head)
 else
  let fit := bset hit len
  let a := q0N len fit s.1
  let b := if 1 ≤ k then q1N len fit s.2.1 s.1 a else 0
  let c := if 2 ≤ k then q1N len fit s.2.2.1 s.2.1 b else 0
  (a, b, c, min (s.2.2.2 + 1) head)
def nearAt (s : Near) (c : Nat) : Nat := match c with | 0 => s.1 | 1 => s.2.1 | _ => s.2.2.1
def finI (len k head : Nat) (s : Near) : Bool := decide (s.2.2.2 = head) && (nearAt s k).testBit len
def setOf (len : Nat) (z : List Int) (c : Nat) : Nat := bset (fun i => decide (fOf z i ≤ c)) (len + 1)
def nearOf (len k head : Nat) (z : List Int) : Near :=
 if fOf z (len + 1) = (head : Int) + 1 then (0, 0, 0, head)
 else (setOf len z 0, if 1 ≤ k then setOf len z 1 else 0, if 2 ≤ k then setOf len z 2 else 0, (fOf z (len + 1)).toNat)
theorem setOf_bit (len : Nat) (z : List Int) (c i : Nat) : (setOf len z c).testBit i = (decide (i < len + 1) && decide (fOf z i ≤ c)) := bset_bit _ _ _
theorem step_zero {len : Nat} {k head : Int} {hit : Nat → Bool} {z : List Int} (hz : RowOK len k head z) (hk : 0 ≤ k) :
  setOf len (stepS len k head hit z) 0 = q0N len (bset hit len) (setOf len z 0) := by
 obtain ⟨t, ht⟩ := hz.win
 refine Nat.eq_of_testBit_eq fun i => ?_
 rw [setOf_bit]
 unfold q0N
 rw [Nat.testBit_and, Nat.testBit_shiftLeft, Nat.testBit_two_pow_sub_one, Nat.testBit_and, setOf_bit, bset_bit]
 by_cases hi : i < len + 1
 ·unfold stepS
  rw [fOf_row _ _ (show i ≤ len by omega)]
  cases i with
  | zero =>
   have := ht 0 (by omega)
   have : ¬ nextF hit k (fOf z) 0 ≤ ((0 : Nat) : Int) := by simp only [nextF]; omega
   rw [decide_eq_false this]
   simp
  | succ i =>
   have h1 := ht i (by omega)
   have h2 := ht (i + 1) (by omega)
   have h3 := nextF_nn (hit := hit) hk (f := fOf z) i (fun j hj => (ht j (by omega)).1)
   have : (nextF hit k (fOf z) (i + 1) ≤ ((0 : Nat) : Int)) ↔ (fOf z i ≤ ((0 : Nat) : Int) ∧ hit i = true) := by
    simp only [nextF, dst]
    cases hit i <;> simp <;> omega
   have hb : decide (nextF hit k (fOf z) (i + 1) ≤ ((0 : Nat) : Int)) = (decide (fOf z i ≤ ((0 : Nat) : Int)) && hit i) := by
    rw [Bool.eq_iff_iff]
    simp only [decide_eq_true_iff, Bool.and_eq_true]
    exact this
   have e1 : i < len := by omega
   have e2 : i < len + 1 := by omega
   rw [hb, Nat.add_sub_cancel]
   simp [hi, e1, e2]
 ·simp [hi]
theorem step_more {len : Nat} {k head : Int} {hit : Nat → Bool} {z : List Int} (hz : RowOK len k head z) (hk : 0 ≤ k) (c : Nat) (hc : (c : Int) + 1 ≤ k) :
  setOf len (stepS len k head hit z) (c + 1) = q1N len (bset hit len) (setOf len z (c + 1)) (setOf len z c) (setOf len (stepS len k head hit z) c) := by
 obtain ⟨t, ht⟩ := hz.win
 refine Nat.eq_of_testBit_eq fun i => ?_
 rw [setOf_bit]
 unfold q1N
 rw [Nat.testBit_and, Nat.testBit_or, Nat.testBit_or, Nat.testBit_shiftLeft, Nat.testBit_shiftLeft, Nat.testBit_two_pow_sub_one, Nat.testBit_and, Nat.testBit_or, setOf_bit, setOf_bit, setOf_bit, setOf_bit, bset_bit]
 by_cases hi : i < len + 1
 ·have hs : ∀ j, j ≤ len → fOf (stepS len k head hit z) j = nextF hit k (fOf z) j := fun j hj => by unfold stepS; rw [fOf_row _ _ hj]
  rw [hs i (by omega)]
  cases i with
  | zero =>
   have := ht 0 (by omega)
   have : (nextF hit k (fOf z) 0 ≤ ((c + 1 : Nat) : Int)) ↔ fOf z 0 ≤ (c : Int) := by simp only [nextF]; omega
   rw [show decide (nextF hit k (fOf z) 0 ≤ ((c + 1 : Nat) : Int)) = decide (fOf z 0 ≤ (c : Int)) from decide_eq_decide.2 this]
   simp
  | succ i =>
   rw [Nat.add_sub_cancel, hs i (by omega)]
   have : (nextF hit k (fOf z) (i + 1) ≤ ((c + 1 : Nat) : Int)) ↔ ((fOf z i ≤ ((c + 1 : Nat) : Int) ∧ hit i = true) ∨ fOf z (i + 1) ≤ (c : Int) ∨ fOf z i ≤ (c : Int) ∨ nextF hit k (fOf z) i ≤ (c : Int)) := by
    simp only [nextF, dst]
    generalize nextF hit k (fOf z) i = x
    cases hit i <;> simp <;> omega
   rw [show decide (nextF hit k (fOf z) (i + 1) ≤ ((c + 1 : Nat) : Int)) = decide ((fOf z i ≤ ((c + 1 : Nat) : Int) ∧ hit i = true) ∨ fOf z (i + 1) ≤ (c : Int) ∨ fOf z i ≤ (c : Int) ∨ nextF hit k (fOf z) i ≤ (c : Int)) from decide_eq_decide.2 this]
   have e1 : i < len := by omega
   have e2 : i < len + 1 := by omega
   simp only [hi, e1, e2, decide_true, Bool.true_and, Bool.and_true, show decide (1 ≤ i + 1) = true by simp]
   simp only [Bool.decide_or, Bool.decide_and, Bool.decide_eq_true]
 ·simp [hi]
theorem nearOf_step {len k head : Nat} {hit : Nat → Bool} {z : List Int} (hz : RowOK len k head z) : nearOf len k head (stepS len k head hit z) = stepI len k head hit (nearOf len k head z) := by
 have hc := hz.came
 have hlast : fOf (stepS len k head hit z) (len + 1) = cameN head (fOf z (len + 1)) hit := by unfold stepS; rw [fOf_last]
 have z0 := step_zero (hit := hit) hz (by omega)
 have z1 : 1 ≤ k → setOf len (stepS len k head hit z) 1 = q1N len (bset hit len) (setOf len z 1) (setOf len z 0) (setOf len (stepS len k head hit z) 0) := fun h => step_more (hit := hit) hz (by omega) 0 (by omega)
 have z2 : 2 ≤ k → setOf len (stepS len k head hit z) 2 = q1N len (bset hit len) (setOf len z 2) (setOf len z 1) (setOf len (stepS len k head hit z) 1) := fun h => step_more (hit := hit) hz (by omega) 1 (by omega)
 unfold nearOf
 rw [hlast]
 by_cases h1 : fOf z (len + 1) = (head : Int) + 1
 ·have : cameN (head : Int) (fOf z (len + 1)) hit = (head : Int) + 1 := by unfold cameN; rw [if_neg (by omega), h1]
  rw [if_pos this, if_pos h1]
  unfold stepI
  rw [if_neg (by simp)]
  have e0 : q0N len (bset hit len) 0 = 0 := by simp [q0N]
  have e1 : q1N len (bset hit len) 0 0 0 = 0 := by simp [q1N]
  simp [e0, e1]
 ·rw [if_neg h1]
  obtain ⟨x, hx⟩ : ∃ x : Nat, fOf z (len + 1) = (x : Int) := ⟨(fOf z (len + 1)).toNat, by omega⟩
  rw [hx]
  have hx1 : x ≤ head := by omega
  unfold cameN stepI
  dsimp only
  by_cases h2 : x < head
  ·rw [if_pos (show (x : Int) < (head : Int) by omega), show (x : Int).toNat = x by omega]
   cases hh : hit x with
   | false => simp [h2]
   | true =>
    rw [if_pos rfl, if_neg (show ¬ (x : Int) + 1 = (head : Int) + 1 by omega), if_neg (show ¬ (x < head ∧ true = false) by simp), show ((x : Int) + 1).toNat = min (x + 1) head by omega]
    by_cases k1 : 1 ≤ k
    ·by_cases k2 : 2 ≤ k
     ·simp only [if_pos k1, if_pos k2, z2 k2, z1 k1, z0]
     ·simp only [if_pos k1, if_neg k2, z1 k1, z0]
    ·simp only [if_neg k1, if_neg (show ¬ 2 ≤ k by omega), z0]
  ·obtain rfl : x = head := by omega
   rw [if_neg (show ¬ (x : Int) < (x : Int) by omega), if_neg (show ¬ (x : Int) = (x : Int) + 1 by omega), show (x : Int).toNat = x by omega, if_neg (show ¬ (x < x ∧ hit x = false) by simp), show min (x + 1) x = x by omega]
   by_cases k1 : 1 ≤ k
   ·by_cases k2 : 2 ≤ k
    ·simp only [if_pos k1, if_pos k2, z2 k2, z1 k1, z0]
    ·simp only [if_pos k1, if_neg k2, z1 k1, z0]
   ·simp only [if_neg k1, if_neg (show ¬ 2 ≤ k by omega), z0]
theorem nearOf_fin {len k head : Nat} {z : List Int} (hz : RowOK len k head z) (hk : k ≤ 2) : finS len k head z = finI len k head (nearOf len k head z) := by
 have hc := hz.came
 unfold finS finI nearOf
 by_cases h1 : fOf z (len + 1) = (head : Int) + 1
 ·rw [if_pos h1]
  have : ¬ fOf z (len + 1) = (head : Int) := by omega
  have h0 : nearAt (0, 0, 0, head) k = 0 := by unfold nearAt; split <;> rfl
  simp [this, h0]
 ·rw [if_neg h1]
  obtain ⟨x, hx⟩ : ∃ x : Nat, fOf z (len + 1) = (x : Int) := ⟨(fOf z (len + 1)).toNat, by omega⟩
  rw [hx]
  have e : decide ((x : Int) = (head : Int)) = decide (x = head) := decide_eq_decide.2 (by omega)
  dsimp only
  rw [e, show (x : Int).toNat = x by omega, Bool.and_comm]
  congr 1
  have hb := setOf_bit len z k len
  rw [show decide (len < len + 1) = true by simp, Bool.true_and] at hb
  match k, hk with
  | 0, _ => exact hb.symm
  | 1, _ => exact hb.symm
  | 2, _ => exact hb.symm
theorem firstS_near {len k head : Nat} (hk : k ≤ 2) : nearOf len k head (firstS len k) = (setOf len (firstS len k) 0, if 1 ≤ k then setOf len (firstS len k) 1 else 0, if 2 ≤ k then setOf len (firstS len k) 2 else 0, 0) := by
 unfold nearOf
 have h0 : fOf (firstS len k) (len + 1) = 0 := by unfold firstS; rw [fOf_last]
 rw [h0, if_neg (by omega)]
 rfl
theorem firstS_set {len k c : Nat} (hc : c ≤ k) : setOf len (firstS len k) c = (2 ^ (c + 1) - 1) &&& (2 ^ (len + 1) - 1) := by
 refine Nat.eq_of_testBit_eq fun i => ?_
 rw [setOf_bit, Nat.testBit_and, Nat.testBit_two_pow_sub_one, Nat.testBit_two_pow_sub_one, Bool.and_comm]
 by_cases hi : i < len + 1
 ·unfold firstS
  rw [fOf_row _ _ (show i ≤ len by omega)]
  congr 1
  exact decide_eq_decide.2 (by omega)
 ·simp [hi]
end Go.Proofs.YtoinajfliogcdaaDoor
