import Derived.Test.YtmnfioghhdgciaaDoorWildJ02
import Derived.Test.YtmnfioghhdgciaaDoorWildJ04
namespace Go.Proofs.YtmnfioghhdgciaaDoor
open Go Go.RowKit
set_option linter.unusedVariables false
set_option maxRecDepth 100000

theorem Tryd.infoSlI : (Tryd.prog.info? 30).map (fun i => (i.zero, i.size, i.bytes)) = some (some (.slice none 0 0), 1, 24) := by kernel_rfl
/-! spec.l05Classes: which states accept the same. -/
def atN (l : List Nat) (q : Nat) : Nat := l.getD q 0
/-- What a round has in memory. -/
structure Cl3 (w0 W : World) (rb gb gc cc gn n : Nat) (vl vf vn : Value) (κl nl : List Nat) (L : List (List Nat)) (vs : Value) (us : List Value) (R : RowMap) : Prop where
  below : Below w0.heap.size w0 W
  box : W.heap[rb]? = some (.cells #[vl, vf, vn] 38)
  rows : RowsF W w0.heap.size R
  cls : R 0 = some (.slice (some ⟨gc, 0, none⟩) n cc, nat2 κl)
  nx : R 1 = some (.slice (some ⟨gn, 0, none⟩) n n, nat2 nl)
  outer : W.ownsRow w0.heap.size 30 1 vs L.length us
  sig : ∀ j u s, us[j]? = some u → L[j]? = some s → R (3 + 2 * j) = some (u, nat2 s)
  bk : ∃ bs : Array Value, W.heap[gb]? = some (.cells bs 30) ∧ bs.size = 1024 ∧ ∀ h, h < 1024 → ∃ u, bs[h]? = some u ∧ R (4 + 2 * h) = some (u, nat2 (bkt L h))
  apart : vs.ownBlock ≠ some gb
  from_ : w0.heap.size ≤ gb
theorem Cl3.keep {w0 W W' : World} {rb gb gc cc gn n : Nat} {vl vf vn : Value} {κl nl : List Nat} {L : List (List Nat)} {vs : Value} {us : List Value} {R : RowMap} (h : Cl3 w0 W rb gb gc cc gn n vl vf vn κl nl L vs us R) (hb : Below W.heap.size W W') : Cl3 w0 W' rb gb gc cc gn n vl vf vn κl nl L vs us R := by
  obtain ⟨bs, b1, b2, b3⟩ := h.bk
  exact ⟨h.below.trans (hb.mono h.below.size), blko h.box hb, h.rows.below hb, h.cls, h.nx, own_below h.outer hb, h.sig, ⟨bs, blko b1 hb, b2, b3⟩, h.apart, h.from_⟩
/-- A row more, at the name 2. -/
theorem Cl3.rowed {w0 W W' : World} {rb gb gc cc gn n : Nat} {vl vf vn : Value} {κl nl : List Nat} {L : List (List Nat)} {vs : Value} {us : List Value} {R R' : RowMap} (h : Cl3 w0 W rb gb gc cc gn n vl vf vn κl nl L vs us R) (hB : Below w0.heap.size w0 W') (hk : ∀ b, b < W.heap.size → (∀ cur, W.heap[b]? ≠ some (.cells cur 3)) → W'.heap[b]? = W.heap[b]?) (hR : RowsF W' w0.heap.size R') (ho : ∀ a, a ≠ 2 → R' a = R a) : Cl3 w0 W' rb gb gc cc gn n vl vf vn κl nl L vs us R' := by
  obtain ⟨bs, b1, b2, b3⟩ := h.bk
  have k : ∀ (b : Nat) (cs : Array Value) (t : TypeId), t ≠ 3 → W.heap[b]? = some (.cells cs t) → W'.heap[b]? = some (.cells cs t) := by
    intro b cs t ht hh
    rw [hk b (Array.getElem?_eq_some_iff.1 hh).1 (fun cur e => by rw [hh] at e; simp only [Option.some.injEq, Obj.cells.injEq] at e; exact ht e.2.1)]
    exact hh
  refine ⟨hB, k _ _ _ (by decide) h.box, hR, by rw [ho 0 (by omega)]; exact h.cls, by rw [ho 1 (by omega)]; exact h.nx, ?_, fun j u s h1 h2 => by rw [ho _ (by omega)]; exact h.sig j u s h1 h2, ⟨bs, k _ _ _ (by decide) b1, b2, fun x hx => ?_⟩, h.apart, h.from_⟩
  · refine own_congr h.outer (fun b hb => ?_)
    obtain ⟨_, cur, h2⟩ := own_blk h.outer hb
    rw [k b cur _ (by decide) h2, h2]
  · obtain ⟨u, h1, h2⟩ := b3 x hx
    exact ⟨u, h1, by rw [ho _ (by omega)]; exact h2⟩
/-- The signature goes behind the others. -/
theorem Cl3.pushed {w0 W W' : World} {rb gb gc cc gn n : Nat} {vl vf vn : Value} {κl nl : List Nat} {L : List (List Nat)} {vs vs' : Value} {us : List Value} {R : RowMap} (h : Cl3 w0 W rb gb gc cc gn n vl vf vn κl nl L vs us R) {vg : Value} {s : List Nat} (hg : R 2 = some (vg, nat2 s)) (hb : But (fun b => vs.ownBlock = some b) W W') (ho : W'.ownsRow w0.heap.size 30 1 vs' (L.length + 1) (us ++ [vg])) (hat : ∀ b, vs'.ownBlock = some b → vs.ownBlock = some b ∨ W.heap.size ≤ b) :
    ∃ R', (∀ a, a ≠ 2 → a ≠ 3 + 2 * L.length → R' a = R a) ∧ Below w0.heap.size w0 W' ∧ W'.heap[rb]? = some (.cells #[vl, vf, vn] 38) ∧ RowsF W' w0.heap.size R' ∧ (∀ j u t, (us ++ [vg])[j]? = some u → (L ++ [s])[j]? = some t → R' (3 + 2 * j) = some (u, nat2 t)) ∧ W'.heap[gb]? = W.heap[gb]? ∧ vs'.ownBlock ≠ some gb := by
  have hus : us.length = L.length := by have := h.outer.1; omega
  obtain ⟨bs, b1, b2, b3⟩ := h.bk
  have hgbl := (Array.getElem?_eq_some_iff.1 b1).1
  have hx : ∀ b, vs.ownBlock = some b → ∀ cur, W.heap[b]? ≠ some (.cells cur 3) := by
    intro b hb cur e
    obtain ⟨_, c2, h2⟩ := own_blk h.outer hb
    rw [h2] at e
    simp only [Option.some.injEq, Obj.cells.injEq] at e
    exact absurd e.2.1 (by decide)
  have hrn := (h.rows.but hb hx).rename (j := 3 + 2 * L.length) hg (by omega)
  refine ⟨_, fun a h1 h2 => ?_, ?_, ?_, hrn, fun j u t h1 h2 => ?_, ?_, ?_⟩
  · rw [upd_other _ _ h1, upd_other _ _ h2]
  · exact h.below.trans (hb.below h.below.size (fun i hi e => by have := (own_blk h.outer e).1; omega))
  · rw [hb.block rb (Array.getElem?_eq_some_iff.1 h.box).1 (fun e => by
      obtain ⟨_, c2, h2⟩ := own_blk h.outer e
      rw [h.box] at h2
      simp only [Option.some.injEq, Obj.cells.injEq] at h2
      exact absurd h2.2.1 (by decide))]
    exact h.box
  · rw [upd_other _ _ (by omega)]
    by_cases hj : j = L.length
    · subst hj
      rw [upd_same]
      have e1 : vg = u := by rw [← hus] at h1; simpa using h1
      have e2 : s = t := by simpa using h2
      rw [e1, e2]
    · have hj' : j < L.length := by
        have := (List.getElem?_eq_some_iff.1 h2).1
        simp at this
        omega
      rw [upd_other _ _ (by omega)]
      exact h.sig j u t (by rw [List.getElem?_append_left (by omega)] at h1; exact h1) (by rw [List.getElem?_append_left hj'] at h2; exact h2)
  · exact hb.block gb hgbl h.apart
  · intro e
    rcases hat gb e with h1 | h1
    · exact h.apart h1
    · omega
/-- The number of the signature goes into its bucket. -/
theorem Cl3.bucketed {w0 W W1 W2 : World} {rb gb gc cc gn n : Nat} {vl vf vn : Value} {κl nl : List Nat} {L : List (List Nat)} {vs vs' : Value} {us : List Value} {R R1 : RowMap} (h : Cl3 w0 W rb gb gc cc gn n vl vf vn κl nl L vs us R) {vg : Value} {s : List Nat} {x : Nat} {bs : Array Value} {u u' : Value}
    (r1 : ∀ a, a ≠ 2 → a ≠ 3 + 2 * L.length → R1 a = R a) (r2 : Below w0.heap.size w0 W1) (r3 : W1.heap[rb]? = some (.cells #[vl, vf, vn] 38)) (r4 : RowsF W1 w0.heap.size R1) (r5 : ∀ j u t, (us ++ [vg])[j]? = some u → (L ++ [s])[j]? = some t → R1 (3 + 2 * j) = some (u, nat2 t)) (r7 : vs'.ownBlock ≠ some gb) (r8 : W1.ownsRow w0.heap.size 30 1 vs' (L.length + 1) (us ++ [vg]))
    (b1 : W1.heap[gb]? = some (.cells bs 30)) (b2 : bs.size = 1024) (b3 : ∀ h, h < 1024 → ∃ u, bs[h]? = some u ∧ R (4 + 2 * h) = some (u, nat2 (bkt L h))) (hx : x < 1024) (hs : hashOf s = x) (hu : R1 (4 + 2 * x) = some (u, nat2 (bkt L x)))
    (hb : But (fun b => u.ownBlock = some b) W1 W2) (ho : W2.ownsRow w0.heap.size 3 1 u' ((bkt L x).length + 1) (zI (nat2 (bkt L x)) ++ [.int .i64 (L.length : Int)])) (hat : ∀ b, u'.ownBlock = some b → u.ownBlock = some b ∨ W1.heap.size ≤ b) :
    ∃ R', Cl3 w0 (W2.setCell ⟨gb, x, none⟩ u') rb gb gc cc gn n vl vf vn κl nl (L ++ [s]) vs' (us ++ [vg]) R' := by
  have e0 : zI (nat2 (bkt L x)) ++ [.int .i64 (L.length : Int)] = zI (nat2 (bkt (L ++ [s]) x)) := by
    rw [bkt_snoc, if_pos hs, nat2_app, zI_app]; rfl
  have e1 : (bkt L x).length + 1 = (nat2 (bkt (L ++ [s]) x)).length := by
    rw [nat2_len, bkt_snoc, if_pos hs]; simp
  rw [e0, e1] at ho
  have hR2 := r4.growB hu hb ho hat
  have kp : ∀ (b : Nat) (cs : Array Value) (t : TypeId), t ≠ 3 → W1.heap[b]? = some (.cells cs t) → W2.heap[b]? = some (.cells cs t) := by
    intro b cs t ht hh
    rw [hb.block b (Array.getElem?_eq_some_iff.1 hh).1 (fun e => by
      obtain ⟨_, cur, h2⟩ := own_blk (r4.own _ _ _ hu) e
      rw [hh] at h2
      simp only [Option.some.injEq, Obj.cells.injEq] at h2
      exact ht h2.2.1)]
    exact hh
  have hgb2 := kp _ _ _ (by decide) b1
  have hbB : Below w0.heap.size w0 W2 := r2.trans (hb.below r2.size (fun i hi e => by have := (own_blk (r4.own _ _ _ hu) e).1; omega))
  have hB2 : But (fun b => b = gb) W2 (W2.setCell ⟨gb, x, none⟩ u') := (But.refl _ _).set gb x u' rfl
  have hR3 := hR2.but hB2 (fun b e cur hc => by
    subst e
    rw [hgb2] at hc
    simp only [Option.some.injEq, Obj.cells.injEq] at hc
    exact absurd hc.2.1 (by decide))
  have ks : ∀ b, b ≠ gb → (W2.setCell ⟨gb, x, none⟩ u').heap[b]? = W2.heap[b]? := fun b hb' => heap_set_other W2 gb x u' b hb'
  refine ⟨_, ⟨?_, ?_, hR3, ?_, ?_, ?_, ?_, ⟨bs.setIfInBounds x u', blk_setk hgb2 x u', by simpa using b2, ?_⟩, r7, h.from_⟩⟩
  · exact hbB.trans (hB2.below hbB.size (fun i hi e => by have := h.from_; omega))
  · rw [ks rb (blk_ne r3 b1 (by decide))]
    exact kp _ _ _ (by decide) r3
  · rw [upd_other _ _ (by omega), r1 0 (by omega) (by omega)]; exact h.cls
  · rw [upd_other _ _ (by omega), r1 1 (by omega) (by omega)]; exact h.nx
  · rw [List.length_append, List.length_singleton]
    refine own_congr r8 (fun b hbk => ?_)
    obtain ⟨_, cur, h2⟩ := own_blk r8 hbk
    rw [ks b (by rintro rfl; exact r7 hbk), kp b cur _ (by decide) h2, h2]
  · intro j v t h1 h2
    rw [upd_other _ _ (by omega)]
    exact r5 j v t h1 h2
  · intro y hy
    by_cases e : y = x
    · subst e
      exact ⟨u', by simp [b2, hy], by rw [upd_same]⟩
    · obtain ⟨v, h1, h2⟩ := b3 y hy
      refine ⟨v, by rw [Array.getElem?_setIfInBounds_ne (Ne.symm e)]; exact h1, ?_⟩
      rw [upd_other _ _ (by omega), r1 _ (by omega) (by omega), h2, bkt_snoc, if_neg (by rw [hs]; exact Ne.symm e)]
/-- The class of a state is told. -/
theorem Cl3.setNext {w0 W : World} {rb gb gc cc gn n : Nat} {vl vf vn : Value} {κl nl : List Nat} {L : List (List Nat)} {vs : Value} {us : List Value} {R : RowMap} (h : Cl3 w0 W rb gb gc cc gn n vl vf vn κl nl L vs us R) (hn : nl.length = n) {i x : Nat} (hi : i < n) : ∃ R', Cl3 w0 (W.setCell ⟨gn, i, none⟩ (.int .i64 (x : Int))) rb gb gc cc gn n vl vf vn κl (nl.set i x) L vs us R' := by
  obtain ⟨bs, b1, b2, b3⟩ := h.bk
  have hnx : R 1 = some (.slice (some ⟨gn, 0, none⟩) (nat2 nl).length n, nat2 nl) := by rw [nat2_len, hn]; exact h.nx
  have hR := h.rows.set hnx (k := i) (by rw [nat2_len]; omega) (x : Int)
  obtain ⟨hge, cur, hgn⟩ := own_blk (h.rows.own 1 _ _ h.nx) (b := gn) rfl
  have ks : ∀ (b : Nat) (cs : Array Value) (t : TypeId), t ≠ 3 → W.heap[b]? = some (.cells cs t) → (W.setCell ⟨gn, i, none⟩ (.int .i64 (x : Int))).heap[b]? = some (.cells cs t) := by
    intro b cs t ht hh
    rw [heap_set_other W gn i _ b (blk_ne hh hgn ht)]
    exact hh
  have e : (nat2 nl).set i (x : Int) = nat2 (nl.set i x) := by simp [nat2, List.map_set]
  rw [e] at hR
  refine ⟨_, ⟨?_, ks _ _ _ (by decide) h.box, hR, ?_, ?_, ?_, ?_, ⟨bs, ks _ _ _ (by decide) b1, b2, ?_⟩, h.apart, h.from_⟩⟩
  · exact h.below.trans (((But.refl (fun b => b = gn) W).set gn i _ rfl).below h.below.size (fun j hj e' => by omega))
  · rw [upd_other _ _ (by omega)]; exact h.cls
  · rw [upd_same, nat2_len, hn]
  · refine own_congr h.outer (fun b hb => ?_)
    obtain ⟨_, c2, h2⟩ := own_blk h.outer hb
    rw [ks b c2 _ (by decide) h2, h2]
  · intro j u t h1 h2
    rw [upd_other _ _ (by omega)]
    exact h.sig j u t h1 h2
  · intro y hy
    obtain ⟨u, h1, h2⟩ := b3 y hy
    exact ⟨u, h1, by rw [upd_other _ _ (by omega)]; exact h2⟩
end Go.Proofs.YtmnfioghhdgciaaDoor
