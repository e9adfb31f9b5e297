import Derived.Test.YtpdiaddgialanaaGreatDoorLogJ08
import Derived.Test.YtpdiaddgialanaaGreatDoorLogJ09
namespace Go.Proofs.YtpdiaddgialanaaGreatDoor
open Go Go.RowKit
set_option linter.unusedVariables false
set_option linter.unusedSimpArgs false
set_option maxRecDepth 100000

/-! A document bent: what is written into its rows. -/
theorem idx_set {ys : List Value} {k r : Nat} {u : Value} (hr : r < 3) {i s : Nat} (hs : s < 3) (h : i ≠ k ∨ s ≠ r) : (ys.set (k * 3 + r) u)[i * 3 + s]? = ys[i * 3 + s]? := by
  rw [List.getElem?_set]
  rw [if_neg]
  omega
theorem idx_set0 {ys : List Value} {k r : Nat} {u : Value} (hr : r < 3) {i : Nat} (h : i ≠ k ∨ 0 ≠ r) : (ys.set (k * 3 + r) u)[i * 3]? = ys[i * 3]? := idx_set (s := 0) hr (by omega) h
theorem idx_at0 {ys : List Value} {k : Nat} {u : Value} (h : k * 3 < ys.length) : (ys.set (k * 3 + 0) u)[k * 3]? = some u := by
  rw [List.getElem?_set]
  simp [h]
theorem idx_at {ys : List Value} {k r : Nat} {u : Value} (h : k * 3 + r < ys.length) : (ys.set (k * 3 + r) u)[k * 3 + r]? = some u := by
  rw [List.getElem?_set]
  simp [h]
theorem getD_set_o {V : List Vl} {k i : Nat} {x : Vl} (h : i ≠ k) : (V.set k x).getD i vl0 = V.getD i vl0 := by
  simp only [List.getD_eq_getElem?_getD, List.getElem?_set]
  rw [if_neg (by omega)]
theorem getD_set_k {V : List Vl} {k : Nat} {x : Vl} (h : k < V.length) : (V.set k x).getD k vl0 = x := by
  simp only [List.getD_eq_getElem?_getD, List.getElem?_set]
  simp [h]
theorem DocO.setT {W W' : World} {base gv c k n : Nat} {V : List Vl} {ys : List Value} {v' vk : Value} {T' : List (List UInt8)} (h : DocO W base (.slice (some ⟨gv, 0, none⟩) n c) V ys) (hnn : n = V.length) (hk : k < V.length) (hvk : ys[k * 3 + 1]? = some vk) (hg : W.grownBy W' vk.ownBlock) (ho : W'.ownsRow base 9 1 v' T'.length (sC T')) (hl : v'.ownBlock = vk.ownBlock ∨ ∀ x, v'.ownBlock = some x → W.heap.size ≤ x) :
    DocO (W'.setCell ⟨gv, k * 3 + 1, none⟩ v') base (.slice (some ⟨gv, 0, none⟩) n c) (V.set k ((V.getD k vl0).1, T', (V.getD k vl0).2.2)) (ys.set (k * 3 + 1) v') := by
  subst hnn
  have hlen := h.len
  have hvv := h.val k hk
  have hvo : W.ownsRow base 9 1 vk ((V.getD k vl0).2.1).length (sC (V.getD k vl0).2.1) := by
    obtain ⟨_, ⟨v1, q1, q2⟩, v2, q3, q4⟩ := hvv
    rw [hvk] at q1
    cases q1
    exact q2
  have hrow : W'.ownsRow base 88 3 (.slice (some ⟨gv, 0, none⟩) V.length c) V.length ys := own_congr h.row fun y hy => hg.block y (own_ltL h.row hy) (fun e => own_apartL h.row hvo (by decide) hy e.symm)
  have hgv : ∃ cs, W'.heap[gv]? = some (.cells cs 88) := (own_blk hrow rfl).2
  obtain ⟨cs, hcs⟩ := hgv
  have hoth : ∀ y, y ≠ gv → (W'.setCell ⟨gv, k * 3 + 1, none⟩ v').heap[y]? = W'.heap[y]? := fun y hy => heap_set_other _ _ _ _ _ hy
  have kT : ∀ {v : Value} {e n : Nat} {xs : List Value}, W'.ownsRow base e 1 v n xs → e ≠ 88 → (W'.setCell ⟨gv, k * 3 + 1, none⟩ v').ownsRow base e 1 v n xs := fun hv he => own_congr hv fun y hy => hoth y (fun e' => own_apartB hv hcs he (by rw [hy, e']))
  refine ⟨(by rw [List.length_set]; exact (hrow.stored (k * 3 + 1) v').1), by rw [List.length_set, List.length_set]; exact hlen, fun i hi => ?_, fun i j hi hj hij => ?_⟩
  · rw [List.length_set] at hi
    by_cases hik : i = k
    · subst hik
      obtain ⟨q0, ⟨v1, q1, q2⟩, v2, q3, q4⟩ := h.val i hi
      rw [idx_set0 (by omega) (Or.inr (by omega)), idx_set (by omega) (s := 2) (by omega) (Or.inr (by omega)), idx_at (by omega), getD_set_k hi]
      exact ⟨q0, ⟨v', rfl, kT ho (by decide)⟩, v2, q3, kT (own_congr q4 fun y hy => hg.block y (own_ltL q4 hy) (fun e => own_apartL q4 hvo (by decide) hy e.symm)) (by decide)⟩
    · obtain ⟨q0, ⟨v1, q1, q2⟩, v2, q3, q4⟩ := h.val i hi
      rw [idx_set0 (by omega) (Or.inl hik), idx_set (by omega) (s := 1) (by omega) (Or.inl hik), idx_set (by omega) (s := 2) (by omega) (Or.inl hik), getD_set_o hik]
      exact ⟨q0, ⟨v1, q1, kT (own_congr q2 fun y hy => hg.block y (own_ltL q2 hy) (fun e => (h.apt i k hi hk hik).1 v1 vk y q1 hvk hy e.symm)) (by decide)⟩, v2, q3, kT (own_congr q4 fun y hy => hg.block y (own_ltL q4 hy) (fun e => own_apartL q4 hvo (by decide) hy e.symm)) (by decide)⟩
  · rw [List.length_set] at hi hj
    have hrow2 : ∀ i, i < V.length → ∃ v, ys[i * 3 + 1]? = some v ∧ ∀ x, v.ownBlock = some x → x < W.heap.size := fun i hi => by
      obtain ⟨q0, ⟨v1, q1, q2⟩, v2, q3, q4⟩ := h.val i hi
      exact ⟨_, q1, fun x hx => own_ltL q2 hx⟩
    have hap := h.apt i j hi hj hij
    by_cases hik : i = k
    · subst hik
      have hjk : j ≠ i := fun e => hij e.symm
      rw [idx_at (by omega), idx_set (by omega) (s := 1) (by omega) (Or.inl hjk), idx_set (by omega) (s := 2) (i := i) (by omega) (Or.inr (by omega)), idx_set (by omega) (s := 2) (i := j) (by omega) (Or.inl hjk)]
      obtain ⟨vj, hvj, hvl⟩ := hrow2 j hj
      have hA : Apt (some v') ys[j * 3 + 1]? := fun a b x ha hb h1 h2 => by
        cases ha
        rw [hvj] at hb
        cases hb
        rcases hl with hl | hl
        · exact hap.1 vk vj x hvk hvj (hl ▸ h1) h2
        · have := hl x h1; have := hvl x h2; omega
      exact ⟨hA, hap.2⟩
    · by_cases hjk : j = k
      · subst hjk
        rw [idx_at (by omega), idx_set (by omega) (s := 1) (by omega) (Or.inl hik), idx_set (by omega) (s := 2) (i := j) (by omega) (Or.inr (by omega)), idx_set (by omega) (s := 2) (i := i) (by omega) (Or.inl hik)]
        obtain ⟨vi, hvi, hvl⟩ := hrow2 i hi
        have hA : Apt ys[i * 3 + 1]? (some v') := fun a b x ha hb h1 h2 => by
          cases hb
          rw [hvi] at ha
          cases ha
          rcases hl with hl | hl
          · exact hap.1 vi vk x hvi hvk h1 (hl ▸ h2)
          · have := hl x h2; have := hvl x h1; omega
        exact ⟨hA, hap.2⟩
      · rw [idx_set (by omega) (s := 1) (i := i) (by omega) (Or.inl hik), idx_set (by omega) (s := 1) (i := j) (by omega) (Or.inl hjk), idx_set (by omega) (s := 2) (i := i) (by omega) (Or.inl hik), idx_set (by omega) (s := 2) (i := j) (by omega) (Or.inl hjk)]
        exact hap
theorem DocO.setZ {W W' : World} {base gv c k n : Nat} {V : List Vl} {ys : List Value} {v' vk : Value} {T' : List Int} (h : DocO W base (.slice (some ⟨gv, 0, none⟩) n c) V ys) (hnn : n = V.length) (hk : k < V.length) (hvk : ys[k * 3 + 2]? = some vk) (hg : W.grownBy W' vk.ownBlock) (ho : W'.ownsRow base 3 1 v' T'.length (zC T')) (hl : v'.ownBlock = vk.ownBlock ∨ ∀ x, v'.ownBlock = some x → W.heap.size ≤ x) :
    DocO (W'.setCell ⟨gv, k * 3 + 2, none⟩ v') base (.slice (some ⟨gv, 0, none⟩) n c) (V.set k ((V.getD k vl0).1, (V.getD k vl0).2.1, T')) (ys.set (k * 3 + 2) v') := by
  subst hnn
  have hlen := h.len
  have hvv := h.val k hk
  have hvo : W.ownsRow base 3 1 vk ((V.getD k vl0).2.2).length (zC (V.getD k vl0).2.2) := by
    obtain ⟨_, ⟨v1, q1, q2⟩, v2, q3, q4⟩ := hvv
    rw [hvk] at q3
    cases q3
    exact q4
  have hrow : W'.ownsRow base 88 3 (.slice (some ⟨gv, 0, none⟩) V.length c) V.length ys := own_congr h.row fun y hy => hg.block y (own_ltL h.row hy) (fun e => own_apartL h.row hvo (by decide) hy e.symm)
  have hgv : ∃ cs, W'.heap[gv]? = some (.cells cs 88) := (own_blk hrow rfl).2
  obtain ⟨cs, hcs⟩ := hgv
  have hoth : ∀ y, y ≠ gv → (W'.setCell ⟨gv, k * 3 + 2, none⟩ v').heap[y]? = W'.heap[y]? := fun y hy => heap_set_other _ _ _ _ _ hy
  have kT : ∀ {v : Value} {e n : Nat} {xs : List Value}, W'.ownsRow base e 1 v n xs → e ≠ 88 → (W'.setCell ⟨gv, k * 3 + 2, none⟩ v').ownsRow base e 1 v n xs := fun hv he => own_congr hv fun y hy => hoth y (fun e' => own_apartB hv hcs he (by rw [hy, e']))
  refine ⟨(by rw [List.length_set]; exact (hrow.stored (k * 3 + 2) v').1), by rw [List.length_set, List.length_set]; exact hlen, fun i hi => ?_, fun i j hi hj hij => ?_⟩
  · rw [List.length_set] at hi
    by_cases hik : i = k
    · subst hik
      obtain ⟨q0, ⟨v1, q1, q2⟩, v2, q3, q4⟩ := h.val i hi
      rw [idx_set0 (by omega) (Or.inr (by omega)), idx_set (by omega) (s := 1) (by omega) (Or.inr (by omega)), idx_at (by omega), getD_set_k hi]
      exact ⟨q0, ⟨v1, q1, kT (own_congr q2 fun y hy => hg.block y (own_ltL q2 hy) (fun e => own_apartL q2 hvo (by decide) hy e.symm)) (by decide)⟩, v', rfl, kT ho (by decide)⟩
    · obtain ⟨q0, ⟨v1, q1, q2⟩, v2, q3, q4⟩ := h.val i hi
      rw [idx_set0 (by omega) (Or.inl hik), idx_set (by omega) (s := 1) (by omega) (Or.inl hik), idx_set (by omega) (s := 2) (by omega) (Or.inl hik), getD_set_o hik]
      exact ⟨q0, ⟨v1, q1, kT (own_congr q2 fun y hy => hg.block y (own_ltL q2 hy) (fun e => own_apartL q2 hvo (by decide) hy e.symm)) (by decide)⟩, v2, q3, kT (own_congr q4 fun y hy => hg.block y (own_ltL q4 hy) (fun e => (h.apt i k hi hk hik).2 v2 vk y q3 hvk hy e.symm)) (by decide)⟩
  · rw [List.length_set] at hi hj
    have hrow2 : ∀ i, i < V.length → ∃ v, ys[i * 3 + 2]? = some v ∧ ∀ x, v.ownBlock = some x → x < W.heap.size := fun i hi => by
      obtain ⟨q0, ⟨v1, q1, q2⟩, v2, q3, q4⟩ := h.val i hi
      exact ⟨_, q3, fun x hx => own_ltL q4 hx⟩
    have hap := h.apt i j hi hj hij
    by_cases hik : i = k
    · subst hik
      have hjk : j ≠ i := fun e => hij e.symm
      rw [idx_at (by omega), idx_set (by omega) (s := 2) (by omega) (Or.inl hjk), idx_set (by omega) (s := 1) (i := i) (by omega) (Or.inr (by omega)), idx_set (by omega) (s := 1) (i := j) (by omega) (Or.inl hjk)]
      obtain ⟨vj, hvj, hvl⟩ := hrow2 j hj
      have hA : Apt (some v') ys[j * 3 + 2]? := fun a b x ha hb h1 h2 => by
        cases ha
        rw [hvj] at hb
        cases hb
        rcases hl with hl | hl
        · exact hap.2 vk vj x hvk hvj (hl ▸ h1) h2
        · have := hl x h1; have := hvl x h2; omega
      exact ⟨hap.1, hA⟩
    · by_cases hjk : j = k
      · subst hjk
        rw [idx_at (by omega), idx_set (by omega) (s := 2) (by omega) (Or.inl hik), idx_set (by omega) (s := 1) (i := j) (by omega) (Or.inr (by omega)), idx_set (by omega) (s := 1) (i := i) (by omega) (Or.inl hik)]
        obtain ⟨vi, hvi, hvl⟩ := hrow2 i hi
        have hA : Apt ys[i * 3 + 2]? (some v') := fun a b x ha hb h1 h2 => by
          cases hb
          rw [hvi] at ha
          cases ha
          rcases hl with hl | hl
          · exact hap.2 vi vk x hvi hvk h1 (hl ▸ h2)
          · have := hl x h2; have := hvl x h1; omega
        exact ⟨hap.1, hA⟩
      · rw [idx_set (by omega) (s := 1) (i := i) (by omega) (Or.inl hik), idx_set (by omega) (s := 1) (i := j) (by omega) (Or.inl hjk), idx_set (by omega) (s := 2) (i := i) (by omega) (Or.inl hik), idx_set (by omega) (s := 2) (i := j) (by omega) (Or.inl hjk)]
        exact hap
theorem DocO.setF {W : World} {base gv c k n : Nat} {V : List Vl} {ys : List Value} (h : DocO W base (.slice (some ⟨gv, 0, none⟩) n c) V ys) (hnn : n = V.length) (hk : k < V.length) (f' : List UInt8) :
    DocO (W.setCell ⟨gv, k * 3 + 0, none⟩ (.string ⟨f'.toArray⟩)) base (.slice (some ⟨gv, 0, none⟩) n c) (V.set k (f', (V.getD k vl0).2)) (ys.set (k * 3 + 0) (.string ⟨f'.toArray⟩)) := by
  subst hnn
  have hlen := h.len
  obtain ⟨cs, hcs⟩ := (own_blk h.row rfl).2
  have kT : ∀ {v : Value} {e n : Nat} {xs : List Value}, W.ownsRow base e 1 v n xs → e ≠ 88 → (W.setCell ⟨gv, k * 3 + 0, none⟩ (.string ⟨f'.toArray⟩)).ownsRow base e 1 v n xs := fun hv he => own_congr hv fun y hy => heap_set_other _ _ _ _ _ (fun e' => own_apartB hv hcs he (by rw [hy, e']))
  refine ⟨(by rw [List.length_set]; exact (h.row.stored (k * 3 + 0) _).1), by rw [List.length_set, List.length_set]; exact hlen, fun i hi => ?_, fun i j hi hj hij => ?_⟩
  · rw [List.length_set] at hi
    obtain ⟨q0, ⟨v1, q1, q2⟩, v2, q3, q4⟩ := h.val i hi
    by_cases hik : i = k
    · subst hik
      rw [idx_at0 (by omega), idx_set (by omega) (s := 1) (by omega) (Or.inr (by omega)), idx_set (by omega) (s := 2) (by omega) (Or.inr (by omega)), getD_set_k hi]
      exact ⟨rfl, ⟨v1, q1, kT q2 (by decide)⟩, v2, q3, kT q4 (by decide)⟩
    · rw [idx_set0 (by omega) (Or.inl hik), idx_set (by omega) (s := 1) (by omega) (Or.inl hik), idx_set (by omega) (s := 2) (by omega) (Or.inl hik), getD_set_o hik]
      exact ⟨q0, ⟨v1, q1, kT q2 (by decide)⟩, v2, q3, kT q4 (by decide)⟩
  · rw [List.length_set] at hi hj
    rw [idx_set (by omega) (s := 1) (i := i) (by omega) (Or.inr (by omega)), idx_set (by omega) (s := 1) (i := j) (by omega) (Or.inr (by omega)), idx_set (by omega) (s := 2) (i := i) (by omega) (Or.inr (by omega)), idx_set (by omega) (s := 2) (i := j) (by omega) (Or.inr (by omega))]
    exact h.apt i j hi hj hij
/-- A document whose rows may lie in one place. -/
structure DocV (W : World) (base : Nat) (dv : Value) (V : List Vl) (ys : List Value) : Prop where
  row : W.ownsRow base 88 3 dv V.length ys
  len : ys.length = V.length * 3
  val : ∀ i, i < V.length → ValL W base ys[i * 3]? ys[i * 3 + 1]? ys[i * 3 + 2]? (V.getD i vl0)
theorem DocO.v {W : World} {base : Nat} {dv : Value} {V : List Vl} {ys : List Value} (h : DocO W base dv V ys) : DocV W base dv V ys := ⟨h.row, h.len, h.val⟩
theorem DocV.keep {W W' : World} {base : Nat} {dv : Value} {V : List Vl} {ys : List Value} (h : DocV W base dv V ys) (hk : KeepD W W') : DocV W' base dv V ys :=
  ⟨own_keepD h.row hk (Or.inr (Or.inr rfl)), h.len, fun i hi => (h.val i hi).keep hk⟩
theorem DocV.hold {W : World} {base : Nat} {a : Option Addr} {m c : Nat} {V : List Vl} {ys : List Value} (h : DocV W base (.slice a m c) V ys) : m = V.length ∧ HoldV W a V := by
  have hr := h.row
  rcases hr.2 with ⟨h1, h2⟩ | ⟨g, cap, cur, h1, hb, hg, hr'⟩
  · injection h1 with _ h1
    exact ⟨by omega, Or.inl (List.length_eq_zero_iff.1 h2)⟩
  · injection h1 with h1 h3 h4
    subst h1 h3 h4
    refine ⟨rfl, Or.inr ⟨g, 0, rfl, (Array.getElem?_eq_some_iff.1 hg).1, fun i hi => ?_⟩⟩
    obtain ⟨q0, ⟨v1, q1, q2⟩, v2, q3, q4⟩ := h.val i hi
    obtain ⟨a1, c1, rfl⟩ := own_slice q2
    obtain ⟨a2, c2, rfl⟩ := own_slice q4
    rw [Nat.zero_add, hr.cellAt (i * 3) (by omega), hr.cellAt (i * 3 + 1) (by omega), hr.cellAt (i * 3 + 2) (by omega)]
    exact ⟨q0, ⟨a1, c1, q1, own_holdTx q2⟩, a2, c2, q3, own_holdZ q4⟩
/-- One value told twice. -/
theorem DocO.dup {W W' : World} {base k : Nat} {dv dv' : Value} {V : List Vl} {ys : List Value} {u0 u1 u2 : Value} (h : DocO W base dv V ys) (hk : k < V.length) (h0 : ys[k * 3]? = some u0) (h1 : ys[k * 3 + 1]? = some u1) (h2 : ys[k * 3 + 2]? = some u2) (ho : W'.ownsRow base 88 3 dv' (V.length + 1) (ys ++ [u0, u1, u2])) (hg : W.grownBy W' dv.ownBlock) :
    DocV W' base dv' (V ++ [V.getD k vl0]) (ys ++ [u0, u1, u2]) := by
  have hl := h.len
  have hV : ∀ {a b c : Option Value} {y : Vl}, ValL W base a b c y → ValL W' base a b c y := fun {a b c y} hv => by
    obtain ⟨h1, ⟨v, h2, h3⟩, v', h4, h5⟩ := hv
    exact ⟨h1, ⟨v, h2, own_congr h3 fun z hz => hg.block z (own_ltL h3 hz) (fun e => own_apartL h3 h.row (by decide) hz e.symm)⟩, v', h4, own_congr h5 fun z hz => hg.block z (own_ltL h5 hz) (fun e => own_apartL h5 h.row (by decide) hz e.symm)⟩
  refine ⟨by rw [List.length_append]; exact ho, by simp [hl]; omega, fun i hi => ?_⟩
  by_cases hlt : i < V.length
  · rw [List.getElem?_append_left (by omega), List.getElem?_append_left (by omega), List.getElem?_append_left (by omega), show (V ++ [V.getD k vl0]).getD i vl0 = V.getD i vl0 from by simp [List.getElem?_append_left hlt]]
    exact hV (h.val i hlt)
  · have hi' : i = V.length := by simp at hi; omega
    subst hi'
    rw [List.getElem?_append_right (by omega), List.getElem?_append_right (by omega), List.getElem?_append_right (by omega), show V.length * 3 - ys.length = 0 from by omega, show V.length * 3 + 1 - ys.length = 1 from by omega, show V.length * 3 + 2 - ys.length = 2 from by omega]
    rw [show (V ++ [V.getD k vl0]).getD V.length vl0 = V.getD k vl0 from by simp]
    have := hV (h.val k hk)
    rw [h0, h1, h2] at this
    exact this
/-! What the bending has in memory. -/
/-- Boxes of records stay. -/
def KeepR (W W' : World) : Prop := ∀ (g : Nat) (cs : Array Value), W.heap[g]? = some (Obj.cells cs 28) → W'.heap[g]? = some (Obj.cells cs 28)
structure BD (w : World) (base b : Nat) (ao : Option Addr) (n cap : Nat) (A : Int) (g3 g4 : Nat) (did : List UInt8) (dv : Value) (V : List Vl) (ys : List Value) (W : World) : Prop where
  src : Sx b ao n cap W A
  bel : Below base w W
  box : W.heap[g3]? = some (.cells #[.string ⟨did.toArray⟩, dv] 26)
  res : W.heap[g4]? = some (.cells #[.string ⟨#[]⟩, .slice none 0 0] 26)
  doc : DocO W base dv V ys
  hb : base ≤ w.heap.size
  bb : base ≤ b
  xl : base ≤ g3
  rl : base ≤ g4
  ne : g4 ≠ g3
  cb : ∀ j, j < n → ∃ blk off, ao = some ⟨blk, off, none⟩ ∧ blk < base
  kr : KeepR w W
section
variable {w W W' : World} {base b : Nat} {ao : Option Addr} {n cap : Nat} {A A' : Int} {g3 g4 : Nat} {did : List UInt8} {dv : Value} {V : List Vl} {ys : List Value}
theorem Sx.neT (h : Sx b ao n cap W A) {g : Nat} {cs : Array Value} {t : TypeId} (hg : W.heap[g]? = some (.cells cs t)) (ht : t ≠ 79) : g ≠ b := fun e => by
  subst e
  obtain ⟨_, _, _, _, _, _, h5, _⟩ := h
  unfold SrcAt at h5
  rw [h5] at hg
  injection hg with hg
  injection hg with _ hg
  exact ht hg.symm
theorem BD.size (h : BD w base b ao n cap A g3 g4 did dv V ys W) : base ≤ W.heap.size := Nat.le_trans h.hb h.bel.size
theorem BD.draw (h : BD w base b ao n cap A g3 g4 did dv V ys W) (hs : Sx b ao n cap W' A') (hb : But (fun x => x = b) W W') : BD w base b ao n cap A' g3 g4 did dv V ys W' :=
  ⟨hs, h.bel.trans (hb.below h.size fun i hi e => by have := h.bb; omega), hb.blk h.box (h.src.neT h.box (by decide)), hb.blk h.res (h.src.neT h.res (by decide)), h.doc.keep (h.src.keepD hb), h.hb, h.bb, h.xl, h.rl, h.ne, h.cb, fun g cs hg => hb.blk (h.kr g cs hg) (h.src.neT (h.kr g cs hg) (by decide))⟩
theorem BD.below (h : BD w base b ao n cap A g3 g4 did dv V ys W) (hb : Below W.heap.size W W') : BD w base b ao n cap A g3 g4 did dv V ys W' := h.draw (h.src.below hb) (But.of_below hb)
theorem BD.mono (h : BD w base b ao n cap A g3 g4 did dv V ys W) (hA : A ≤ A') : BD w base b ao n cap A' g3 g4 did dv V ys W := ⟨h.src.mono hA, h.bel, h.box, h.res, h.doc, h.hb, h.bb, h.xl, h.rl, h.ne, h.cb, h.kr⟩
/-- What is written lies in the document's own rows. -/
theorem BD.alter {X : Nat → Prop} {V' : List Vl} {ys' : List Value} (h : BD w base b ao n cap A g3 g4 did dv V ys W) (hb : But X W W') (hx : ∀ x, X x → base ≤ x ∧ x ≠ b ∧ x ≠ g3 ∧ x ≠ g4 ∧ ∃ cs t, W.heap[x]? = some (.cells cs t) ∧ t ≠ 28) (hd : DocO W' base dv V' ys') : BD w base b ao n cap A g3 g4 did dv V' ys' W' :=
  ⟨h.src.butN hb (fun e => (hx b e).2.1 rfl) (fun j hj => by
    obtain ⟨blk, off, h1, h2⟩ := h.cb j hj
    exact ⟨blk, off, h1, Nat.lt_of_lt_of_le h2 h.size, fun e => by have := (hx blk e).1; omega⟩), h.bel.trans (hb.below h.size fun i hi e => by have := (hx i e).1; omega), hb.blk h.box (fun e => (hx g3 e).2.2.1 rfl), hb.blk h.res (fun e => (hx g4 e).2.2.2.1 rfl), hd, h.hb, h.bb, h.xl, h.rl, h.ne, h.cb, fun g cs hg => hb.blk (h.kr g cs hg) (fun e => by
    obtain ⟨_, _, _, _, cs', t, h1, h2⟩ := hx g e
    rw [h.kr g cs hg] at h1
    injection h1 with h1
    injection h1 with _ h1
    exact h2 h1.symm)⟩
theorem BD.setId (h : BD w base b ao n cap A g3 g4 did dv V ys W) (id' : List UInt8) : BD w base b ao n cap A g3 g4 id' dv V ys (W.setCell ⟨g3, 0, none⟩ (.string ⟨id'.toArray⟩)) := by
  have hxl := h.xl
  refine ⟨h.src.set g3 0 _ (h.src.neT h.box (by decide)) (fun j hj => ?_), h.bel.setCell (p := ⟨g3, 0, none⟩) hxl _, blk_setk h.box 0 _, (heap_set_other _ _ _ _ _ h.ne).trans h.res, h.doc.keep (KeepD.set h.box (by decide) (by decide) (by decide)), h.hb, h.bb, h.xl, h.rl, h.ne, h.cb, fun g cs hg => (heap_set_other _ _ _ _ _ (fun e => by
    have h1 := h.kr g cs hg
    rw [e, h.box] at h1
    injection h1 with h1
    injection h1 with _ h1
    exact absurd h1 (by decide))).trans (h.kr g cs hg)⟩
  obtain ⟨blk, off, h1, h2⟩ := h.cb j hj
  exact ⟨blk, off, h1, by omega⟩
theorem BD.setF {gv c k m : Nat} (h : BD w base b ao n cap A g3 g4 did (.slice (some ⟨gv, 0, none⟩) m c) V ys W) (hm : m = V.length) (hk : k < V.length) (f' : List UInt8) : BD w base b ao n cap A g3 g4 did (.slice (some ⟨gv, 0, none⟩) m c) (V.set k (f', (V.getD k vl0).2)) (ys.set (k * 3 + 0) (.string ⟨f'.toArray⟩)) (W.setCell ⟨gv, k * 3 + 0, none⟩ (.string ⟨f'.toArray⟩)) := by
  obtain ⟨hgb, cs, hcs⟩ := own_blk h.doc.row rfl
  exact h.alter ((But.refl (fun x => x = gv) W).set gv (k * 3 + 0) _ rfl) (fun x hx => by
    subst hx
    exact ⟨hgb, h.src.neT hcs (by decide), fun e => by
      subst e
      have := h.box
      rw [hcs] at this
      injection this with this
      injection this with _ this
      exact absurd this (by decide), fun e => by
      subst e
      have := h.res
      rw [hcs] at this
      injection this with this
      injection this with _ this
      exact absurd this (by decide), _, _, hcs, by decide⟩) (h.doc.setF hm hk f')
theorem BD.setT {gv c k m : Nat} {v' vk : Value} {T' : List (List UInt8)} (h : BD w base b ao n cap A g3 g4 did (.slice (some ⟨gv, 0, none⟩) m c) V ys W) (hm : m = V.length) (hk : k < V.length) (hvk : ys[k * 3 + 1]? = some vk) (hg : W.grownBy W' vk.ownBlock) (ho : W'.ownsRow base 9 1 v' T'.length (sC T')) (hl : v'.ownBlock = vk.ownBlock ∨ ∀ x, v'.ownBlock = some x → W.heap.size ≤ x) :
    BD w base b ao n cap A g3 g4 did (.slice (some ⟨gv, 0, none⟩) m c) (V.set k ((V.getD k vl0).1, T', (V.getD k vl0).2.2)) (ys.set (k * 3 + 1) v') (W'.setCell ⟨gv, k * 3 + 1, none⟩ v') := by
  obtain ⟨hgb, cs, hcs⟩ := own_blk h.doc.row rfl
  have hvo : ∃ nn xs, W.ownsRow base 9 1 vk nn xs := by
    obtain ⟨_, ⟨v1, q1, q2⟩, v2, q3, q4⟩ := h.doc.val k hk
    rw [hvk] at q1
    cases q1
    exact ⟨_, _, q2⟩
  obtain ⟨nn, xs, hvo⟩ := hvo
  have hne : ∀ {x : Nat} {cs1 : Array Value} {t1 : TypeId}, W.heap[x]? = some (.cells cs1 t1) → t1 ≠ 26 → x ≠ g3 ∧ x ≠ g4 := fun hx ht => ⟨fun e => by
      subst e
      have := h.box
      rw [hx] at this
      injection this with this
      injection this with _ this
      exact ht this, fun e => by
      subst e
      have := h.res
      rw [hx] at this
      injection this with this
      injection this with _ this
      exact ht this⟩
  have hbt : But (fun x => vk.ownBlock = some x ∨ x = gv) W (W'.setCell ⟨gv, k * 3 + 1, none⟩ v') := ((but_own hg).mono fun _ _ h => Or.inl h).set gv (k * 3 + 1) v' (Or.inr rfl)
  refine h.alter hbt (fun x hx => ?_) (h.doc.setT hm hk hvk hg ho hl)
  rcases hx with hx | hx
  · obtain ⟨h1, cur, hc⟩ := own_blk hvo hx
    exact ⟨h1, h.src.neT hc (by decide), (hne hc (by decide)).1, (hne hc (by decide)).2, _, _, hc, by decide⟩
  · subst hx
    exact ⟨hgb, h.src.neT hcs (by decide), (hne hcs (by decide)).1, (hne hcs (by decide)).2, _, _, hcs, by decide⟩
theorem BD.setZ {gv c k m : Nat} {v' vk : Value} {T' : List Int} (h : BD w base b ao n cap A g3 g4 did (.slice (some ⟨gv, 0, none⟩) m c) V ys W) (hm : m = V.length) (hk : k < V.length) (hvk : ys[k * 3 + 2]? = some vk) (hg : W.grownBy W' vk.ownBlock) (ho : W'.ownsRow base 3 1 v' T'.length (zC T')) (hl : v'.ownBlock = vk.ownBlock ∨ ∀ x, v'.ownBlock = some x → W.heap.size ≤ x) :
    BD w base b ao n cap A g3 g4 did (.slice (some ⟨gv, 0, none⟩) m c) (V.set k ((V.getD k vl0).1, (V.getD k vl0).2.1, T')) (ys.set (k * 3 + 2) v') (W'.setCell ⟨gv, k * 3 + 2, none⟩ v') := by
  obtain ⟨hgb, cs, hcs⟩ := own_blk h.doc.row rfl
  have hvo : ∃ nn xs, W.ownsRow base 3 1 vk nn xs := by
    obtain ⟨_, ⟨v1, q1, q2⟩, v2, q3, q4⟩ := h.doc.val k hk
    rw [hvk] at q3
    cases q3
    exact ⟨_, _, q4⟩
  obtain ⟨nn, xs, hvo⟩ := hvo
  have hne : ∀ {x : Nat} {cs1 : Array Value} {t1 : TypeId}, W.heap[x]? = some (.cells cs1 t1) → t1 ≠ 26 → x ≠ g3 ∧ x ≠ g4 := fun hx ht => ⟨fun e => by
      subst e
      have := h.box
      rw [hx] at this
      injection this with this
      injection this with _ this
      exact ht this, fun e => by
      subst e
      have := h.res
      rw [hx] at this
      injection this with this
      injection this with _ this
      exact ht this⟩
  have hbt : But (fun x => vk.ownBlock = some x ∨ x = gv) W (W'.setCell ⟨gv, k * 3 + 2, none⟩ v') := ((but_own hg).mono fun _ _ h => Or.inl h).set gv (k * 3 + 2) v' (Or.inr rfl)
  refine h.alter hbt (fun x hx => ?_) (h.doc.setZ hm hk hvk hg ho hl)
  rcases hx with hx | hx
  · obtain ⟨h1, cur, hc⟩ := own_blk hvo hx
    exact ⟨h1, h.src.neT hc (by decide), (hne hc (by decide)).1, (hne hc (by decide)).2, _, _, hc, by decide⟩
  · subst hx
    exact ⟨hgb, h.src.neT hcs (by decide), (hne hcs (by decide)).1, (hne hcs (by decide)).2, _, _, hcs, by decide⟩
end
end Go.Proofs.YtpdiaddgialanaaGreatDoor
