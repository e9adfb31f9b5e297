import Derived.Test.YtifgcimmlonagaaDoorSuggestJ18
namespace Go.Proofs.YtifgcimmlonagaaDoor
open Go
set_option linter.unusedVariables false

/-! Two rising rows of words as one. -/
structure Mg (L A B O : List Tx) : Prop where
  ra : RiseT A
  rb : RiseT B
  ro : RiseT O
  la : ∀ o ∈ O, ∀ x ∈ A, ltT x o = false
  lb : ∀ o ∈ O, ∀ x ∈ B, ltT x o = false
  mem : ∀ t, t ∈ L ↔ t ∈ O ∨ t ∈ A ∨ t ∈ B
theorem Mg.swap {L A B O : List Tx} (h : Mg L A B O) : Mg L B A O := ⟨h.rb, h.ra, h.ro, h.lb, h.la, fun t => by rw [h.mem]; constructor <;> (rintro (h | h | h); exact .inl h; exact .inr (.inr h); exact .inr (.inl h))⟩
theorem Mg.done {L O : List Tx} (h : Mg L [] [] O) : O = names L := names_uniq h.ro fun t => by rw [h.mem]; simp
theorem Mg.start {L : List Tx} (k : Nat) : Mg L (names (L.take k)) (names (L.drop k)) [] := by
  refine ⟨names_rise _, names_rise _, List.Pairwise.nil, fun o h => (by cases h), fun o h => (by cases h), fun t => ?_⟩
  rw [names_mem, names_mem]
  conv => lhs; rw [← List.take_append_drop k L, List.mem_append]
  simp
theorem rise_le {x : Tx} {A : List Tx} (h : RiseT (x :: A)) : ∀ y ∈ A, ltT y x = false := by
  intro y hy
  rw [RiseT, List.pairwise_cons] at h
  exact ltT_asym x y (h.1 y hy)
/-- The head of the first row goes, and stands at the end if it is new. -/
theorem Mg.take {L A B O : List Tx} {x : Tx} (h : Mg L (x :: A) B O) (hb : ∀ y ∈ B, ltT y x = false) : (∀ o ∈ O, ltT x o = false) ∧ (x ∈ O → Mg L A B O) ∧ (x ∉ O → Mg L A B (O ++ [x])) := by
  have hra : RiseT A := by have := h.ra; rw [RiseT, List.pairwise_cons] at this; exact this.2
  refine ⟨fun o ho => h.la o ho x (by simp), fun hx => ?_, fun hx => ?_⟩
  · refine ⟨hra, h.rb, h.ro, fun o ho y hy => h.la o ho y (by simp [hy]), h.lb, fun t => ?_⟩
    rw [h.mem, List.mem_cons]
    constructor
    · rintro (k | (rfl | k) | k)
      · exact .inl k
      · exact .inl hx
      · exact .inr (.inl k)
      · exact .inr (.inr k)
    · rintro (k | k | k)
      · exact .inl k
      · exact .inr (.inl (.inr k))
      · exact .inr (.inr k)
  · refine ⟨hra, h.rb, ?_, ?_, ?_, fun t => ?_⟩
    · rw [RiseT, List.pairwise_append]
      refine ⟨h.ro, by simp, fun o ho y hy => ?_⟩
      have e : y = x := by simpa using hy
      subst e
      cases e2 : ltT o y with
      | true => rfl
      | false =>
        have := ltT_tri _ _ e2 (h.la o ho y (by simp))
        subst this
        exact absurd ho hx
    · intro o ho y hy
      rcases List.mem_append.1 ho with ho | ho
      · exact h.la o ho y (by simp [hy])
      · have e : o = x := by simpa using ho
        subst e
        exact rise_le h.ra y hy
    · intro o ho y hy
      rcases List.mem_append.1 ho with ho | ho
      · exact h.lb o ho y hy
      · have e : o = x := by simpa using ho
        subst e
        exact hb y hy
    · rw [h.mem, List.mem_cons, List.mem_append]
      constructor
      · rintro (k | (rfl | k) | k)
        · exact .inl (.inl k)
        · exact .inl (.inr (by simp))
        · exact .inr (.inl k)
        · exact .inr (.inr k)
      · rintro ((k | k) | k | k)
        · exact .inl k
        · exact .inr (.inl (.inl (by simpa using k)))
        · exact .inr (.inl (.inr k))
        · exact .inr (.inr k)
/-- It is new just if it is not the last one. -/
theorem Mg.last {O : List Tx} {x o : Tx} (hr : RiseT (O ++ [o])) (hle : ∀ y ∈ O ++ [o], ltT x y = false) : x ∈ O ++ [o] ↔ o = x := by
  constructor
  · intro h
    rcases List.mem_append.1 h with h | h
    · rw [RiseT, List.pairwise_append] at hr
      have h1 := hr.2.2 x h o (by simp)
      rw [hle o (by simp)] at h1
      cases h1
    · exact (by simpa using h : x = o).symm
  · rintro rfl; simp
theorem names_short (L : List Tx) (h : L.length < 2) : names L = L := by
  symm
  refine names_uniq ?_ (fun t => Iff.rfl)
  match L, h with
  | [], _ => exact List.Pairwise.nil
  | [x], _ => exact List.pairwise_singleton _ _
/-- What is told up to a word of a row. -/
def gAt (e : Tx → Nat) (N : List Tx) (d i : Nat) : List Tx := (List.range d).flatMap (ofD e N) ++ ofD e (N.take i) d
theorem gAt_zero (e : Tx → Nat) (N : List Tx) : gAt e N 0 0 = [] := by simp [gAt, ofD]
theorem gAt_next (e : Tx → Nat) (N : List Tx) (d : Nat) : gAt e N d N.length = gAt e N (d + 1) 0 := by
  unfold gAt
  rw [List.take_length, List.range_succ, List.flatMap_append]
  simp [ofD]
theorem gAt_step (e : Tx → Nat) (N : List Tx) (d i : Nat) (h : i < N.length) : gAt e N d (i + 1) = gAt e N d i ++ (if e (N.getD i []) = d then [N.getD i []] else []) := by
  unfold gAt ofD
  rw [List.take_succ_eq_append_getElem h, List.filter_append, List.append_assoc, List.getD_eq_getElem?_getD, List.getElem?_eq_getElem h]
  simp [List.filter_cons]
theorem gAt_end (e : Tx → Nat) (N : List Tx) (most : Nat) : (gAt e N 3 0).take most = toldW e N most := by
  unfold gAt toldW
  simp [List.range_succ, ofD]
theorem take_snoc_lt {α : Type} (G : List α) (x : α) (m : Nat) (h : (G.take m).length < m) : (G ++ [x]).take m = G.take m ++ [x] := by
  rw [List.length_take] at h
  rw [List.take_of_length_le (l := G) (by omega), List.take_of_length_le (by simp; omega)]
theorem take_snoc_ge {α : Type} (G : List α) (x : α) (m : Nat) (h : ¬ (G.take m).length < m) : (G ++ [x]).take m = G.take m := by
  rw [List.length_take] at h
  rw [List.take_append_of_le_length (by omega)]
end Go.Proofs.YtifgcimmlonagaaDoor
