import Derived.Test.YtifgcimmlonagaaDoorSuggestJ25
import Derived.Test.YtifgcimmlonagaaDoorSuggestJ28
import Derived.Test.YtifgcimmlonagaaDoorSuggestJ29
namespace Go.Proofs.YtifgcimmlonagaaDoor
open Go Go.RowKit
set_option linter.unusedVariables false
set_option linter.unusedSimpArgs false

/-! What FnSuggest asks of a list, in plain words. -/
def Bf (e : Tx → Nat) (x y : Tx) : Prop := e x < e y ∨ (e x = e y ∧ ltT x y = true)
def allD (e : Tx → Nat) (N : List Tx) : List Tx := ofD e N 0 ++ ofD e N 1 ++ ofD e N 2
theorem ofD_mem (e : Tx → Nat) (N : List Tx) (d : Nat) (x : Tx) : x ∈ ofD e N d ↔ x ∈ N ∧ e x = d := by
  unfold ofD
  rw [List.mem_filter]
  simp
theorem ofD_pw (e : Tx → Nat) (N : List Tx) (hN : RiseT N) (d : Nat) : (ofD e N d).Pairwise (Bf e) := by
  have h : (ofD e N d).Pairwise fun x y => ltT x y = true := List.Pairwise.filter _ hN
  refine List.Pairwise.imp_of_mem (fun {x y} hx hy hxy => ?_) h
  rw [ofD_mem] at hx hy
  exact .inr ⟨by omega, hxy⟩
theorem allD_mem (e : Tx → Nat) (N : List Tx) (x : Tx) : x ∈ allD e N ↔ x ∈ N ∧ e x ≤ 2 := by
  unfold allD
  rw [List.mem_append, List.mem_append, ofD_mem, ofD_mem, ofD_mem]
  constructor
  · rintro ((⟨h1, h2⟩ | ⟨h1, h2⟩) | ⟨h1, h2⟩) <;> exact ⟨h1, by omega⟩
  · rintro ⟨h1, h2⟩
    by_cases h0 : e x = 0
    · exact .inl (.inl ⟨h1, h0⟩)
    · by_cases h3 : e x = 1
      · exact .inl (.inr ⟨h1, h3⟩)
      · exact .inr ⟨h1, by omega⟩
theorem allD_pw (e : Tx → Nat) (N : List Tx) (hN : RiseT N) : (allD e N).Pairwise (Bf e) := by
  unfold allD
  rw [List.pairwise_append, List.pairwise_append]
  refine ⟨⟨ofD_pw e N hN 0, ofD_pw e N hN 1, fun x hx y hy => ?_⟩, ofD_pw e N hN 2, fun x hx y hy => ?_⟩
  · rw [ofD_mem] at hx hy
    exact .inl (by omega)
  · rw [List.mem_append, ofD_mem, ofD_mem] at hx
    rw [ofD_mem] at hy
    exact .inl (by rcases hx with hx | hx <;> omega)
theorem told_allD (e : Tx → Nat) (N : List Tx) (m : Nat) : toldW e N m = (allD e N).take m := by
  unfold toldW allD
  rw [List.append_assoc]
/-- The number of the one ahead of i, 0 if there is none. -/
def lastE (e : Tx → Nat) (G : List Tx) (i : Nat) : Nat := if i = 0 then 0 else e (G.getD (i - 1) [])
theorem told_step (e : Tx → Nat) (N : List Tx) (hN : RiseT N) (m i : Nat) (hi : i < (toldW e N m).length) :
    (toldW e N m).getD i [] ∈ N ∧ e ((toldW e N m).getD i []) ≤ 2 ∧ lastE e (toldW e N m) i ≤ e ((toldW e N m).getD i []) ∧
      (0 < i → e ((toldW e N m).getD i []) = lastE e (toldW e N m) i → ltT ((toldW e N m).getD (i - 1) []) ((toldW e N m).getD i []) = true) := by
  have hpw : (toldW e N m).Pairwise (Bf e) := by rw [told_allD]; exact (allD_pw e N hN).take
  have hm : (toldW e N m).getD i [] ∈ allD e N := by
    have := getD_mem (d := ([] : Tx)) hi
    generalize (toldW e N m).getD i [] = x at *
    rw [told_allD] at this
    exact List.mem_of_mem_take this
  rw [allD_mem] at hm
  generalize toldW e N m = G at *
  refine ⟨hm.1, hm.2, ?_, ?_⟩
  · unfold lastE
    by_cases h0 : i = 0
    · rw [if_pos h0]; omega
    · rw [if_neg h0]
      have := List.pairwise_iff_getElem.1 hpw (i - 1) i (by omega) hi (by omega)
      rw [List.getD_eq_getElem?_getD, List.getD_eq_getElem?_getD, List.getElem?_eq_getElem hi, List.getElem?_eq_getElem (by omega)]
      rcases this with h | h
      · exact Nat.le_of_lt h
      · exact Nat.le_of_eq h.1
  · intro h0 he
    unfold lastE at he
    rw [if_neg (by omega)] at he
    have := List.pairwise_iff_getElem.1 hpw (i - 1) i (by omega) hi (by omega)
    rw [List.getD_eq_getElem?_getD, List.getD_eq_getElem?_getD, List.getElem?_eq_getElem hi, List.getElem?_eq_getElem (by omega)] at he ⊢
    rcases this with h | h
    · simp only [Option.getD_some] at he; omega
    · exact h.2
/-- What is left out stands behind all that is told. -/
theorem told_left (e : Tx → Nat) (N : List Tx) (hN : RiseT N) (m : Nat) (x : Tx) (hx : x ∈ N) (he : e x ≤ 2) (hn : x ∉ toldW e N m) : ¬ (toldW e N m).length < m ∧ ¬ e x < lastE e (toldW e N m) (toldW e N m).length := by
  have hpw := allD_pw e N hN
  have hm : x ∈ allD e N := (allD_mem e N x).2 ⟨hx, he⟩
  rw [told_allD] at hn ⊢
  generalize allD e N = F at *
  have hd : x ∈ F.drop m := by
    rw [← List.take_append_drop m F, List.mem_append] at hm
    exact hm.resolve_left hn
  refine ⟨fun h => ?_, ?_⟩
  · rw [List.length_take] at h
    rw [List.drop_of_length_le (by omega)] at hd
    cases hd
  · unfold lastE
    by_cases h0 : (F.take m).length = 0
    · rw [if_pos h0]; omega
    · rw [if_neg h0]
      rw [← List.take_append_drop m F, List.pairwise_append] at hpw
      have := hpw.2.2 _ (getD_mem (l := F.take m) (i := (F.take m).length - 1) (d := ([] : Tx)) (by omega)) x hd
      rcases this with h | h <;> omega
theorem told_len (e : Tx → Nat) (N : List Tx) (m : Nat) : (toldW e N m).length ≤ m := by
  rw [told_allD, List.length_take]
  omega
end Go.Proofs.YtifgcimmlonagaaDoor
