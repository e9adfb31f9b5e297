import Derived.Lib.RuneBytes
import Derived.Lib.Small
namespace Go.Proofs.YtpdiaddgialanaaGreatDoor
open Go

def chr (r : Int) : Bool := decide (0 ≤ r ∧ r ≤ 1114111 ∧ (r < 55296 ∨ 57343 < r))
theorem chr_iff (r : Int) : chr r = true ↔ (0 ≤ r ∧ r ≤ 1114111 ∧ (r < 55296 ∨ 57343 < r)) := by simp [chr]
theorem chr_not (r : Int) : chr r = false ↔ ¬ (0 ≤ r ∧ r ≤ 1114111 ∧ (r < 55296 ∨ 57343 < r)) := by simp [chr]

def encs (l : List Int) : List UInt8 := l.flatMap Lib.encodeRune
theorem encs_nil : encs [] = [] := rfl
theorem encs_snoc (l : List Int) (r : Int) : encs (l ++ [r]) = encs l ++ Lib.encodeRune r := by simp [encs]
theorem encodeRune_length (r : Int) : 1 ≤ (Lib.encodeRune r).length ∧ (Lib.encodeRune r).length ≤ 4 := by
  have := Lib.runeCells_le r; rw [Lib.runeCells_length] at this; exact this
theorem encs_le (l : List Int) : (encs l).length ≤ 4 * l.length := by
  induction l with
  | nil => simp [encs]
  | cons x t ih => have := encodeRune_length x; simp only [encs, List.flatMap_cons, List.length_append, List.length_cons] at *; omega
theorem encs_ge (l : List Int) : l.length ≤ (encs l).length := by
  induction l with
  | nil => simp [encs]
  | cons x t ih => have := encodeRune_length x; simp only [encs, List.flatMap_cons, List.length_append, List.length_cons] at *; omega
theorem encs_append (a b : List Int) : encs (a ++ b) = encs a ++ encs b := by simp [encs]
theorem encs_take_le (l : List Int) (k : Nat) : (encs (l.take k)).length ≤ (encs l).length := by
  have : encs l = encs (l.take k) ++ encs (l.drop k) := by rw [← encs_append, List.take_append_drop]
  rw [this]; simp

theorem runeLen_eq (r : Int) (h : chr r = true) : Lib.runeLen r = ((Lib.encodeRune r).length : Int) := by
  rw [chr_iff] at h
  unfold Lib.runeLen Lib.encodeRune Lib.encodeRuneZ
  simp only [List.length_map]
  by_cases h1 : r ≤ 127
  · rw [if_neg (by omega), if_pos (by omega), if_pos (by omega)]; rfl
  · by_cases h2 : r ≤ 2047
    · rw [if_neg (by omega), if_neg (by omega), if_pos (by omega), if_neg (by omega), if_pos (by omega)]; rfl
    · by_cases h3 : r ≤ 65535
      · rw [if_neg (by omega), if_neg (by omega), if_neg (by omega), if_neg (by omega), if_pos (by omega), if_neg (by omega), if_neg (by omega), if_pos (by omega)]; rfl
      · rw [if_neg (by omega), if_neg (by omega), if_neg (by omega), if_neg (by omega), if_neg (by omega), if_pos (by omega), if_neg (by omega), if_neg (by omega), if_neg (by omega), if_pos (by omega)]; rfl

theorem take_snoc (l : List Int) (k : Nat) (h : k < l.length) : l.take (k + 1) = l.take k ++ [l.getD k 0] := by
  rw [List.take_succ_eq_append_getElem h]; simp [h]

end Go.Proofs.YtpdiaddgialanaaGreatDoor
