import Derived.Test.YtpdiaddgialanaaGreatDoorUtf
import Derived.Lib.Strings
namespace Go.Proofs.YtpdiaddgialanaaGreatDoor
open Go

def runesFrom (s : ByteArray) : Nat → Nat → List Int
  | 0, _ => []
  | f + 1, p => if p < s.size then ((Utf8.decode s p).1 : Int) :: runesFrom s f (p + (Utf8.decode s p).2) else []
def runes (s : ByteArray) : List Int := runesFrom s s.size 0
def vFrom (s : ByteArray) (p : Nat) : Bool := Lib.validD (s.data.toList.drop p)
def validB (s : ByteArray) : Bool := Lib.validD s.data.toList

theorem data_len (s : ByteArray) : s.data.toList.length = s.size := (Lib.size_eq s).symm
theorem vFrom_zero (s : ByteArray) : vFrom s 0 = validB s := by simp [vFrom, validB]
theorem vFrom_end (s : ByteArray) (p : Nat) (h : ¬ p < s.size) : vFrom s p = true := by
  have : s.data.toList.drop p = [] := List.drop_of_length_le (by rw [data_len]; omega)
  rw [vFrom, this]; rfl
theorem vFrom_step (s : ByteArray) (p : Nat) (h : p < s.size) : vFrom s p = if bad s p then false else vFrom s (p + (Utf8.decode s p).2) := by
  have hne : s.data.toList.drop p ≠ [] := by
    intro e
    have := congrArg List.length e
    rw [List.length_drop, data_len] at this
    simp at this
    omega
  rw [vFrom, Lib.validD_step _ hne, Lib.decodeL_drop, List.drop_drop]
  rfl
theorem vFrom_bad (s : ByteArray) (p : Nat) (h : p < s.size) (hb : bad s p) : vFrom s p = false := by rw [vFrom_step s p h, if_pos hb]
theorem vFrom_good (s : ByteArray) (p : Nat) (h : p < s.size) (hb : ¬ bad s p) : vFrom s (p + (Utf8.decode s p).2) = vFrom s p := by rw [vFrom_step s p h, if_neg hb]
theorem width_le (s : ByteArray) (p : Nat) (h : p < s.size) : 1 ≤ (Utf8.decode s p).2 ∧ p + (Utf8.decode s p).2 ≤ s.size := by
  have hne : s.data.toList.drop p ≠ [] := by
    intro e
    have := congrArg List.length e
    rw [List.length_drop, data_len] at this
    simp at this
    omega
  have h1 := Lib.decodeL_width (s.data.toList.drop p)
  have h2 := Lib.decodeL_le (s.data.toList.drop p) hne
  rw [Lib.decodeL_drop] at h1 h2
  rw [List.length_drop, data_len] at h2
  omega
theorem rune_le (s : ByteArray) (p : Nat) : (Utf8.decode s p).1 ≤ 1114111 := by
  have := Lib.decodeL_rune (s.data.toList.drop p)
  rw [Lib.decodeL_drop] at this
  exact this
theorem runesFrom_end (s : ByteArray) (f p : Nat) (h : ¬ p < s.size) : runesFrom s f p = [] := by
  cases f with
  | zero => rfl
  | succ f => simp [runesFrom, h]
theorem runesFrom_step (s : ByteArray) (f p : Nat) (h : p < s.size) : runesFrom s (f + 1) p = ((Utf8.decode s p).1 : Int) :: runesFrom s f (p + (Utf8.decode s p).2) := by
  simp [runesFrom, h]
theorem runesFrom_le (s : ByteArray) : ∀ f p, (runesFrom s f p).length ≤ f
  | 0, _ => by simp [runesFrom]
  | f + 1, p => by
    by_cases h : p < s.size
    · rw [runesFrom_step s f p h, List.length_cons]; have := runesFrom_le s f (p + (Utf8.decode s p).2); omega
    · rw [runesFrom_end s _ p h]; simp
theorem runes_le (s : ByteArray) : (runes s).length ≤ s.size := runesFrom_le s _ _
theorem atW_good (s : ByteArray) (p : Nat) (hb : ¬ bad s p) : atW s p = ((Utf8.decode s p).2 : Int) := by rw [atW, if_neg hb]
theorem atC_good (s : ByteArray) (p : Nat) (hb : ¬ bad s p) : atC s p = ((Utf8.decode s p).1 : Int) := by rw [atC, if_neg hb]
theorem atW_bad (s : ByteArray) (p : Nat) (hb : bad s p) : atW s p = 0 := by rw [atW, if_pos hb]

def decL (s : ByteArray) : List Int := if validB s = true then runes s else []
def decList (s : ByteArray) : List Int := if 65536 < s.size then [] else decL s
def decCode (s : ByteArray) : Int := if 65536 < s.size then 2 else if validB s = true then 0 else 3
theorem decL_le (s : ByteArray) : (decL s).length ≤ s.size := by
  unfold decL
  split
  · exact runes_le s
  · simp
theorem decList_le (s : ByteArray) : (decList s).length ≤ 65536 := by
  unfold decList
  split
  · simp
  · have := decL_le s; omega
end Go.Proofs.YtpdiaddgialanaaGreatDoor
