import Derived.Lib.Strings
namespace Go.Proofs.YtpdiaddgialanaaGreatDoor
open Go

def bs (l : List UInt8) : ByteArray := ⟨l.toArray⟩
def lst (s : ByteArray) : List UInt8 := s.data.toList
theorem bs_lst (s : ByteArray) : bs (lst s) = s := by simp [bs, lst]
theorem lst_bs (l : List UInt8) : lst (bs l) = l := by simp [bs, lst]
theorem lst_len (s : ByteArray) : (lst s).length = s.size := (Lib.size_eq s).symm
theorem bs_size (l : List UInt8) : (bs l).size = l.length := by rw [← lst_len, lst_bs]

def vow (c : UInt8) : Bool := c == 97 || c == 101 || c == 105 || c == 111 || c == 117 || c == 121
def hasV (l : List UInt8) : Bool := l.any vow
def ends (l e : List UInt8) : Bool := Lib.hasSuffix l e
def cutB (l : List UInt8) (n : Nat) : List UInt8 := l.take (l.length - n)
def lastB (l : List UInt8) (n : Nat) : UInt8 := l.getD (l.length - n) 0
def stem1 (l : List UInt8) : List UInt8 :=
  if ends l [115, 115, 101, 115] then cutB l 2
  else if ends l [105, 101, 115] then (if 5 ≤ l.length then cutB l 3 ++ [121] else l)
  else if ends l [115] && !ends l [115, 115] && !ends l [117, 115] && !ends l [105, 115] && decide (4 ≤ l.length) then cutB l 1 else l
def alike (l : List UInt8) : Bool := decide (2 ≤ l.length) && lastB l 1 == lastB l 2 && !vow (lastB l 1) && lastB l 1 != 108 && lastB l 1 != 115 && lastB l 1 != 122
def mend (l : List UInt8) : List UInt8 :=
  if alike l then cutB l 1 else if ends l [97, 116] || ends l [98, 108] || ends l [105, 122] then l ++ [101] else l
def stem2 (l : List UInt8) : List UInt8 :=
  if ends l [105, 110, 103] && decide (6 ≤ l.length) && hasV (cutB l 3) then mend (cutB l 3)
  else if ends l [101, 100] && decide (5 ≤ l.length) && hasV (cutB l 2) then mend (cutB l 2) else l
def stem3 (l : List UInt8) : List UInt8 := if ends l [108, 121] && decide (5 ≤ l.length) then cutB l 2 else l
def stem4 (l : List UInt8) : List UInt8 := if ends l [121] && decide (3 ≤ l.length) && !vow (lastB l 2) then cutB l 1 ++ [105] else l
def small (c : UInt8) : Bool := decide (97 ≤ c.toNat ∧ c.toNat ≤ 122)
def stemW (l : List UInt8) : List UInt8 :=
  if 65536 < l.length then [] else if l.length < 3 ∨ 64 < l.length then l else if l.all small = true then stem4 (stem3 (stem2 (stem1 l))) else l

theorem ends_len {l e : List UInt8} (h : ends l e = true) : e.length ≤ l.length := by
  have : e <:+ l := List.isSuffixOf_iff_suffix.1 h
  exact this.length_le
theorem ends_split {l e : List UInt8} (h : ends l e = true) : l = cutB l e.length ++ e := by
  obtain ⟨t, rfl⟩ := List.isSuffixOf_iff_suffix.1 h
  simp [cutB]
theorem cutB_len (l : List UInt8) (n : Nat) : (cutB l n).length = l.length - n := by simp [cutB]
theorem ends_append (t e : List UInt8) : ends (t ++ e) e = true := List.isSuffixOf_iff_suffix.2 ⟨t, rfl⟩
theorem cutB_append (t e : List UInt8) : cutB (t ++ e) e.length = t := by simp [cutB]
theorem stem1_le (l : List UInt8) : (stem1 l).length ≤ l.length := by
  unfold stem1
  split
  · rw [cutB_len]; omega
  · split
    · split
      · rw [List.length_append, cutB_len]; simp; omega
      · exact Nat.le_refl _
    · split
      · rw [cutB_len]; omega
      · exact Nat.le_refl _
theorem mend_le (l : List UInt8) : (mend l).length ≤ l.length + 1 := by
  unfold mend
  split
  · rw [cutB_len]; omega
  · split
    · simp
    · omega
theorem stem2_le (l : List UInt8) : (stem2 l).length ≤ l.length := by
  unfold stem2
  split
  · rename_i h
    simp only [Bool.and_eq_true, decide_eq_true_eq] at h
    have := mend_le (cutB l 3)
    rw [cutB_len] at this; omega
  · split
    · rename_i h
      simp only [Bool.and_eq_true, decide_eq_true_eq] at h
      have := mend_le (cutB l 2)
      rw [cutB_len] at this; omega
    · exact Nat.le_refl _
theorem stem3_le (l : List UInt8) : (stem3 l).length ≤ l.length := by
  unfold stem3
  split
  · rw [cutB_len]; omega
  · exact Nat.le_refl _
theorem stem4_le (l : List UInt8) : (stem4 l).length ≤ l.length := by
  unfold stem4
  split
  · rename_i h
    simp only [Bool.and_eq_true, decide_eq_true_eq] at h
    rw [List.length_append, cutB_len]; simp; omega
  · exact Nat.le_refl _
end Go.Proofs.YtpdiaddgialanaaGreatDoor
