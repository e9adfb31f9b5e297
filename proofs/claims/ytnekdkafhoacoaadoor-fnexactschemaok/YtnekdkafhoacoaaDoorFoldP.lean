import Derived.Test.YtnekdkafhoacoaaDoorPlain
namespace Go.Proofs.YtnekdkafhoacoaaDoor
open Go
def smlZ (r : Int) : Int := if (65 ≤ r ∧ r ≤ 90) ∨ (192 ≤ r ∧ r ≤ 222 ∧ r ≠ 215) ∨ (913 ≤ r ∧ r ≤ 939 ∧ r ≠ 930) ∨ (1040 ≤ r ∧ r ≤ 1071) then r + 32 else if 1024 ≤ r ∧ r ≤ 1039 then r + 80 else r
def accZ (r : Int) : Int :=
  if 224 ≤ r ∧ r ≤ 229 then 97 else if r = 231 then 99 else if 232 ≤ r ∧ r ≤ 235 then 101 else if 236 ≤ r ∧ r ≤ 239 then 105 else if r = 241 then 110
  else if (242 ≤ r ∧ r ≤ 246) ∨ r = 248 then 111 else if 249 ≤ r ∧ r ≤ 252 then 117 else if r = 253 ∨ r = 255 then 121 else r
def foldZ (r : Int) : Int := accZ (smlZ r)
theorem smlZ_up (r : Int) (h : (65 ≤ r ∧ r ≤ 90) ∨ (192 ≤ r ∧ r ≤ 222 ∧ r ≠ 215) ∨ (913 ≤ r ∧ r ≤ 939 ∧ r ≠ 930) ∨ (1040 ≤ r ∧ r ≤ 1071)) : smlZ r = r + 32 := if_pos h
theorem smlZ_80 (r : Int) (h : 1024 ≤ r ∧ r ≤ 1039) : smlZ r = r + 80 := by unfold smlZ; rw [if_neg (by omega), if_pos h]
theorem smlZ_same (r : Int) (h : ¬ ((65 ≤ r ∧ r ≤ 90) ∨ (192 ≤ r ∧ r ≤ 222 ∧ r ≠ 215) ∨ (913 ≤ r ∧ r ≤ 939 ∧ r ≠ 930) ∨ (1040 ≤ r ∧ r ≤ 1071))) (h2 : ¬ (1024 ≤ r ∧ r ≤ 1039)) : smlZ r = r := by unfold smlZ; rw [if_neg h, if_neg h2]
theorem accZ_range (r : Int) : accZ r = r ∨ (97 ≤ accZ r ∧ accZ r ≤ 121) := by
  unfold accZ
  repeat' split
  all_goals omega
theorem accZ_low (r : Int) (h : 97 ≤ r ∧ r ≤ 121) : accZ r = r := by
  unfold accZ
  rw [if_neg (by omega), if_neg (by omega), if_neg (by omega), if_neg (by omega), if_neg (by omega), if_neg (by omega), if_neg (by omega), if_neg (by omega)]
theorem smlZ_twice (r : Int) : smlZ (smlZ r) = smlZ r := by
  by_cases h : (65 ≤ r ∧ r ≤ 90) ∨ (192 ≤ r ∧ r ≤ 222 ∧ r ≠ 215) ∨ (913 ≤ r ∧ r ≤ 939 ∧ r ≠ 930) ∨ (1040 ≤ r ∧ r ≤ 1071)
  · rw [smlZ_up r h]; exact smlZ_same _ (by omega) (by omega)
  · by_cases h2 : 1024 ≤ r ∧ r ≤ 1039
    · rw [smlZ_80 r h2]; exact smlZ_same _ (by omega) (by omega)
    · rw [smlZ_same r h h2]; exact smlZ_same r h h2
theorem foldZ_twice (r : Int) : foldZ (foldZ r) = foldZ r := by
  unfold foldZ
  rcases accZ_range (smlZ r) with h | h
  · rw [h, smlZ_twice, h]
  · rw [smlZ_same (accZ (smlZ r)) (by omega) (by omega), accZ_low _ h]
theorem foldZ_bd (r : Int) (h : chr r = true) : 0 ≤ foldZ r ∧ foldZ r ≤ 1114111 ∧ chr (foldZ r) = true := by
  rw [chr_iff] at h
  have : (0 ≤ foldZ r ∧ foldZ r ≤ 1114111 ∧ (foldZ r < 55296 ∨ 57343 < foldZ r)) := by
    have hs : 0 ≤ smlZ r ∧ smlZ r ≤ 1114111 ∧ (smlZ r < 55296 ∨ 57343 < smlZ r) := by
      unfold smlZ
      repeat' split
      all_goals omega
    have ha := accZ_range (smlZ r)
    unfold foldZ
    omega
  exact ⟨this.1, this.2.1, (chr_iff _).2 this⟩
def clsZ (r : Int) : Int :=
  if (65 ≤ r ∧ r ≤ 90) ∨ (97 ≤ r ∧ r ≤ 122) ∨ (192 ≤ r ∧ r ≤ 591 ∧ r ≠ 215 ∧ r ≠ 247) ∨ (880 ≤ r ∧ r ≤ 1279) then 1
  else if 48 ≤ r ∧ r ≤ 57 then 2 else if r = 39 ∨ r = 95 then 3 else if (12352 ≤ r ∧ r ≤ 12543) ∨ (19968 ≤ r ∧ r ≤ 40959) then 4 else 0
end Go.Proofs.YtnekdkafhoacoaaDoor
