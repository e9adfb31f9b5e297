import Derived.Test.YtjmfkgbpgbpgnaaWgL
import Derived.Test.YtjmfkgbpgbpgnaaStL
namespace Go.Proofs.Ytjmfkgbpgbpgnaa
open Go

theorem div_le_div_cross {a b c d : Nat} (hb : 0 < b) (hd : 0 < d) (h : a * d ≤ c * b) : a / b ≤ c / d := by
  rw [Nat.le_div_iff_mul_le hd]
  have h1 : a / b * b ≤ a := Nat.div_mul_le_self a b
  have h2 : a / b * d * b ≤ c * b := by
    have : a / b * d * b = a / b * b * d := by rw [Nat.mul_assoc, Nat.mul_comm d b, ← Nat.mul_assoc]
    rw [this]
    exact Nat.le_trans (Nat.mul_le_mul_right d h1) h
  exact Nat.le_of_mul_le_mul_right h2 hb
theorem wArg_anti (n m : Nat) (h : m + 1 ≤ n) : wArg n (m + 1) ≤ wArg n m := by
  unfold wArg
  have := div_le_div_cross (a := 1024 * (2 * n - 2 * (m + 1) + 1)) (b := 2 * (m + 1) + 1) (c := 1024 * (2 * n - 2 * m + 1)) (d := 2 * m + 1) (by omega) (by omega)
    (Nat.mul_le_mul (by omega) (by omega))
  omega
/-- A weight is never below nought, and a term in one document more counts no more. -/
theorem weight_facts (n i : Nat) (hn : n ≤ 60) (hi : i ≤ n) : 0 ≤ weightZ n i ∧ (0 < i → weightZ n i ≤ weightZ n ((i : Int) - 1)) := by
  rw [weightZ_nat n i hi (by omega)]
  have hw := wArg_le n i hi (by omega)
  have h0 := log2L_mono (v := 1024) (u := wArg n i) (by omega) hw.1
  rw [log2L_1024] at h0
  refine ⟨by omega, fun h => ?_⟩
  obtain ⟨j, rfl⟩ : ∃ j, i = j + 1 := ⟨i - 1, by omega⟩
  have e : (((j + 1 : Nat) : Int) - 1) = (j : Int) := by omega
  rw [e, weightZ_nat n j (by omega) (by omega)]
  have := log2L_mono (by omega) (wArg_anti n j (by omega))
  omega
theorem strengthZ_nat (f l n t : Nat) (h1 : 1 ≤ f) (h2 : f ≤ 1000) (h3 : l ≤ 1000) (h4 : n ≤ 512) (h5 : t ≤ 30000) : strengthZ f l n t = (strengthN f l n t : Int) := by
  unfold strengthZ sOK
  rw [if_pos (by simp; omega)]
  rfl
theorem strength_freq (f l n t : Nat) (h1 : 1 ≤ f) : strengthN f l n t ≤ strengthN (f + 1) l n t := by
  unfold strengthN
  generalize 900 * l * n / t = d
  refine div_le_div_cross (by omega) (by omega) ?_
  have e1 : 2200000 * f * (1000 * (f + 1) + 300 + d) = 2200000 * (f * (1000 * f + 300 + d) + 1000 * f) := by
    rw [Nat.mul_assoc]
    congr 1
    have : 1000 * (f + 1) + 300 + d = (1000 * f + 300 + d) + 1000 := by omega
    rw [this, Nat.mul_add]
    omega
  have e2 : 2200000 * (f + 1) * (1000 * f + 300 + d) = 2200000 * (f * (1000 * f + 300 + d) + (1000 * f + 300 + d)) := by
    rw [Nat.mul_assoc]
    congr 1
    rw [Nat.add_mul]
    omega
  rw [e1, e2]
  exact Nat.mul_le_mul_left _ (by omega)
theorem strength_len (f l n t : Nat) (h1 : 1 ≤ f) : strengthN f (l + 7) n t ≤ strengthN f l n t := by
  unfold strengthN
  have h2 : 900 * l * n / t ≤ 900 * (l + 7) * n / t := Nat.div_le_div_right (Nat.mul_le_mul_right _ (by omega))
  generalize 900 * l * n / t = d at *
  generalize 900 * (l + 7) * n / t = d' at *
  exact Nat.div_le_div_left (by omega) (by omega)
theorem strength_facts (f l n : Nat) (h1 : 1 ≤ f) (h2 : f < 20) (h3 : l ≤ 200) (h4 : n ≤ 60) :
    strengthZ f l n (50 * (n : Int)) ≤ strengthZ ((f : Int) + 1) l n (50 * (n : Int)) ∧ strengthZ f ((l : Int) + 7) n (50 * (n : Int)) ≤ strengthZ f l n (50 * (n : Int)) := by
  have e1 : (50 * (n : Int)) = ((50 * n : Nat) : Int) := by omega
  have e2 : ((f : Int) + 1) = ((f + 1 : Nat) : Int) := by omega
  have e3 : ((l : Int) + 7) = ((l + 7 : Nat) : Int) := by omega
  rw [e1, e2, e3, strengthZ_nat f l n _ h1 (by omega) (by omega) (by omega) (by omega), strengthZ_nat (f + 1) l n _ (by omega) (by omega) (by omega) (by omega) (by omega), strengthZ_nat f (l + 7) n _ h1 (by omega) (by omega) (by omega) (by omega)]
  have h5 := strength_freq f l n (50 * n) h1
  have h6 := strength_len f l n (50 * n) h1
  omega
theorem log2_facts (z : Int) (h1 : 1 ≤ z) (h2 : z ≤ 2305843009213693951) : log2Z z ≤ log2Z (z + 1) ∧ (z < 1073741824 → log2Z (2 * z) = log2Z z + 1024) := by
  obtain ⟨v, rfl⟩ : ∃ v : Nat, z = (v : Int) := ⟨z.toNat, by omega⟩
  have e1 : ((v : Int) + 1) = ((v + 1 : Nat) : Int) := by omega
  have e2 : (2 * (v : Int)) = ((2 * v : Nat) : Int) := by omega
  have h : ∀ u : Nat, 1 ≤ u → u ≤ 4611686018427387903 → log2Z (u : Int) = (log2L u : Int) := by
    intro u hu hu2
    unfold log2Z logOK
    rw [if_pos (by simp; omega)]
    rfl
  rw [e1, e2, h v (by omega) (by omega), h (v + 1) (by omega) (by omega)]
  refine ⟨?_, fun h3 => ?_⟩
  · have := log2L_mono (v := v) (u := v + 1) (by omega) (by omega)
    omega
  · rw [h (2 * v) (by omega) (by omega), log2L_two v (by omega) (by omega)]
    omega
end Go.Proofs.Ytjmfkgbpgbpgnaa
