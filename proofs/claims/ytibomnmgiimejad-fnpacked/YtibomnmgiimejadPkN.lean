import Derived.Test.YtibomnmgiimejadPkR
namespace Go.Proofs.Ytibomnmgiimejad
open Go
set_option linter.unusedVariables false

theorem bytesL_at (S M j : Nat) (h : j < S) : ((bytesL S M).getD j 0).toNat = M / 2 ^ (8 * j) % 256 := by
  simp [bytesL, h]
theorem byte_bit (M bit p j : Nat) (hM : M < 2 ^ p) (hb : bit ≤ 1) :
    (M + 2 ^ p * bit) / 2 ^ (8 * j) % 256 = M / 2 ^ (8 * j) % 256 + (if j = p / 8 then bit * 2 ^ (p % 8) else 0) := by
  have hpos : 0 < 2 ^ (8 * j) := Nat.pow_pos (by omega)
  by_cases h1 : p < 8 * j
  · have hle : 2 ^ (p + 1) ≤ 2 ^ (8 * j) := Nat.pow_le_pow_right (by omega) (by omega)
    have hlt : M + 2 ^ p * bit < 2 ^ (p + 1) := by
      have : 2 ^ p * bit ≤ 2 ^ p * 1 := Nat.mul_le_mul_left _ hb
      rw [Nat.pow_succ]; omega
    rw [if_neg (by omega), Nat.div_eq_of_lt (Nat.lt_of_lt_of_le hlt hle), Nat.div_eq_of_lt (Nat.lt_of_lt_of_le (Nat.lt_of_lt_of_le hM (Nat.pow_le_pow_right (by omega) (by omega : p ≤ p + 1))) hle)]
  · obtain ⟨r, hr⟩ : ∃ r, p = 8 * j + r := ⟨p - 8 * j, by omega⟩
    subst hr
    have e : 2 ^ (8 * j + r) * bit = 2 ^ (8 * j) * (2 ^ r * bit) := by rw [Nat.pow_add, Nat.mul_assoc]
    rw [e, Nat.add_mul_div_left _ _ hpos]
    by_cases h2 : r < 8
    · have hq : M / 2 ^ (8 * j) < 2 ^ r := Nat.div_lt_of_lt_mul (by rw [← Nat.pow_add]; exact hM)
      have h8 : 2 ^ (r + 1) ≤ 256 := by
        have : 2 ^ (r + 1) ≤ 2 ^ 8 := Nat.pow_le_pow_right (by omega) (by omega)
        simpa using this
      rw [Nat.pow_succ] at h8
      have hbb : 2 ^ r * bit ≤ 2 ^ r * 1 := Nat.mul_le_mul_left _ hb
      have e2 : (8 * j + r) / 8 = j := by omega
      have e3 : (8 * j + r) % 8 = r := by omega
      rw [e2, e3, if_pos rfl, Nat.mod_eq_of_lt (by omega), Nat.mod_eq_of_lt (by omega), Nat.mul_comm bit]
    · have e2 : ¬ j = (8 * j + r) / 8 := by omega
      rw [if_neg e2, Nat.add_zero]
      obtain ⟨s, hs⟩ : ∃ s, r = 8 + s := ⟨r - 8, by omega⟩
      subst hs
      have e3 : 2 ^ (8 + s) * bit = 256 * (2 ^ s * bit) := by rw [Nat.pow_add]; grind
      rw [e3, Nat.add_mul_mod_self_left]
theorem bytesL_bit (S M bit p : Nat) (hM : M < 2 ^ p) (hb : bit ≤ 1) (hp : p / 8 < S) :
    (bytesL S M).set (p / 8) (UInt8.ofNat (((bytesL S M).getD (p / 8) 0).toNat + bit * 2 ^ (p % 8))) = bytesL S (M + 2 ^ p * bit) ∧ ((bytesL S M).getD (p / 8) 0).toNat + bit * 2 ^ (p % 8) < 256 := by
  have hb8 := byte_bit M bit p (p / 8) hM hb
  rw [if_pos rfl] at hb8
  rw [bytesL_at S M (p / 8) hp]
  have hlt : M / 2 ^ (8 * (p / 8)) % 256 + bit * 2 ^ (p % 8) < 256 := by rw [← hb8]; exact Nat.mod_lt _ (by omega)
  refine ⟨?_, hlt⟩
  apply List.ext_getElem (by simp [bytesL])
  intro i h1 h2
  have hi : i < S := by rw [bytesL_length] at h2; exact h2
  rw [List.getElem_set]
  have e : ∀ N (hN : i < (bytesL S N).length), (bytesL S N)[i] = UInt8.ofNat (N / 2 ^ (8 * i)) := by intro N hN; simp [bytesL]
  rw [e _ h2]
  by_cases hh : p / 8 = i
  · rw [if_pos hh, ← hh]
    apply UInt8.toNat_inj.1
    rw [UInt8.toNat_ofNat', UInt8.toNat_ofNat']
    show _ % 256 = _ % 256
    rw [Nat.mod_eq_of_lt hlt, hb8]
  · rw [if_neg hh, e _ (by rw [bytesL_length]; exact hi)]
    apply UInt8.toNat_inj.1
    rw [UInt8.toNat_ofNat', UInt8.toNat_ofNat']
    have := byte_bit M bit p i hM hb
    rw [if_neg (fun e => hh e.symm), Nat.add_zero] at this
    exact this.symm
theorem bytesL_zero (S : Nat) : bytesL S 0 = List.replicate S 0 := by
  apply List.ext_getElem (by simp [bytesL])
  intro i h1 h2
  simp [bytesL]
theorem mod_step (N p : Nat) : N % 2 ^ (p + 1) = N % 2 ^ p + 2 ^ p * (N / 2 ^ p % 2) := by
  rw [Nat.pow_succ, Nat.mod_mul]
theorem num_bit (w : Nat) (vs : List Nat) (i k : Nat) (h : ∀ v ∈ vs, v < 2 ^ w) (hi : i < vs.length) (hk : k < w) : vs.getD i 0 / 2 ^ k % 2 = numL w vs / 2 ^ (i * w + k) % 2 := by
  rw [← numL_at w vs i h hi, Nat.pow_add, ← Nat.div_div_eq_div_mul]
  generalize numL w vs / 2 ^ (i * w) = X
  have e1 : ∀ Y : Nat, Y % 2 = if Y.testBit 0 then 1 else 0 := by intro Y; simp [Nat.testBit_zero]; split <;> omega
  rw [e1, e1, Nat.testBit_div_two_pow, Nat.testBit_div_two_pow, Nat.testBit_mod_two_pow]
  simp [hk]
theorem size_room (n w i k : Nat) (hi : i < n) (hk : k < w) : (i * w + k) / 8 < sizeL n w := by
  have h1 : i * w + w ≤ n * w := by rw [← Nat.succ_mul]; exact Nat.mul_le_mul_right _ hi
  unfold sizeL; omega
end Go.Proofs.Ytibomnmgiimejad
