import Derived.Test.YtibomnmgiimejadPkP
namespace Go.Proofs.Ytibomnmgiimejad
open Go
set_option linter.unusedVariables false

/-! How many bits a number has, and a list of numbers. -/
theorem bl_iff (v k : Nat) (hv : v < 18446744073709551616) (hk : k ≤ 64) : Lib.bitLen v ≤ k ↔ v < 2 ^ k := by
  constructor
  · intro h
    by_cases h0 : v = 0
    · subst h0; exact Nat.pow_pos (by omega)
    · have := (Lib.bitLenAux_bounds 64 v (by simpa using hv) h0).2.2
      exact Nat.lt_of_lt_of_le this (Nat.pow_le_pow_right (by omega) h)
  · exact Lib.bitLen_le v k hk
theorem bl_le64 (v : Nat) (hv : v < 18446744073709551616) : Lib.bitLen v ≤ 64 := (bl_iff v 64 hv (by omega)).2 (by simpa using hv)

def widthG (vs : List Nat) (w : Nat) : Nat := vs.foldl (fun w v => max w (Lib.bitLen v)) w
def widthL (vs : List Nat) : Nat := widthG vs 0
def nums62 (vs : List Nat) : Prop := ∀ v ∈ vs, v < 4611686018427387904
theorem widthG_le (vs : List Nat) : ∀ (w k : Nat), (∀ v ∈ vs, v < 18446744073709551616) → k ≤ 64 → (widthG vs w ≤ k ↔ w ≤ k ∧ ∀ v ∈ vs, v < 2 ^ k) := by
  induction vs with
  | nil => intro w k _ _; simp [widthG]
  | cons x t ih =>
    intro w k hv hk
    have hx := hv x (by simp)
    have := ih (max w (Lib.bitLen x)) k (fun v h => hv v (by simp [h])) hk
    simp only [widthG, List.foldl_cons] at this ⊢
    rw [this, Nat.max_le, bl_iff x k hx hk]
    simp only [List.mem_cons, forall_eq_or_imp]
    exact ⟨fun ⟨⟨a, b⟩, c⟩ => ⟨a, b, c⟩, fun ⟨a, b, c⟩ => ⟨⟨a, b⟩, c⟩⟩
theorem widthL_le (vs : List Nat) (k : Nat) (hv : ∀ v ∈ vs, v < 18446744073709551616) (hk : k ≤ 64) : widthL vs ≤ k ↔ ∀ v ∈ vs, v < 2 ^ k := by
  have := widthG_le vs 0 k hv hk
  simpa [widthL] using this
theorem nums_u64 {vs : List Nat} (h : nums62 vs) : ∀ v ∈ vs, v < 18446744073709551616 := fun v hv => Nat.lt_trans (h v hv) (by omega)
theorem widthL_62 (vs : List Nat) (h : nums62 vs) : widthL vs ≤ 62 := (widthL_le vs 62 (nums_u64 h) (by omega)).2 (by simpa [nums62] using h)
theorem widthL_lt (vs : List Nat) (h : nums62 vs) : ∀ v ∈ vs, v < 2 ^ widthL vs := (widthL_le vs (widthL vs) (nums_u64 h) (by have := widthL_62 vs h; omega)).1 (Nat.le_refl _)

def orL (vs : List Nat) : Nat := vs.foldl (fun a v => a ||| v) 0
theorem orG_lt (vs : List Nat) : ∀ (a k : Nat), (vs.foldl (fun a v => a ||| v) a < 2 ^ k ↔ a < 2 ^ k ∧ ∀ v ∈ vs, v < 2 ^ k) := by
  induction vs with
  | nil => intro a k; simp
  | cons x t ih =>
    intro a k
    simp only [List.foldl_cons, List.mem_cons, forall_eq_or_imp]
    rw [ih]
    constructor
    · rintro ⟨h1, h2⟩
      exact ⟨Nat.lt_of_le_of_lt Nat.left_le_or h1, Nat.lt_of_le_of_lt Nat.right_le_or h1, h2⟩
    · rintro ⟨h1, h2, h3⟩
      exact ⟨Nat.or_lt_two_pow h1 h2, h3⟩
theorem orL_lt (vs : List Nat) (k : Nat) : orL vs < 2 ^ k ↔ ∀ v ∈ vs, v < 2 ^ k := by
  have := orG_lt vs 0 k
  simp only [orL, this]
  exact ⟨fun h => h.2, fun h => ⟨Nat.pow_pos (by omega), h⟩⟩
theorem orL_width (vs : List Nat) (h : ∀ v ∈ vs, v < 18446744073709551616) : Lib.bitLen (orL vs) = widthL vs := by
  have ho : orL vs < 18446744073709551616 := (orL_lt vs 64).2 (by simpa using h)
  have h1 := bl_le64 _ ho
  have h2 : widthL vs ≤ 64 := (widthL_le vs 64 h (by omega)).2 (by simpa using h)
  apply Nat.le_antisymm
  · rw [bl_iff _ _ ho h2, orL_lt, ← widthL_le vs _ h h2]; exact Nat.le_refl _
  · rw [widthL_le vs _ h h1, ← orL_lt, ← bl_iff _ _ ho h1]; exact Nat.le_refl _

/-! The numbers of a block as one number; its bytes. -/
def numL (w : Nat) : List Nat → Nat
  | [] => 0
  | v :: t => v + 2 ^ w * numL w t
theorem numL_snoc (w : Nat) (l : List Nat) (v : Nat) : numL w (l ++ [v]) = numL w l + 2 ^ (w * l.length) * v := by
  induction l with
  | nil => simp [numL]
  | cons x t ih => simp only [List.cons_append, numL, ih, List.length_cons, Nat.mul_add, Nat.mul_one, Nat.pow_add]; grind
theorem numL_lt (w : Nat) (l : List Nat) (h : ∀ v ∈ l, v < 2 ^ w) : numL w l < 2 ^ (w * l.length) := by
  induction l with
  | nil => simp [numL]
  | cons x t ih =>
    have h1 := ih (fun v hv => h v (by simp [hv]))
    have h2 := h x (by simp)
    simp only [numL, List.length_cons, Nat.mul_add, Nat.mul_one, Nat.pow_add]
    have : 2 ^ w * (numL w t + 1) ≤ 2 ^ w * 2 ^ (w * t.length) := Nat.mul_le_mul_left _ h1
    rw [Nat.mul_add, Nat.mul_one] at this
    rw [Nat.mul_comm (2 ^ (w * t.length))]
    omega
theorem numL_zeros (w : Nat) (l : List Nat) (k : Nat) : numL w (l ++ List.replicate k 0) = numL w l := by
  induction l with
  | nil => induction k with
    | zero => rfl
    | succ k ih => simp only [List.nil_append, List.replicate_succ, numL] at ih ⊢; rw [ih]; simp
  | cons x t ih => simp only [List.cons_append, numL, ih]
theorem numL_at (w : Nat) (l : List Nat) : ∀ (i : Nat), (∀ v ∈ l, v < 2 ^ w) → i < l.length → numL w l / 2 ^ (i * w) % 2 ^ w = l.getD i 0 := by
  induction l with
  | nil => intro i _ hi; simp at hi
  | cons x t ih =>
    intro i h hi
    have hx := h x (by simp)
    cases i with
    | zero => simp [numL, Nat.add_mul_mod_self_left, Nat.mod_eq_of_lt hx]
    | succ i =>
      have hp : 0 < 2 ^ w := Nat.pow_pos (by omega)
      have e : (i + 1) * w = w + i * w := by rw [Nat.succ_mul]; omega
      rw [e, Nat.pow_add, ← Nat.div_div_eq_div_mul, numL, Nat.add_mul_div_left _ _ hp, Nat.div_eq_of_lt hx, Nat.zero_add, ih i (fun v hv => h v (by simp [hv])) (by simpa using hi)]
      simp

def bytesL (S M : Nat) : List UInt8 := (List.range S).map fun j => UInt8.ofNat (M / 2 ^ (8 * j))
theorem bytesL_length (S M : Nat) : (bytesL S M).length = S := by simp [bytesL]
def leNum : List UInt8 → Nat
  | [] => 0
  | b :: t => b.toNat + 256 * leNum t
theorem bytesL_cons (S M : Nat) : bytesL (S + 1) M = UInt8.ofNat M :: bytesL S (M / 256) := by
  simp only [bytesL, List.range_succ_eq_map, List.map_cons, List.map_map]
  simp only [Nat.mul_zero, Nat.pow_zero, Nat.div_one]
  congr 1
  apply List.map_congr_left
  intro j _
  simp only [Function.comp_apply]
  have e : 2 ^ (8 * (j + 1)) = 256 * 2 ^ (8 * j) := by rw [Nat.mul_add, Nat.pow_add]; omega
  rw [e, ← Nat.div_div_eq_div_mul]
theorem leNum_bytesL (S : Nat) : ∀ M, M < 2 ^ (8 * S) → leNum (bytesL S M) = M := by
  induction S with
  | zero => intro M h; simp at h; subst h; rfl
  | succ S ih =>
    intro M h
    rw [bytesL_cons, leNum, ih (M / 256) (by rw [Nat.mul_add, Nat.pow_add] at h; exact Nat.div_lt_of_lt_mul (by omega))]
    simp
    omega
theorem bytesL_leNum (bs : List UInt8) : bytesL bs.length (leNum bs) = bs := by
  induction bs with
  | nil => rfl
  | cons b t ih =>
    have hb : b.toNat < 256 := b.toNat_lt
    rw [List.length_cons, bytesL_cons, leNum]
    have e1 : (b.toNat + 256 * leNum t) / 256 = leNum t := by omega
    have e2 : UInt8.ofNat (b.toNat + 256 * leNum t) = b := by
      apply UInt8.toNat_inj.1
      simp
    rw [e1, e2, ih]
theorem leNum_lt (bs : List UInt8) : leNum bs < 2 ^ (8 * bs.length) := by
  induction bs with
  | nil => simp [leNum]
  | cons b t ih =>
    have hb : b.toNat < 256 := b.toNat_lt
    rw [List.length_cons, Nat.mul_add, Nat.pow_add, leNum]
    omega
theorem leNum_snoc (l : List UInt8) (b : UInt8) : leNum (l ++ [b]) = leNum l + 2 ^ (8 * l.length) * b.toNat := by
  induction l with
  | nil => simp [leNum]
  | cons x t ih => simp only [List.cons_append, leNum, ih, List.length_cons, Nat.mul_add, Nat.pow_add]; grind

/-! Words of 64 bits of a number. -/
def wordAt (M k : Nat) : Nat := M / 2 ^ (64 * k) % 2 ^ 64
theorem wordAt_bit (M k j : Nat) : (wordAt M k).testBit j = (decide (j < 64) && M.testBit (64 * k + j)) := by
  rw [wordAt, Nat.testBit_mod_two_pow, Nat.testBit_div_two_pow, Nat.add_comm]
theorem wordAt_lt (M k : Nat) : wordAt M k < 18446744073709551616 := Nat.mod_lt _ (by decide)
theorem add_or (N v p : Nat) (h : N < 2 ^ p) : N + 2 ^ p * v = N ||| (v * 2 ^ p) := by
  have := Nat.two_pow_add_eq_or_of_lt h v
  rw [Nat.add_comm, this, Nat.mul_comm, Nat.or_comm]
theorem bit_high (v j : Nat) (hv : v < 18446744073709551616) (hj : 64 ≤ j) : v.testBit j = false :=
  Nat.testBit_lt_two_pow (Nat.lt_of_lt_of_le hv (Nat.pow_le_pow_right (n := 2) (by omega) hj))
theorem word_here (N v p : Nat) (h : N < 2 ^ p) : wordAt (N + 2 ^ p * v) (p / 64) = wordAt N (p / 64) ||| (v * 2 ^ (p % 64)) % 18446744073709551616 := by
  apply Nat.eq_of_testBit_eq
  intro j
  have e64 : (18446744073709551616 : Nat) = 2 ^ 64 := by decide
  rw [wordAt_bit, add_or N v p h, Nat.testBit_or, Nat.testBit_or, wordAt_bit, e64, Nat.testBit_mod_two_pow, Nat.testBit_mul_two_pow, Nat.testBit_mul_two_pow]
  by_cases hj : j < 64
  · by_cases hs : p % 64 ≤ j
    · have e1 : p ≤ 64 * (p / 64) + j := by omega
      have e2 : 64 * (p / 64) + j - p = j - p % 64 := by omega
      simp [hj, hs, e1, e2]
    · have e1 : ¬ p ≤ 64 * (p / 64) + j := by omega
      simp [hs, e1]
  · simp [hj]
theorem word_next (N v p : Nat) (h : N < 2 ^ p) (hv : v < 18446744073709551616) : wordAt (N + 2 ^ p * v) (p / 64 + 1) = wordAt N (p / 64 + 1) ||| v / 2 ^ (64 - p % 64) := by
  apply Nat.eq_of_testBit_eq
  intro j
  rw [wordAt_bit, add_or N v p h, Nat.testBit_or, Nat.testBit_or, wordAt_bit, Nat.testBit_div_two_pow, Nat.testBit_mul_two_pow]
  by_cases hj : j < 64
  · have e1 : p ≤ 64 * (p / 64 + 1) + j := by omega
    have e2 : 64 * (p / 64 + 1) + j - p = j + (64 - p % 64) := by omega
    simp [hj, e1, e2]
  · have : v.testBit (j + (64 - p % 64)) = false := bit_high v _ hv (by omega)
    simp [hj, this]
theorem word_else (N v p k : Nat) (h : N < 2 ^ p) (hv : v < 18446744073709551616) (h1 : k ≠ p / 64) (h2 : k ≠ p / 64 + 1) : wordAt (N + 2 ^ p * v) k = wordAt N k := by
  apply Nat.eq_of_testBit_eq
  intro j
  rw [wordAt_bit, add_or N v p h, Nat.testBit_or, wordAt_bit, Nat.testBit_mul_two_pow]
  by_cases hj : j < 64
  · by_cases hk : k < p / 64
    · have e1 : ¬ p ≤ 64 * k + j := by omega
      simp [e1]
    · have : v.testBit (64 * k + j - p) = false := bit_high v _ hv (by omega)
      simp [this]
  · simp [hj]
theorem word_take (M k s w : Nat) (hs : s < 64) (hw : w ≤ 64) : (wordAt M k / 2 ^ s ||| (wordAt M (k + 1) * 2 ^ (64 - s)) % 18446744073709551616) % 2 ^ w = M / 2 ^ (64 * k + s) % 2 ^ w := by
  apply Nat.eq_of_testBit_eq
  intro j
  have e64 : (18446744073709551616 : Nat) = 2 ^ 64 := by decide
  rw [Nat.testBit_mod_two_pow, Nat.testBit_mod_two_pow, Nat.testBit_or, Nat.testBit_div_two_pow, wordAt_bit, e64, Nat.testBit_mod_two_pow, Nat.testBit_mul_two_pow, wordAt_bit, Nat.testBit_div_two_pow]
  by_cases hj : j < w
  · by_cases hlo : j + s < 64
    · have e1 : ¬ 64 - s ≤ j := by omega
      have e2 : 64 * k + (j + s) = j + (64 * k + s) := by omega
      simp [hj, hlo, e1, e2]
    · have e1 : 64 - s ≤ j := by omega
      have e2 : 64 * (k + 1) + (j - (64 - s)) = j + (64 * k + s) := by omega
      have e3 : j < 64 := by omega
      have e4 : j - (64 - s) < 64 := by omega
      simp [hj, hlo, e1, e2, e3, e4]
  · simp [hj]
theorem word_byte (M i : Nat) : UInt8.ofNat (wordAt M (i / 8) / 2 ^ (i % 8 * 8)) = UInt8.ofNat (M / 2 ^ (8 * i)) := by
  apply UInt8.toNat_inj.1
  simp only [UInt8.toNat_ofNat']
  apply Nat.eq_of_testBit_eq
  intro j
  rw [Nat.testBit_mod_two_pow, Nat.testBit_mod_two_pow, Nat.testBit_div_two_pow, Nat.testBit_div_two_pow, wordAt_bit]
  by_cases hj : j < 8
  · have e1 : j + i % 8 * 8 < 64 := by omega
    have e2 : 64 * (i / 8) + (j + i % 8 * 8) = j + 8 * i := by omega
    simp [hj, e1, e2]
  · simp [hj]
theorem wordAt_ext (M N n : Nat) (hM : M < 2 ^ (64 * n)) (hN : N < 2 ^ (64 * n)) (h : ∀ k, k < n → wordAt M k = wordAt N k) : M = N := by
  apply Nat.eq_of_testBit_eq
  intro j
  by_cases hj : j < 64 * n
  · have h1 := h (j / 64) (by omega)
    have h2 := congrArg (fun x => x.testBit (j % 64)) h1
    simp only [wordAt_bit] at h2
    have e1 : j % 64 < 64 := by omega
    have e2 : 64 * (j / 64) + j % 64 = j := by omega
    simpa [e1, e2] using h2
  · rw [Nat.testBit_lt_two_pow (Nat.lt_of_lt_of_le hM (Nat.pow_le_pow_right (by omega) (by omega))), Nat.testBit_lt_two_pow (Nat.lt_of_lt_of_le hN (Nat.pow_le_pow_right (by omega) (by omega)))]
end Go.Proofs.Ytibomnmgiimejad
