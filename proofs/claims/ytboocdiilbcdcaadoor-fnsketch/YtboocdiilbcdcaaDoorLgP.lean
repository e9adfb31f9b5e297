import Derived.Lib.Small
namespace Go.Proofs.YtboocdiilbcdcaaDoor
open Go

/-- What Log2 tells, in plain words: s is (the bits so far, x). -/
def lgX (v k : Nat) : Nat := if k ≤ 30 then v * 2 ^ (30 - k) else v / 2 ^ (k - 30)
def lgS (s : Nat × Nat) : Nat × Nat :=
  if 2147483648 ≤ s.2 * s.2 / 1073741824 then (2 * s.1 + 1, s.2 * s.2 / 1073741824 / 2) else (2 * s.1, s.2 * s.2 / 1073741824)
def lgN : Nat → Nat × Nat → Nat × Nat
  | 0, s => s
  | n + 1, s => lgS (lgN n s)
def log2L (v : Nat) : Nat := 1024 * Nat.log2 v + (lgN 10 (0, lgX v (Nat.log2 v))).1
def logOK (z : Int) : Bool := decide (1 ≤ z ∧ z ≤ 4611686018427387903)
def log2Z (z : Int) : Int := if logOK z then (log2L z.toNat : Int) else 0

def InX (x : Nat) : Prop := 1073741824 ≤ x ∧ x < 2147483648

theorem sq_bounds {x : Nat} (h : InX x) : 1152921504606846976 ≤ x * x ∧ x * x < 4611686018427387904 := by
  obtain ⟨h1, h2⟩ := h
  constructor
  · exact Nat.mul_le_mul h1 h1
  · exact Nat.lt_of_le_of_lt (Nat.mul_le_mul (Nat.le_of_lt_succ h2) (Nat.le_of_lt_succ h2)) (by decide)
theorem lgS_in {s : Nat × Nat} (h : InX s.2) : InX (lgS s).2 := by
  have := sq_bounds h
  unfold lgS
  split <;> simp only [InX] <;> omega
theorem lgN_in {s : Nat × Nat} (h : InX s.2) (n : Nat) : InX (lgN n s).2 := by
  induction n with
  | zero => exact h
  | succ n ih => exact lgS_in ih
theorem lgN_base (n b x : Nat) : lgN n (b, x) = (2 ^ n * b + (lgN n (0, x)).1, (lgN n (0, x)).2) := by
  induction n with
  | zero => simp [lgN]
  | succ n ih =>
    show lgS (lgN n (b, x)) = (_ + (lgS (lgN n (0, x))).1, (lgS (lgN n (0, x))).2)
    rw [ih, Nat.pow_succ]
    generalize lgN n (0, x) = t
    simp only [lgS]
    have hm : 2 * (2 ^ n * b) = 2 ^ n * 2 * b := by rw [Nat.mul_comm (2 ^ n) 2, Nat.mul_assoc]
    split
    · simp only [Prod.mk.injEq, and_true]; rw [Nat.mul_add, hm]; omega
    · simp only [Prod.mk.injEq, and_true]; rw [Nat.mul_add, hm]
theorem lgN_lt (n x : Nat) : (lgN n (0, x)).1 < 2 ^ n := by
  induction n with
  | zero => simp [lgN]
  | succ n ih =>
    show (lgS (lgN n (0, x))).1 < _
    rw [Nat.pow_succ]
    unfold lgS
    split <;> simp only <;> omega
theorem lgN_small (n k x : Nat) (hn : n ≤ 10) (hk : k ≤ 61) : (lgN n (k, x)).1 < 65536 := by
  rw [lgN_base]
  have h1 := lgN_lt n x
  have h2 : 2 ^ n ≤ 1024 := by
    have := Nat.pow_le_pow_right (n := 2) (by omega) hn
    simpa using this
  have h3 : 2 ^ n * k ≤ 1024 * 61 := Nat.mul_le_mul h2 hk
  simp only
  omega
theorem lgX_in (v k : Nat) (h1 : 2 ^ k ≤ v) (h2 : v < 2 ^ (k + 1)) : InX (lgX v k) := by
  unfold lgX
  split
  · rename_i hk
    have e1 : 2 ^ k * 2 ^ (30 - k) = 1073741824 := by
      rw [← Nat.pow_add]
      have : k + (30 - k) = 30 := by omega
      rw [this]
    have e2 : 2 ^ (k + 1) * 2 ^ (30 - k) = 2147483648 := by
      rw [← Nat.pow_add]
      have : k + 1 + (30 - k) = 31 := by omega
      rw [this]
    constructor
    · rw [← e1]; exact Nat.mul_le_mul_right _ h1
    · rw [← e2]; exact Nat.mul_lt_mul_of_pos_right h2 (Nat.pow_pos (by omega))
  · rename_i hk
    have e1 : 2 ^ k = 1073741824 * 2 ^ (k - 30) := by
      have : (1073741824 : Nat) = 2 ^ 30 := by decide
      rw [this, ← Nat.pow_add]
      have : 30 + (k - 30) = k := by omega
      rw [this]
    have hp : 0 < 2 ^ (k - 30) := Nat.pow_pos (by omega)
    rw [Nat.pow_succ, e1] at h2
    rw [e1] at h1
    constructor
    · rw [Nat.le_div_iff_mul_le hp]; exact h1
    · rw [Nat.div_lt_iff_lt_mul hp]; omega
theorem log2_bounds (v : Nat) (h : 1 ≤ v) : 2 ^ Nat.log2 v ≤ v ∧ v < 2 ^ (Nat.log2 v + 1) :=
  ⟨Nat.log2_self_le (by omega), Nat.lt_log2_self⟩
theorem log2_61 (v : Nat) (h : v < 4611686018427387904) : Nat.log2 v ≤ 61 := by
  by_cases h0 : v = 0
  · subst h0; decide
  · have := (Nat.log2_lt h0 (k := 62)).2 (by simpa using h)
    omega
theorem log2_le_iff (v k : Nat) (h : 1 ≤ v) : 2 ^ k ≤ v ↔ k ≤ Nat.log2 v := by
  have := Nat.log2_lt (n := v) (k := k) (by omega)
  omega

/-- More is never less. -/
theorem lgS_mono {s t : Nat × Nat} (h : s.1 < t.1 ∨ s.1 = t.1 ∧ s.2 ≤ t.2) :
    (lgS s).1 < (lgS t).1 ∨ (lgS s).1 = (lgS t).1 ∧ (lgS s).2 ≤ (lgS t).2 := by
  rcases h with h | ⟨h, h2⟩
  · left
    unfold lgS
    split <;> split <;> simp only <;> omega
  · have hq : s.2 * s.2 ≤ t.2 * t.2 := Nat.mul_le_mul h2 h2
    have hd : s.2 * s.2 / 1073741824 ≤ t.2 * t.2 / 1073741824 := Nat.div_le_div_right hq
    unfold lgS
    split <;> split <;> simp only <;> omega
theorem lgN_mono {s t : Nat × Nat} (h : s.1 < t.1 ∨ s.1 = t.1 ∧ s.2 ≤ t.2) (n : Nat) :
    (lgN n s).1 < (lgN n t).1 ∨ (lgN n s).1 = (lgN n t).1 ∧ (lgN n s).2 ≤ (lgN n t).2 := by
  induction n with
  | zero => exact h
  | succ n ih => exact lgS_mono ih
theorem log2L_eq (v : Nat) : log2L v = (lgN 10 (Nat.log2 v, lgX v (Nat.log2 v))).1 := by
  rw [lgN_base]; rfl
theorem lgX_mono (v u k : Nat) (h : v ≤ u) : lgX v k ≤ lgX u k := by
  unfold lgX
  split
  · exact Nat.mul_le_mul_right _ h
  · exact Nat.div_le_div_right h
theorem log2L_mono {v u : Nat} (hv : 1 ≤ v) (h : v ≤ u) : log2L v ≤ log2L u := by
  have b1 := log2_bounds v hv
  have hk : Nat.log2 v ≤ Nat.log2 u := (log2_le_iff u _ (by omega)).1 (Nat.le_trans b1.1 h)
  have H := lgN_mono (s := (Nat.log2 v, lgX v (Nat.log2 v))) (t := (Nat.log2 u, lgX u (Nat.log2 u))) (by
    by_cases e : Nat.log2 v = Nat.log2 u
    · right
      refine ⟨e, ?_⟩
      show lgX v (Nat.log2 v) ≤ lgX u (Nat.log2 u)
      rw [e]
      exact lgX_mono v u _ h
    · left; show Nat.log2 v < Nat.log2 u; omega) 10
  rw [log2L_eq, log2L_eq]
  omega
theorem log2_two (v : Nat) (h : 1 ≤ v) : Nat.log2 (2 * v) = Nat.log2 v + 1 := by
  have b1 := log2_bounds v h
  have h1 := (log2_le_iff (2 * v) (Nat.log2 v + 1) (by omega)).1 (by rw [Nat.pow_succ]; omega)
  have h2 : ¬ Nat.log2 v + 2 ≤ Nat.log2 (2 * v) := by
    intro hc
    have := (log2_le_iff (2 * v) (Nat.log2 v + 2) (by omega)).2 hc
    rw [Nat.pow_succ] at this b1
    rw [Nat.pow_succ] at this
    omega
  omega
theorem log2L_two (v : Nat) (h : 1 ≤ v) (hv : v < 1073741824) : log2L (2 * v) = log2L v + 1024 := by
  unfold log2L
  rw [log2_two v h]
  have b1 := log2_bounds v h
  have hk : Nat.log2 v < 30 := by
    have := (Nat.log2_lt (n := v) (k := 30) (by omega)).2 (by simpa using hv)
    exact this
  have e : lgX (2 * v) (Nat.log2 v + 1) = lgX v (Nat.log2 v) := by
    unfold lgX
    rw [if_pos (by omega), if_pos (by omega)]
    have : 30 - Nat.log2 v = (30 - (Nat.log2 v + 1)) + 1 := by omega
    rw [this, Nat.pow_succ, Nat.mul_comm 2 v, Nat.mul_assoc, Nat.mul_comm 2]
  rw [e]
  omega
theorem log2L_1024 : log2L 1024 = 10240 := by decide
end Go.Proofs.YtboocdiilbcdcaaDoor
