import Derived.Test.YtjmfkgbpgbpgnaaLgI
namespace Go.Proofs.Ytjmfkgbpgbpgnaa
open Go Go.RowKit
set_option linter.unusedVariables false

def wOK (n m : Int) : Bool := decide (0 ≤ m ∧ m ≤ n ∧ n ≤ 512)
def wArg (n m : Nat) : Nat := 1024 * (2 * n - 2 * m + 1) / (2 * m + 1) + 1024
def weightZ (n m : Int) : Int := if wOK n m then log2Z (1024 * (2 * n - 2 * m + 1) / (2 * m + 1) + 1024) - 10240 else 0
theorem wArg_le (n m : Nat) (h : m ≤ n) (hn : n ≤ 512) : 1024 ≤ wArg n m ∧ wArg n m ≤ 1050624 := by
  have h1 : 1024 * (2 * n - 2 * m + 1) / (2 * m + 1) ≤ 1024 * (2 * n - 2 * m + 1) := Nat.div_le_self _ _
  unfold wArg
  generalize 1024 * (2 * n - 2 * m + 1) / (2 * m + 1) = d at *
  omega
theorem weightZ_nat (n m : Nat) (h : m ≤ n) (hn : n ≤ 512) : weightZ n m = (log2L (wArg n m) : Int) - 10240 := by
  have hw := wArg_le n m h hn
  have e : (1024 * (2 * (n : Int) - 2 * (m : Int) + 1) / (2 * (m : Int) + 1) + 1024) = ((wArg n m : Nat) : Int) := by
    unfold wArg
    rw [Int.natCast_add, Int.natCast_ediv]
    have e1 : ((1024 * (2 * n - 2 * m + 1) : Nat) : Int) = 1024 * (2 * (n : Int) - 2 * (m : Int) + 1) := by omega
    have e2 : ((2 * m + 1 : Nat) : Int) = 2 * (m : Int) + 1 := by omega
    rw [e1, e2]
    rfl
  unfold weightZ wOK
  rw [if_pos (by simp; omega), e]
  unfold log2Z logOK
  rw [if_pos (by simp; omega)]
  rfl
theorem log2L_lt (v : Nat) (hv : v < 4611686018427387904) : log2L v < 65536 := by
  rw [log2L_eq]
  exact lgN_small 10 _ _ (by omega) (log2_61 v hv)
theorem log2Z_small (z : Int) : 0 ≤ log2Z z ∧ log2Z z < 65536 := by
  unfold log2Z
  split
  · rename_i h
    simp [logOK] at h
    have := log2L_lt z.toNat (by omega)
    omega
  · omega
theorem weight_div (n m : Nat) (h : m ≤ n) (hn : n ≤ 512) : ∃ q : Nat, Int.tdiv (1024 * (2 * (n : Int) - 2 * (m : Int) + 1)) (2 * (m : Int) + 1) = (q : Int) ∧ (1024 * (2 * (n : Int) - 2 * (m : Int) + 1)) / (2 * (m : Int) + 1) = (q : Int) ∧ q ≤ 1049600 := by
  refine ⟨1024 * (2 * n - 2 * m + 1) / (2 * m + 1), ?_, ?_, ?_⟩
  · rw [Int.tdiv_eq_ediv_of_nonneg (by omega), Int.natCast_ediv]
    have e1 : ((1024 * (2 * n - 2 * m + 1) : Nat) : Int) = 1024 * (2 * (n : Int) - 2 * (m : Int) + 1) := by omega
    have e2 : ((2 * m + 1 : Nat) : Int) = 2 * (m : Int) + 1 := by omega
    rw [e1, e2]
  · rw [Int.natCast_ediv]
    have e1 : ((1024 * (2 * n - 2 * m + 1) : Nat) : Int) = 1024 * (2 * (n : Int) - 2 * (m : Int) + 1) := by omega
    have e2 : ((2 * m + 1 : Nat) : Int) = 2 * (m : Int) + 1 := by omega
    rw [e1, e2]
  · have := Nat.div_le_self (1024 * (2 * n - 2 * m + 1)) (2 * m + 1)
    omega

set_option maxHeartbeats 2000000 in
set_option maxRecDepth 100000 in
theorem specWeight_any (n m : Int) (w : World) :
    Calls Try.prog 9 #[.int .i64 n, .int .i64 m] w fun e w' => e = .returned (.int .i64 (weightZ n m)) ∧ w' = w := by
  by_cases h : 0 ≤ m ∧ m ≤ n ∧ n ≤ 512
  · obtain ⟨a, rfl⟩ : ∃ a : Nat, n = (a : Int) := ⟨n.toNat, by omega⟩
    obtain ⟨b, rfl⟩ : ∃ b : Nat, m = (b : Int) := ⟨m.toNat, by omega⟩
    obtain ⟨q, hq, hq2, hq3⟩ := weight_div a b (by omega) (by omega)
    have HZ : Hid (weightZ (a : Int) (b : Int) = log2Z ((q : Int) + 1024) - 10240) := by
      show _ = _
      unfold weightZ wOK
      rw [if_pos (by simp; omega), hq2]
    have hba : b ≤ a := by omega
    have ha : a ≤ 512 := by omega
    have h1 : ¬ (b : Int) < 0 := by omega
    have h2 : ¬ (a : Int) < (b : Int) := by omega
    have h3 : ¬ (512 : Int) < (a : Int) := by omega
    have h4 : (2 * (b : Int) + 1) ≠ 0 := by omega
    have Hs := hidd (log2Z_small ((q : Int) + 1024))
    clear h
    rw [HZ.out]
    go_enter Try.func9, Try.ntmps9
    go_wp2_with fail
    refine (specLog2_any ((q : Int) + 1024) _).mono ?_
    rintro e w1 ⟨rfl, rfl⟩
    have hs := Hs.out
    obtain ⟨x, hx⟩ : ∃ x, log2Z ((q : Int) + 1024) = x := ⟨_, rfl⟩
    have Hx := hidd hx
    rw [hx] at hs ⊢
    clear hx
    go_wp2
    go_ret
    exact ⟨by rw [Hx.out]; rfl, rfl⟩
  · have HZ : Hid (weightZ n m = 0) := by show _ = _; unfold weightZ wOK; rw [if_neg]; simpa using h
    rw [HZ.out]
    by_cases h1 : m < 0
    · go_enter Try.func9, Try.ntmps9
      go_wp2
      go_ret
      exact ⟨rfl, rfl⟩
    · by_cases h2 : n < m
      · go_enter Try.func9, Try.ntmps9
        go_wp2
        go_ret
        exact ⟨rfl, rfl⟩
      · have h3 : 512 < n := by omega
        go_enter Try.func9, Try.ntmps9
        go_wp2
        go_ret
        exact ⟨rfl, rfl⟩

set_option maxHeartbeats 2000000 in
set_option maxRecDepth 100000 in
theorem implWeight_any (HL : LenC) (n m : Int) (w : World) :
    Calls Try.prog 10 #[.int .i64 n, .int .i64 m] w fun e w' => e = .returned (.int .i64 (weightZ n m)) ∧ w' = w := by
  have HH := hidd HL
  clear HL
  by_cases h : 0 ≤ m ∧ m ≤ n ∧ n ≤ 512
  · obtain ⟨a, rfl⟩ : ∃ a : Nat, n = (a : Int) := ⟨n.toNat, by omega⟩
    obtain ⟨b, rfl⟩ : ∃ b : Nat, m = (b : Int) := ⟨m.toNat, by omega⟩
    obtain ⟨q, hq, hq2, hq3⟩ := weight_div a b (by omega) (by omega)
    have HZ : Hid (weightZ (a : Int) (b : Int) = log2Z ((q : Int) + 1024) - 10240) := by
      show _ = _
      unfold weightZ wOK
      rw [if_pos (by simp; omega), hq2]
    have HW : Hid ((decide (0 ≤ (b : Int)) && decide ((b : Int) ≤ (a : Int))) = true) := by show _ = _; simp; omega
    have hba : b ≤ a := by omega
    have ha : a ≤ 512 := by omega
    have h3 : ¬ (512 : Int) < (a : Int) := by omega
    have h4 : (2 * (b : Int) + 1) ≠ 0 := by omega
    have Hs := hidd (log2Z_small ((q : Int) + 1024))
    clear h
    rw [HZ.out]
    go_enter Try.func10, Try.ntmps10
    go_wp2_with fail
    refine (within_any _ _ _ _).mono ?_
    rintro e w1 ⟨rfl, rfl⟩
    rw [HW.out]
    go_wp2_with fail
    refine (implLog2_any HH.out ((q : Int) + 1024) _).mono ?_
    rintro e w1 ⟨rfl, rfl⟩
    have hs := Hs.out
    obtain ⟨x, hx⟩ : ∃ x, log2Z ((q : Int) + 1024) = x := ⟨_, rfl⟩
    have Hx := hidd hx
    rw [hx] at hs ⊢
    clear hx
    go_wp2
    go_ret
    exact ⟨by rw [Hx.out]; rfl, rfl⟩
  · have HZ : Hid (weightZ n m = 0) := by show _ = _; unfold weightZ wOK; rw [if_neg]; simpa using h
    rw [HZ.out]
    by_cases h1 : 512 < n
    · clear h
      go_enter Try.func10, Try.ntmps10
      go_wp2
      go_ret
      exact ⟨rfl, rfl⟩
    · have HW : Hid ((decide (0 ≤ m) && decide (m ≤ n)) = false) := by
        show _ = _
        rw [← Bool.decide_and]
        exact decide_eq_false (by omega)
      clear h
      go_enter Try.func10, Try.ntmps10
      go_wp2_with fail
      refine (within_any _ _ _ _).mono ?_
      rintro e w1 ⟨rfl, rfl⟩
      rw [HW.out]
      go_wp2
      go_ret
      exact ⟨rfl, rfl⟩
end Go.Proofs.Ytjmfkgbpgbpgnaa
