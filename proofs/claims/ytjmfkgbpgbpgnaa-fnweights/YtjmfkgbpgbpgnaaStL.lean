import Derived.Test.YtjmfkgbpgbpgnaaAid
import Derived.Test.YtjmfkgbpgbpgnaaWithin
namespace Go.Proofs.Ytjmfkgbpgbpgnaa
open Go Go.RowKit
set_option linter.unusedVariables false

def sOK (f l n t : Int) : Bool := decide (1 ≤ f ∧ f ≤ 33554432 ∧ 0 ≤ l ∧ l ≤ 33554432 ∧ 0 ≤ t ∧ t ≤ 33554432 ∧ 0 ≤ n ∧ n ≤ 512)
def strengthN (f l n t : Nat) : Nat := 2200000 * f / (1000 * f + 300 + 900 * l * n / t)
def strengthZ (f l n t : Int) : Int := if sOK f l n t then (strengthN f.toNat l.toNat n.toNat t.toNat : Int) else 0

/-- What the numbers come to, over whole numbers. -/
theorem st_nums (f l n t : Nat) (hf : 1 ≤ f) (hf2 : f ≤ 33554432) (hl : l ≤ 33554432) (hn : n ≤ 512) :
    ∃ p d r : Nat, 900 * (l : Int) * (n : Int) = (p : Int) ∧ p ≤ 15461882265600 ∧ (t ≠ 0 → (p : Int) / (t : Int) = (d : Int)) ∧ d ≤ 15461882265600 ∧ (t = 0 → d = 0) ∧
      2200000 * (f : Int) / (1000 * (f : Int) + 300 + (d : Int)) = (r : Int) ∧ strengthN f l n t = r ∧ r ≤ 2200 := by
  refine ⟨900 * l * n, 900 * l * n / t, strengthN f l n t, by simp, ?_, ?_, ?_, ?_, ?_, rfl, ?_⟩
  · have : 900 * l * n ≤ 900 * 33554432 * 512 := Nat.mul_le_mul (Nat.mul_le_mul_left _ hl) hn
    omega
  · intro _; rw [Int.natCast_ediv]
  · have h1 : 900 * l * n ≤ 900 * 33554432 * 512 := Nat.mul_le_mul (Nat.mul_le_mul_left _ hl) hn
    have := Nat.div_le_self (900 * l * n) t
    omega
  · intro h; subst h; simp
  · unfold strengthN
    generalize 900 * l * n / t = d
    rw [Int.natCast_ediv]
    have e1 : ((2200000 * f : Nat) : Int) = 2200000 * (f : Int) := by omega
    have e2 : ((1000 * f + 300 + d : Nat) : Int) = 1000 * (f : Int) + 300 + (d : Int) := by omega
    rw [e1, e2]
  · unfold strengthN
    generalize 900 * l * n / t = d
    have h1 : 2200000 * f / (1000 * f + 300 + d) ≤ 2200000 * f / (1000 * f) := Nat.div_le_div_left (by omega) (by omega)
    have h2 : 2200000 * f / (1000 * f) = 2200 := by
      have : 2200000 * f = 2200 * (1000 * f) := by omega
      rw [this]
      exact Nat.mul_div_cancel _ (by omega)
    omega

set_option maxHeartbeats 2000000 in
set_option maxRecDepth 100000 in
theorem specStrength_any (f l n t : Int) (w : World) :
    Calls Try.prog 11 #[.int .i64 f, .int .i64 l, .int .i64 n, .int .i64 t] w fun e w' => e = .returned (.int .i64 (strengthZ f l n t)) ∧ w' = w := by
  by_cases h : 1 ≤ f ∧ f ≤ 33554432 ∧ 0 ≤ l ∧ l ≤ 33554432 ∧ 0 ≤ t ∧ t ≤ 33554432 ∧ 0 ≤ n ∧ n ≤ 512
  · obtain ⟨f, rfl⟩ : ∃ a : Nat, f = (a : Int) := ⟨f.toNat, by omega⟩
    obtain ⟨l, rfl⟩ : ∃ a : Nat, l = (a : Int) := ⟨l.toNat, by omega⟩
    obtain ⟨n, rfl⟩ : ∃ a : Nat, n = (a : Int) := ⟨n.toNat, by omega⟩
    obtain ⟨t, rfl⟩ : ∃ a : Nat, t = (a : Int) := ⟨t.toNat, by omega⟩
    obtain ⟨p, d, r, hp, hp2, hd, hd2, hd0, hr, hs, hr2⟩ := st_nums f l n t (by omega) (by omega) (by omega) (by omega)
    have HZ : Hid (strengthZ (f : Int) (l : Int) (n : Int) (t : Int) = (r : Int)) := by
      show _ = _
      unfold strengthZ sOK
      rw [if_pos (by simp; omega), ← hs]
      rfl
    rw [HZ.out]
    have hf1 : 1 ≤ f := by omega
    have hf2 : f ≤ 33554432 := by omega
    have hl2 : l ≤ 33554432 := by omega
    have ht2 : t ≤ 33554432 := by omega
    have hn2 : n ≤ 512 := by omega
    have a1 : ¬ (f : Int) < 1 := by omega
    have a2 : ¬ (33554432 : Int) < (f : Int) := by omega
    have a3 : ¬ (l : Int) < 0 := by omega
    have a4 : ¬ (33554432 : Int) < (l : Int) := by omega
    have a5 : ¬ (t : Int) < 0 := by omega
    have a6 : ¬ (33554432 : Int) < (t : Int) := by omega
    have a7 : ¬ (n : Int) < 0 := by omega
    have a8 : ¬ (512 : Int) < (n : Int) := by omega
    clear h hs
    by_cases ht0 : 0 < t
    · have hd := hd (by omega)
      have htz : (0 : Int) < (t : Int) := by omega
      have htn : (t : Int) ≠ 0 := by omega
      have hdn : (1000 * (f : Int) + 300 + (d : Int)) ≠ 0 := by omega
      clear hd0
      go_enter Try.func11, Try.ntmps11
      go_wp2
      go_ret
      exact ⟨rfl, rfl⟩
    · have hd := hd0 (by omega)
      subst hd
      have hr' : 2200000 * (f : Int) / (1000 * (f : Int) + 300) = (r : Int) := by rw [← hr]; simp
      have hdn : (1000 * (f : Int) + 300) ≠ 0 := by omega
      clear hd0 hr
      go_enter Try.func11, Try.ntmps11
      go_wp2
      go_ret
      exact ⟨rfl, rfl⟩
  · have HZ : Hid (strengthZ f l n t = 0) := by show _ = _; unfold strengthZ sOK; rw [if_neg]; rw [decide_eq_true_eq]; exact h
    rw [HZ.out]
    go_enter Try.func11, Try.ntmps11
    by_cases a1 : f < 1
    · clear h
      go_wp2
      go_ret
      exact ⟨rfl, rfl⟩
    by_cases a2 : 33554432 < f
    · clear h
      go_wp2
      go_ret
      exact ⟨rfl, rfl⟩
    by_cases a3 : l < 0
    · clear h
      go_wp2
      go_ret
      exact ⟨rfl, rfl⟩
    by_cases a4 : 33554432 < l
    · clear h
      go_wp2
      go_ret
      exact ⟨rfl, rfl⟩
    by_cases a5 : t < 0
    · clear h
      go_wp2
      go_ret
      exact ⟨rfl, rfl⟩
    by_cases a6 : 33554432 < t
    · clear h
      go_wp2
      go_ret
      exact ⟨rfl, rfl⟩
    by_cases a7 : n < 0
    · clear h
      go_wp2
      go_ret
      exact ⟨rfl, rfl⟩
    have a8 : 512 < n := by omega
    clear h
    go_wp2
    go_ret
    exact ⟨rfl, rfl⟩

theorem within_t (r lo hi : Int) (w : World) (h : lo ≤ r ∧ r ≤ hi) : Calls Try.prog 15 #[.int .i64 r, .int .i64 lo, .int .i64 hi] w fun e w' => e = .returned (.bool true) ∧ w' = w := by
  refine (within_any r lo hi w).mono ?_
  rintro e w' ⟨rfl, rfl⟩
  exact ⟨by simp [h.1, h.2], rfl⟩
theorem within_f (r lo hi : Int) (w : World) (h : ¬ (lo ≤ r ∧ r ≤ hi)) : Calls Try.prog 15 #[.int .i64 r, .int .i64 lo, .int .i64 hi] w fun e w' => e = .returned (.bool false) ∧ w' = w := by
  refine (within_any r lo hi w).mono ?_
  rintro e w' ⟨rfl, rfl⟩
  exact ⟨by rw [← Bool.decide_and, decide_eq_false h], rfl⟩

set_option maxHeartbeats 2000000 in
set_option maxRecDepth 100000 in
theorem implStrength_any (f l n t : Int) (w : World) :
    Calls Try.prog 12 #[.int .i64 f, .int .i64 l, .int .i64 n, .int .i64 t] w fun e w' => e = .returned (.int .i64 (strengthZ f l n t)) ∧ w' = w := by
  by_cases h : 1 ≤ f ∧ f ≤ 33554432 ∧ 0 ≤ l ∧ l ≤ 33554432 ∧ 0 ≤ t ∧ t ≤ 33554432 ∧ 0 ≤ n ∧ n ≤ 512
  · obtain ⟨f, rfl⟩ : ∃ a : Nat, f = (a : Int) := ⟨f.toNat, by omega⟩
    obtain ⟨l, rfl⟩ : ∃ a : Nat, l = (a : Int) := ⟨l.toNat, by omega⟩
    obtain ⟨n, rfl⟩ : ∃ a : Nat, n = (a : Int) := ⟨n.toNat, by omega⟩
    obtain ⟨t, rfl⟩ : ∃ a : Nat, t = (a : Int) := ⟨t.toNat, by omega⟩
    obtain ⟨p, d, r, hp, hp2, hd, hd2, hd0, hr, hs, hr2⟩ := st_nums f l n t (by omega) (by omega) (by omega) (by omega)
    have HZ : Hid (strengthZ (f : Int) (l : Int) (n : Int) (t : Int) = (r : Int)) := by
      show _ = _
      unfold strengthZ sOK
      rw [if_pos (by simp; omega), ← hs]
      rfl
    rw [HZ.out]
    have hf1 : 1 ≤ f := by omega
    have hf2 : f ≤ 33554432 := by omega
    have hl2 : l ≤ 33554432 := by omega
    have ht2 : t ≤ 33554432 := by omega
    have hn2 : n ≤ 512 := by omega
    clear h hs
    have hdd : (0 : Int) < 1000 * (f : Int) + 300 + (d : Int) := by omega
    by_cases ht0 : 0 < t
    · have hd := hd (by omega)
      have htz : (0 : Int) < (t : Int) := by omega
      have htn : (t : Int) ≠ 0 := by omega
      have hdn : (1000 * (f : Int) + 300 + (d : Int)) ≠ 0 := by omega
      clear hd0
      go_enter Try.func12, Try.ntmps12
      go_wp2_with (refine (within_t _ _ _ _ (by omega)).mono ?_; rintro e w1 ⟨rfl, rfl⟩)
      go_ret
      refine ⟨?_, rfl⟩
      show Ending.returned (.int .i64 (2200000 * (f : Int) / (1000 * (f : Int) + 300 + (d : Int)))) = _
      rw [hr]
    · have hd := hd0 (by omega)
      subst hd
      have hr' : 2200000 * (f : Int) / (1000 * (f : Int) + 300) = (r : Int) := by rw [← hr]; simp
      have hdn : (1000 * (f : Int) + 300) ≠ 0 := by omega
      have htz : ¬ (0 : Int) < (t : Int) := by omega
      clear hd0 hr
      go_enter Try.func12, Try.ntmps12
      go_wp2_with (refine (within_t _ _ _ _ (by omega)).mono ?_; rintro e w1 ⟨rfl, rfl⟩)
      go_ret
      refine ⟨?_, rfl⟩
      show Ending.returned (.int .i64 (2200000 * (f : Int) / (1000 * (f : Int) + 300))) = _
      rw [hr']
  · have HZ : Hid (strengthZ f l n t = 0) := by show _ = _; unfold strengthZ sOK; rw [if_neg]; rw [decide_eq_true_eq]; exact h
    rw [HZ.out]
    by_cases a1 : 1 ≤ f ∧ f ≤ 33554432
    · by_cases a2 : 0 ≤ l ∧ l ≤ 33554432
      · by_cases a3 : 0 ≤ n ∧ n ≤ 512
        · have a4 : ¬ (0 ≤ t ∧ t ≤ 33554432) := by omega
          clear h
          have A1 := hidd a1; have A2 := hidd a2; have A3 := hidd a3; have A4 := hidd a4; clear a1 a2 a3 a4
          go_enter Try.func12, Try.ntmps12
          go_wp2_with fail
          refine (within_t f _ _ _ A1.out).mono ?_
          rintro e w1 ⟨rfl, rfl⟩
          go_wp2_with fail
          refine (within_t l _ _ _ A2.out).mono ?_
          rintro e w1 ⟨rfl, rfl⟩
          go_wp2_with fail
          refine (within_t n _ _ _ A3.out).mono ?_
          rintro e w1 ⟨rfl, rfl⟩
          go_wp2_with fail
          refine (within_f t _ _ _ A4.out).mono ?_
          rintro e w1 ⟨rfl, rfl⟩
          go_wp2
          go_ret
          exact ⟨rfl, rfl⟩
        · clear h
          have A1 := hidd a1; have A2 := hidd a2; have A3 := hidd a3; clear a1 a2 a3
          go_enter Try.func12, Try.ntmps12
          go_wp2_with fail
          refine (within_t f _ _ _ A1.out).mono ?_
          rintro e w1 ⟨rfl, rfl⟩
          go_wp2_with fail
          refine (within_t l _ _ _ A2.out).mono ?_
          rintro e w1 ⟨rfl, rfl⟩
          go_wp2_with fail
          refine (within_f n _ _ _ A3.out).mono ?_
          rintro e w1 ⟨rfl, rfl⟩
          go_wp2
          go_ret
          exact ⟨rfl, rfl⟩
      · clear h
        have A1 := hidd a1; have A2 := hidd a2; clear a1 a2
        go_enter Try.func12, Try.ntmps12
        go_wp2_with fail
        refine (within_t f _ _ _ A1.out).mono ?_
        rintro e w1 ⟨rfl, rfl⟩
        go_wp2_with fail
        refine (within_f l _ _ _ A2.out).mono ?_
        rintro e w1 ⟨rfl, rfl⟩
        go_wp2
        go_ret
        exact ⟨rfl, rfl⟩
    · clear h
      have A1 := hidd a1; clear a1
      go_enter Try.func12, Try.ntmps12
      go_wp2_with fail
      refine (within_f f _ _ _ A1.out).mono ?_
      rintro e w1 ⟨rfl, rfl⟩
      go_wp2
      go_ret
      exact ⟨rfl, rfl⟩
end Go.Proofs.Ytjmfkgbpgbpgnaa
