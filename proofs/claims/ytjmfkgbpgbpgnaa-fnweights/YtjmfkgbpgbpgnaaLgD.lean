import Derived.Test.YtjmfkgbpgbpgnaaSrcN
import Derived.Laws.ShiftsVar
namespace Go.Proofs.Ytjmfkgbpgbpgnaa
open Go Go.RowKit
set_option linter.unusedVariables false

set_option maxHeartbeats 2000000 in
set_option maxRecDepth 100000 in
/-- laws.at of the code: a number below n. -/
theorem at_any (ao : Option Addr) (n cap i m : Nat) (w : World) (hn : n ≤ 1048576) (hi : i ≤ 1048576) (hm : 1 < m) (hm2 : m ≤ 1048576) (hc : CodeIn w ao n) :
    Calls Try.prog 13 #[.slice ao n cap, .int .i64 (i : Int), .int .i64 (m : Int)] w fun e w' => ∃ x : Nat, e = .returned (.int .i64 (x : Int)) ∧ x < m ∧ w.grownBy w' none := by
  have hmz : ¬ (m : Int) ≤ 1 := by omega
  have hm0 : (m : Int) ≠ 0 := by omega
  by_cases h0 : n = 0
  · subst h0
    go_enter Try.func13, Try.ntmps13
    go_wp2
    go_ret
    refine ⟨i * 7 % m, ?_, Nat.mod_lt _ (by omega), grown_drewN w 0 none⟩
    show Ending.returned (.int .i64 ((i : Int) * 7 % (m : Int))) = _
    rw [Int.natCast_emod]
    rfl
  · have hn0 : (n : Int) ≠ 0 := by omega
    obtain ⟨A, hA⟩ : ∃ A : Nat, (i : Int) % (n : Int) = (A : Int) := ⟨i % n, by rw [Int.natCast_emod]⟩
    obtain ⟨B, hB⟩ : ∃ B : Nat, ((i : Int) + 1) % (n : Int) = (B : Int) := ⟨(i + 1) % n, by rw [Int.natCast_emod]; rfl⟩
    obtain ⟨D, hD⟩ : ∃ D : Nat, (i : Int) / (n : Int) = (D : Int) := ⟨i / n, by rw [Int.natCast_ediv]⟩
    have hAn : A < n := by have := Int.emod_lt_of_pos (i : Int) (by omega : (0 : Int) < (n : Int)); omega
    have hBn : B < n := by have := Int.emod_lt_of_pos ((i : Int) + 1) (by omega : (0 : Int) < (n : Int)); omega
    have hDi : D ≤ i := by
      have h1 : i / n ≤ i := Nat.div_le_self _ _
      have h2 : ((i / n : Nat) : Int) = (D : Int) := by rw [Int.natCast_ediv]; exact hD
      omega
    obtain ⟨blk, off, z, rfl, _, hz0, hz1, hzc⟩ := hc A hAn
    obtain ⟨blk', off', y, he, _, hy0, hy1, hyc⟩ := hc B hBn
    obtain ⟨rfl, rfl⟩ : blk = blk' ∧ off = off' := by simpa using he
    have hmod : ∃ x : Nat, (z * 31 + y + (D : Int)) % (m : Int) = (x : Int) ∧ x < m := by
      have h1 := Int.emod_nonneg (z * 31 + y + (D : Int)) hm0
      have h2 := Int.emod_lt_of_pos (z * 31 + y + (D : Int)) (by omega : (0 : Int) < (m : Int))
      exact ⟨((z * 31 + y + (D : Int)) % (m : Int)).toNat, by omega, by omega⟩
    obtain ⟨x, hx, hxm⟩ := hmod
    have hAz : (A : Int) < (n : Int) := by omega
    have hBz : (B : Int) < (n : Int) := by omega
    clear hc he
    go_enter Try.func13, Try.ntmps13
    go_wp2
    go_quiet (fail)
    go_wp2
    go_ret
    refine ⟨x, ?_, hxm, grown_drewN _ _ _⟩
    show Ending.returned (.int .i64 ((z * 31 + y + (D : Int)) % (m : Int))) = _
    rw [hx]

set_option maxHeartbeats 2000000 in
set_option maxRecDepth 100000 in
theorem drawLog2_any (ao : Option Addr) (n cap : Nat) (w : World) (hn : n ≤ 1048576) (hc : CodeIn w ao n) :
    Calls Try.prog 14 #[.slice ao n cap] w fun e w' => ∃ z : Int, e = .returned (.int .i64 z) ∧ Below w.heap.size w w' := by
  have HI := hidd hc
  clear hc
  go_enter Try.func14, Try.ntmps14
  go_wp2_with fail
  refine (source_any ao n cap _ hn).mono ?_
  rintro e w1 ⟨rfl, hs1, hg1⟩
  have HS1 := hidd hs1
  have HG1 := hidd hg1
  have HC1 := hidd (HI.out.code hg1)
  have hd0 : 0 ≤ (n : Int) % 1000 := Int.emod_nonneg _ (by omega)
  have hd1 : (n : Int) % 1000 < 2147483648 := by have := Int.emod_lt_of_pos (n : Int) (by omega : (0 : Int) < 1000); omega
  generalize (n : Int) % 1000 = sd0 at *
  clear hs1 hg1
  go_wp2_with fail
  refine (chance_any _ ao n cap 0 sd0 4 _ hn (by omega) (by omega) (by omega) (by omega) hd0 hd1 HS1.out HC1.out).mono ?_
  rintro e w2 ⟨x, a2, sd2, rfl, ha1, ha2, hd2, hd3, hs2, hg2⟩
  have HS2 := hidd hs2
  have HG2 := hidd hg2
  have HC2 := hidd (HC1.out.kept hg2)
  clear hs2 hg2 HS1 HC1
  cases x with
  | true =>
    go_wp2_with fail
    refine (next_any _ ao n cap a2 sd2 62 _ hn (by omega) (by omega) (by omega) (by omega) hd2 hd3 HS2.out HC2.out).mono ?_
    rintro e w3 ⟨y, a3, sd3, rfl, hy0, hy1, ha3, ha4, hd4, hd5, hs3, hg3⟩
    have HS3 := hidd hs3
    have HG3 := hidd (grown_trans HG2.out hg3)
    have HC3 := hidd (HC2.out.kept hg3)
    clear hs3 hg3 HS2 HC2 HG2
    obtain ⟨Y, rfl⟩ := Int.eq_ofNat_of_zero_le hy0
    obtain ⟨P, hP, HP⟩ : ∃ P : Nat, (2 : Int) ^ Y = (P : Int) ∧ Hid (2 ^ Y = P) := by
      refine ⟨2 ^ Y, ?_, rfl⟩
      rw [Int.natCast_pow]; rfl
    have hP62 : P ≤ 2305843009213693952 := by
      have := Nat.pow_le_pow_right (n := 2) (by omega) (by omega : Y ≤ 61)
      rw [HP.out] at this
      simpa using this
    have hYz : (Y : Int) < 64 := by omega
    go_wp2_with fail
    refine (next_any _ ao n cap a3 sd3 3 _ hn (by omega) (by omega) (by omega) (by omega) hd4 hd5 HS3.out HC3.out).mono ?_
    rintro e w4 ⟨t, a4, sd4, rfl, ht0, ht1, ha5, ha6, hd6, hd7, hs4, hg4⟩
    have HR := hidd (below_src HG1.out (grown_trans HG3.out hg4))
    clear hs4 hg4
    go_wp2
    go_ret
    exact ⟨_, rfl, HR.out⟩
  | false =>
    go_wp2_with fail
    refine (drawOdd_any _ ao n cap a2 sd2 _ hn (by omega) (by omega) hd2 hd3 HS2.out HC2.out).mono ?_
    rintro e w3 ⟨y, a3, sd3, rfl, ha3, ha4, hd4, hd5, hs3, hg3⟩
    have HR := hidd (below_src HG1.out (grown_trans HG2.out hg3))
    clear hs3 hg3
    go_wp2
    go_ret
    exact ⟨_, rfl, HR.out⟩
end Go.Proofs.Ytjmfkgbpgbpgnaa
