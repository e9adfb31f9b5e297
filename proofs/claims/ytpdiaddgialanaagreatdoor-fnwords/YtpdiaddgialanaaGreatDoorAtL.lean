import Derived.Test.YtpdiaddgialanaaGreatDoorCodeW
import Derived.Laws.ShiftsVar
namespace Go.Proofs.YtpdiaddgialanaaGreatDoor
open Go Go.RowKit
set_option linter.unusedVariables false

set_option maxHeartbeats 2000000 in
set_option maxRecDepth 100000 in
/-- laws.at of the code: a number below n. -/
theorem lawAt_any (ao : Option Addr) (n cap i m : Nat) (w : World) (hn : n ≤ 1048576) (hi : i ≤ 1048576) (hm : 1 < m) (hm2 : m ≤ 1048576) (hc : CodeIn w ao n) :
    Calls Tryz.prog 9 #[.slice ao n cap, .int .i64 (i : Int), .int .i64 (m : Int)] w fun e w' => ∃ x : Nat, e = .returned (.int .i64 (x : Int)) ∧ x < m ∧ w.grownBy w' none := by
  have hmz : ¬ (m : Int) ≤ 1 := by omega
  have hm0 : (m : Int) ≠ 0 := by omega
  by_cases h0 : n = 0
  · subst h0
    go_enter Tryz.func9, Tryz.ntmps9
    go_wp2
    go_ret
    refine ⟨i * 7 % m, ?_, Nat.mod_lt _ (by omega), grown_drewN w 0 none⟩
    show Ending.returned (.int .i64 ((i : Int) * 7 % (m : Int))) = _
    rw [Int.natCast_emod]
    rfl
  · have hn0 : (n : Int) ≠ 0 := by omega
    obtain ⟨A, hA⟩ : ∃ A : Nat, (i : Int) % (n : Int) = (A : Int) := ⟨i % n, by rw [Int.natCast_emod]⟩
    obtain ⟨B, hB⟩ : ∃ B : Nat, ((i : Int) + 1) % (n : Int) = (B : Int) := ⟨(i + 1) % n, by rw [Int.natCast_emod]; rfl⟩
    obtain ⟨D, hD⟩ : ∃ D : Nat, (i : Int) / (n : Int) = (D : Int) := ⟨i / n, by rw [Int.natCast_ediv]⟩
    have hAn : A < n := by have := Int.emod_lt_of_pos (i : Int) (by omega : (0 : Int) < (n : Int)); omega
    have hBn : B < n := by have := Int.emod_lt_of_pos ((i : Int) + 1) (by omega : (0 : Int) < (n : Int)); omega
    have hDi : D ≤ i := by
      have h1 : i / n ≤ i := Nat.div_le_self _ _
      have h2 : ((i / n : Nat) : Int) = (D : Int) := by rw [Int.natCast_ediv]; exact hD
      omega
    obtain ⟨blk, off, z, rfl, _, hz0, hz1, hzc⟩ := hc A hAn
    obtain ⟨blk', off', y, he, _, hy0, hy1, hyc⟩ := hc B hBn
    obtain ⟨rfl, rfl⟩ : blk = blk' ∧ off = off' := by simpa using he
    have hmod : ∃ x : Nat, (z * 31 + y + (D : Int)) % (m : Int) = (x : Int) ∧ x < m := by
      have h1 := Int.emod_nonneg (z * 31 + y + (D : Int)) hm0
      have h2 := Int.emod_lt_of_pos (z * 31 + y + (D : Int)) (by omega : (0 : Int) < (m : Int))
      exact ⟨((z * 31 + y + (D : Int)) % (m : Int)).toNat, by omega, by omega⟩
    obtain ⟨x, hx, hxm⟩ := hmod
    have hAz : (A : Int) < (n : Int) := by omega
    have hBz : (B : Int) < (n : Int) := by omega
    clear hc he
    go_enter Tryz.func9, Tryz.ntmps9
    go_wp2
    go_quiet (fail)
    go_wp2
    go_ret
    refine ⟨x, ?_, hxm, grown_drewN _ _ _⟩
    show Ending.returned (.int .i64 ((z * 31 + y + (D : Int)) % (m : Int))) = _
    rw [hx]
end Go.Proofs.YtpdiaddgialanaaGreatDoor
