import Derived.Test.YtjmfkgbpgbpgnaaWtsP
import Derived.Test.YtjmfkgbpgbpgnaaLgD
import Derived.Test.YtjmfkgbpgbpgnaaWtLaw
namespace Go.Proofs.Ytjmfkgbpgbpgnaa
open Go Go.RowKit
set_option linter.unusedVariables false

theorem grown_below {w w' : World} (h : w.grownBy w' none) : Below w.heap.size w w' :=
  ⟨h.os, h.tape, h.output, h.size, fun i hi => h.block i hi (by simp)⟩

set_option maxHeartbeats 4000000 in
set_option maxRecDepth 100000 in
theorem weightsLaw_any (ao : Option Addr) (len cap : Nat) (w : World) (hc : CodeIn w ao len) :
    Calls Try.prog 6 #[.slice ao len cap] w fun e w' => e = .returned (.bool true) ∧ Below w.heap.size w w' := by
  have HI := hidd hc
  clear hc
  by_cases hlen : 1048576 < len
  · have hlz : (1048576 : Int) < (len : Int) := by omega
    go_enter Try.func6, Try.ntmps6
    go_wp2
    go_ret
    exact ⟨rfl, Below.refl _ _⟩
  have hlz : ¬ (1048576 : Int) < (len : Int) := by omega
  go_enter Try.func6, Try.ntmps6
  go_wp2_with fail
  refine (at_any ao len cap 0 60 _ (by omega) (by omega) (by omega) (by omega) HI.out).mono ?_
  rintro e w1 ⟨n0, rfl, hn0, hg1⟩
  obtain ⟨n, hn⟩ : ∃ n : Nat, (1 : Int) + (n0 : Int) = (n : Int) := ⟨n0 + 1, by omega⟩
  have hn1 : 1 ≤ n := by omega
  have hn60 : n ≤ 60 := by omega
  have HB1 := hidd (grown_below hg1)
  have HI1 := hidd (HI.out.below (grown_below hg1))
  clear hg1
  go_wp2
  go_loop [4, 5] (fun iv _ => ∃ i : Nat, i ≤ n + 1 ∧ iv = .int .i64 (i : Int)) (fun iv _ => 1000 - (intOf iv).toNat)
  case atStart => exact ⟨0, by omega, rfl⟩
  case round =>
    obtain ⟨i, hi, rfl⟩ := hrel
    by_cases hin : i ≤ n
    · have hinz : (i : Int) ≤ (n : Int) := by omega
      go_wp2_with fail
      refine (implWeight_any lenC n i _).mono ?_
      rintro e w2 ⟨rfl, hw2⟩
      obtain rfl := hw2.symm
      go_wp2_with fail
      refine (specWeight_any n i _).mono ?_
      rintro e w2 ⟨rfl, hw2⟩
      obtain rfl := hw2.symm
      obtain ⟨hf0, hf1⟩ := weight_facts n i hn60 hin
      by_cases hi0 : 0 < i
      · have hf1 := hf1 hi0
        have HW := hidd (implWeight_any lenC (n : Int) ((i : Int) - 1) w1)
        have hi0z : (0 : Int) < (i : Int) := by omega
        generalize weightZ (n : Int) ((i : Int) - 1) = y at *
        generalize weightZ (n : Int) (i : Int) = x at *
        have hxx : (x != x) = false := by simp
        have hx0 : ¬ x < 0 := by omega
        have hxy : ¬ y < x := by omega
        go_wp2_with fail
        refine HW.out.mono ?_
        rintro e w2 ⟨rfl, hw2⟩
        obtain rfl := hw2.symm
        go_wp2
        go_round
        case rel => exact ⟨i + 1, by omega, by go_num⟩
        case measure => simp [intOf]; omega
      · have hi0z : ¬ (0 : Int) < (i : Int) := by omega
        clear hf1
        generalize weightZ (n : Int) (i : Int) = x at *
        have hxx : (x != x) = false := by simp
        have hx0 : ¬ x < 0 := by omega
        go_wp2
        go_round
        case rel => exact ⟨i + 1, by omega, by go_num⟩
        case measure => simp [intOf]; omega
    · have hinz : ¬ (i : Int) ≤ (n : Int) := by omega
      obtain rfl : i = n + 1 := by omega
      go_wp2_with fail
      refine (at_any ao len cap 1 200 _ (by omega) (by omega) (by omega) (by omega) HI1.out).mono ?_
      rintro e w2 ⟨l0, rfl, hl0, hg2⟩
      obtain ⟨l, hl⟩ : ∃ l : Nat, (1 : Int) + (l0 : Int) = (l : Int) := ⟨l0 + 1, by omega⟩
      have hl1 : 1 ≤ l := by omega
      have hl200 : l ≤ 200 := by omega
      have HB2 := hidd (HB1.out.trans ((grown_below hg2).mono HB1.out.size))
      have HI2 := hidd (HI1.out.below (grown_below hg2))
      clear hg2
      go_wp2
      go_loop [7, 8] (fun iv _ => ∃ i : Nat, 1 ≤ i ∧ i ≤ 20 ∧ iv = .int .i64 (i : Int)) (fun iv _ => 1000 - (intOf iv).toNat)
      case atStart => exact ⟨1, by omega, by omega, rfl⟩
      case round =>
        obtain ⟨i, hi1, hi2, rfl⟩ := hrel
        by_cases hin : i < 20
        · have hinz : (i : Int) < 20 := by omega
          obtain ⟨hf0, hf1⟩ := strength_facts i l n hi1 hin hl200 hn60
          have HS0 := hidd (implStrength_any (i : Int) (l : Int) (n : Int) (50 * (n : Int)) w2)
          have HS1 := hidd (specStrength_any (i : Int) (l : Int) (n : Int) (50 * (n : Int)) w2)
          have HS2 := hidd (implStrength_any ((i : Int) + 1) (l : Int) (n : Int) (50 * (n : Int)) w2)
          have HS3 := hidd (implStrength_any (i : Int) ((l : Int) + 7) (n : Int) (50 * (n : Int)) w2)
          generalize strengthZ (i : Int) (l : Int) (n : Int) (50 * (n : Int)) = x at *
          generalize strengthZ ((i : Int) + 1) (l : Int) (n : Int) (50 * (n : Int)) = y at *
          generalize strengthZ (i : Int) ((l : Int) + 7) (n : Int) (50 * (n : Int)) = z at *
          have hxx : (x != x) = false := by simp
          have hxy : ¬ y < x := by omega
          have hxz : ¬ x < z := by omega
          go_wp2_with fail
          refine HS0.out.mono ?_
          rintro e w3 ⟨rfl, hw3⟩
          obtain rfl := hw3.symm
          go_wp2_with fail
          refine HS1.out.mono ?_
          rintro e w3 ⟨rfl, hw3⟩
          obtain rfl := hw3.symm
          go_wp2_with fail
          refine HS2.out.mono ?_
          rintro e w3 ⟨rfl, hw3⟩
          obtain rfl := hw3.symm
          go_wp2_with fail
          refine HS3.out.mono ?_
          rintro e w3 ⟨rfl, hw3⟩
          obtain rfl := hw3.symm
          go_wp2
          go_round
          case rel => exact ⟨i + 1, by omega, by omega, by go_num⟩
          case measure => simp [intOf]; omega
        · have hinz : ¬ (i : Int) < 20 := by omega
          obtain rfl : i = 20 := by omega
          go_wp2_with fail
          refine (drawLog2_any ao len cap _ (by omega) HI2.out).mono ?_
          rintro e w3 ⟨z, rfl, hb3⟩
          have HB3 := hidd (HB2.out.trans (hb3.mono HB2.out.size))
          clear hb3
          by_cases hz : z < 1 ∨ 2305843009213693951 < z
          · have HS0 := hidd (implLog2_any lenC z w3)
            have HS1 := hidd (specLog2_any z w3)
            generalize log2Z z = x at *
            rcases hz with hz | hz
            · go_wp2_with fail
              refine HS0.out.mono ?_
              rintro e w4 ⟨rfl, hw4⟩
              obtain rfl := hw4.symm
              go_wp2_with fail
              refine HS1.out.mono ?_
              rintro e w4 ⟨rfl, hw4⟩
              obtain rfl := hw4.symm
              go_wp2
              go_ret
              exact ⟨rfl, HB3.out⟩
            · have hz2 : ¬ z < 1 := by omega
              go_wp2_with fail
              refine HS0.out.mono ?_
              rintro e w4 ⟨rfl, hw4⟩
              obtain rfl := hw4.symm
              go_wp2_with fail
              refine HS1.out.mono ?_
              rintro e w4 ⟨rfl, hw4⟩
              obtain rfl := hw4.symm
              go_wp2
              go_ret
              exact ⟨rfl, HB3.out⟩
          · have hz1 : ¬ z < 1 := by omega
            have hz2 : ¬ 2305843009213693951 < z := by omega
            obtain ⟨hf0, hf1⟩ := log2_facts z (by omega) (by omega)
            have HS0 := hidd (implLog2_any lenC z w3)
            have HS1 := hidd (specLog2_any z w3)
            have HS2 := hidd (implLog2_any lenC (z + 1) w3)
            have HS3 := hidd (implLog2_any lenC (2 * z) w3)
            have hsm := log2Z_small z
            clear hz
            by_cases hbig : 1073741824 ≤ z
            · clear hf1
              generalize log2Z z = x at *
              generalize log2Z (z + 1) = y at *
              go_wp2_with fail
              refine HS0.out.mono ?_
              rintro e w4 ⟨rfl, hw4⟩
              obtain rfl := hw4.symm
              go_wp2_with fail
              refine HS1.out.mono ?_
              rintro e w4 ⟨rfl, hw4⟩
              obtain rfl := hw4.symm
              go_wp2_with fail
              refine HS2.out.mono ?_
              rintro e w4 ⟨rfl, hw4⟩
              obtain rfl := hw4.symm
              go_wp2
              go_ret
              exact ⟨rfl, HB3.out⟩
            · have hf1 := hf1 (by omega)
              rw [hf1] at HS3
              clear hf1
              generalize log2Z z = x at *
              generalize log2Z (z + 1) = y at *
              go_wp2_with fail
              refine HS0.out.mono ?_
              rintro e w4 ⟨rfl, hw4⟩
              obtain rfl := hw4.symm
              go_wp2_with fail
              refine HS1.out.mono ?_
              rintro e w4 ⟨rfl, hw4⟩
              obtain rfl := hw4.symm
              go_wp2_with fail
              refine HS2.out.mono ?_
              rintro e w4 ⟨rfl, hw4⟩
              obtain rfl := hw4.symm
              go_wp2_with fail
              refine HS3.out.mono ?_
              rintro e w4 ⟨rfl, hw4⟩
              obtain rfl := hw4.symm
              go_wp2
              go_ret
              exact ⟨rfl, HB3.out⟩
end Go.Proofs.Ytjmfkgbpgbpgnaa
