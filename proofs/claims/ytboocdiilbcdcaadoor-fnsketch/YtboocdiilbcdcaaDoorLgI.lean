import Derived.Lib.BitFns
import Derived.Lib.ItoaNum
import Derived.Test.YtboocdiilbcdcaaDoorLgS
namespace Go.Proofs.YtboocdiilbcdcaaDoor
open Go Go.RowKit
set_option linter.unusedVariables false

def LenC : Prop := ∀ (x : Int) (w : World), 0 ≤ x → x ≤ 18446744073709551615 →
    Calls Tryd.prog 50 #[.int .u64 x] w fun e w' => e = .returned (.int .i64 (Lib.bitLen x.toNat)) ∧ w' = w
theorem bl_log2 (v : Nat) (h : 1 ≤ v) (hv : v < 4611686018427387904) : Lib.bitLen v = Nat.log2 v + 1 := by
  have hb := Lib.bitLenAux_bounds 64 v (by omega) (by omega)
  have h1 := log2_bounds v h
  have h61 := log2_61 v hv
  apply Nat.le_antisymm
  · exact Lib.bitLen_le v _ (by omega) h1.2
  · have h2 : v < 2 ^ Lib.bitLen v := hb.2.2
    have : Nat.log2 v < Lib.bitLen v := (Nat.log2_lt (by omega)).2 h2
    omega
set_option maxHeartbeats 1000000 in
theorem len_any (HL : LenC) (x : Nat) (w : World) (h : x < 4611686018427387904) :
    Calls Tryd.prog 48 #[.int .u64 (x : Int)] w fun e w' => e = .returned (.int .i64 (Lib.bitLen x : Nat)) ∧ w' = w := by
  have HH := hidd HL
  clear HL
  go_enter Tryd.func48, Tryd.ntmps48
  go_wp2_with fail
  refine (HH.out (x : Int) _ (by omega) (by omega)).mono ?_
  rintro e w' ⟨rfl, rfl⟩
  go_wp2
  go_ret
  exact ⟨rfl, rfl⟩

set_option maxHeartbeats 2000000 in
set_option maxRecDepth 100000 in
theorem implLog2_any (HL : LenC) (z : Int) (w : World) :
    Calls Tryd.prog 46 #[.int .i64 z] w fun e w' => e = .returned (.int .i64 (log2Z z)) ∧ w' = w := by
  have HH := hidd HL
  clear HL
  by_cases h1 : 1 ≤ z ∧ z ≤ 4611686018427387903
  · obtain ⟨v, rfl⟩ : ∃ v : Nat, z = (v : Int) := ⟨z.toNat, by omega⟩
    have hv1 : 1 ≤ v := by omega
    have hv2 : v < 4611686018427387904 := by omega
    have HZ : Hid (log2Z (v : Int) = (log2L v : Int)) := by show _ = _; unfold log2Z logOK; rw [if_pos (by simp; omega)]; rfl
    have HBL := hidd (bl_log2 v hv1 hv2)
    have HW : Hid ((decide (1 ≤ (v : Int)) && decide ((v : Int) ≤ 4611686018427387903)) = true) := by show _ = _; simp; omega
    rw [HZ.out]
    have hk61 := log2_61 v hv2
    have Hb := hidd (log2_bounds v hv1)
    have HX := hidd (lgX_in v _ Hb.out.1 Hb.out.2)
    have HE := hidd (log2L_eq v)
    obtain ⟨k, hK⟩ : ∃ K, Nat.log2 v = K := ⟨_, rfl⟩
    rw [hK] at hk61 Hb HX HE HBL
    clear hK h1
    go_enter Tryd.func46, Tryd.ntmps46
    go_wp2_with fail
    refine (within_any _ _ _ _).mono ?_
    rintro e w1 ⟨rfl, rfl⟩
    rw [HW.out]
    go_wp2_with fail
    refine (len_any HH.out v _ hv2).mono ?_
    rintro e w1 ⟨rfl, rfl⟩
    rw [HBL.out]
    have hX1 : lgX v k < 2147483648 := HX.out.2
    rcases (by omega : k < 30 ∨ k = 30 ∨ 30 < k) with h30 | rfl | h30
    · obtain ⟨d, hd⟩ : ∃ d : Nat, (30 : Int) - (k : Int) = (d : Int) := ⟨30 - k, by omega⟩
      have hd30 : d ≤ 30 := by omega
      have hd0 : 0 < d := by omega
      have hk30 : ¬ 30 < k := by omega
      have hxe : Hid ((lgX v k : Nat) = v * 2 ^ d) := by
        show _ = _
        unfold lgX
        rw [if_pos (by omega)]
        have : 30 - k = d := by omega
        rw [this]
      have hxz : (v : Int) * 2 ^ d = ((lgX v k : Nat) : Int) := by rw [hxe.out, Int.natCast_mul, Int.natCast_pow]; rfl
      generalize lgX v k = x0 at *
      have hwr : wrap64 (x0 : Int) = (x0 : Int) := by unfold wrap64; omega
      go_wp2
      go_loop [3, 4, 21] (fun bv xv iv => ∃ i : Nat, i ≤ 10 ∧ iv = .int .i64 (i : Int) ∧ bv = .int .i64 (((lgN i (k, x0)).1 : Nat) : Int) ∧ xv = .int .i64 (((lgN i (k, x0)).2 : Nat) : Int)) (fun _ _ iv => 64 - (intOf iv).toNat)
      case atStart => exact ⟨0, by omega, rfl, rfl, rfl⟩
      case round =>
        obtain ⟨i, hi, rfl, rfl, rfl⟩ := hrel
        have HB := hidd (lgN_small i k x0 hi (by omega))
        have HI := hidd (lgN_in (s := (k, x0)) HX.out i)
        by_cases hi10 : i < 10
        · have hiz : (i : Int) < 10 := by omega
          have HS : Hid (lgN (i + 1) (k, x0) = lgS (lgN i (k, x0))) := rfl
          generalize lgN i (k, x0) = s at *
          obtain ⟨b, x⟩ := s
          have hb := HB.out
          obtain ⟨p, q, hp, hq, hp2, hq2, hs⟩ := lg_round b x HI.out
          have HS2 := hidd (HS.out.trans hs)
          have hx2 : x < 2147483648 := HI.out.2
          clear hs HS
          simp only at hb
          by_cases hge : 2147483648 ≤ q
          · have hgz : (2147483648 : Int) ≤ (q : Int) := by omega
            have HS3 : Hid (lgN (i + 1) (k, x0) = (2 * b + 1, q / 2)) := by show _ = _; rw [HS2.out, if_pos hge]
            go_wp2
            go_round
            case rel => exact ⟨i + 1, by omega, by go_num, by rw [HS3.out]; go_num, by rw [HS3.out]; go_num⟩
            case measure => simp [intOf]; omega
          · have hgz : ¬ (2147483648 : Int) ≤ (q : Int) := by omega
            have HS3 : Hid (lgN (i + 1) (k, x0) = (2 * b, q)) := by show _ = _; rw [HS2.out, if_neg hge]
            go_wp2
            go_round
            case rel => exact ⟨i + 1, by omega, by go_num, by rw [HS3.out]; go_num, by rw [HS3.out]⟩
            case measure => simp [intOf]; omega
        · obtain rfl : i = 10 := by omega
          have hb := HB.out
          generalize (lgN 10 (k, x0)).1 = b at *
          generalize (lgN 10 (k, x0)).2 = x at *
          clear hi hi10
          go_wp2
          go_ret
          exact ⟨by rw [HE.out]; rfl, rfl⟩
    · have hxe : Hid ((lgX v 30 : Nat) = v) := by
        show _ = _
        unfold lgX
        rw [if_pos (by omega)]; simp
      rw [hxe.out] at hX1 HX HE
      have hwr : wrap64 (v : Int) = (v : Int) := by unfold wrap64; omega
      go_wp2
      go_loop [3, 4, 21] (fun bv xv iv => ∃ i : Nat, i ≤ 10 ∧ iv = .int .i64 (i : Int) ∧ bv = .int .i64 (((lgN i (30, v)).1 : Nat) : Int) ∧ xv = .int .i64 (((lgN i (30, v)).2 : Nat) : Int)) (fun _ _ iv => 64 - (intOf iv).toNat)
      case atStart => exact ⟨0, by omega, rfl, rfl, rfl⟩
      case round =>
        obtain ⟨i, hi, rfl, rfl, rfl⟩ := hrel
        have HB := hidd (lgN_small i 30 v hi (by omega))
        have HI := hidd (lgN_in (s := (30, v)) HX.out i)
        by_cases hi10 : i < 10
        · have hiz : (i : Int) < 10 := by omega
          have HS : Hid (lgN (i + 1) (30, v) = lgS (lgN i (30, v))) := rfl
          generalize lgN i (30, v) = s at *
          obtain ⟨b, x⟩ := s
          have hb := HB.out
          obtain ⟨p, q, hp, hq, hp2, hq2, hs⟩ := lg_round b x HI.out
          have HS2 := hidd (HS.out.trans hs)
          have hx2 : x < 2147483648 := HI.out.2
          clear hs HS
          simp only at hb
          by_cases hge : 2147483648 ≤ q
          · have hgz : (2147483648 : Int) ≤ (q : Int) := by omega
            have HS3 : Hid (lgN (i + 1) (30, v) = (2 * b + 1, q / 2)) := by show _ = _; rw [HS2.out, if_pos hge]
            go_wp2
            go_round
            case rel => exact ⟨i + 1, by omega, by go_num, by rw [HS3.out]; go_num, by rw [HS3.out]; go_num⟩
            case measure => simp [intOf]; omega
          · have hgz : ¬ (2147483648 : Int) ≤ (q : Int) := by omega
            have HS3 : Hid (lgN (i + 1) (30, v) = (2 * b, q)) := by show _ = _; rw [HS2.out, if_neg hge]
            go_wp2
            go_round
            case rel => exact ⟨i + 1, by omega, by go_num, by rw [HS3.out]; go_num, by rw [HS3.out]⟩
            case measure => simp [intOf]; omega
        · obtain rfl : i = 10 := by omega
          have hb := HB.out
          generalize (lgN 10 (30, v)).1 = b at *
          generalize (lgN 10 (30, v)).2 = x at *
          clear hi hi10
          go_wp2
          go_ret
          exact ⟨by rw [HE.out]; rfl, rfl⟩
    · obtain ⟨d, hd⟩ : ∃ d : Nat, (k : Int) - 30 = (d : Int) := ⟨k - 30, by omega⟩
      have hd30 : d ≤ 31 := by omega
      have hd0 : 0 < d := by omega
      have hxe : Hid ((lgX v k : Nat) = v / 2 ^ d) := by
        show _ = _
        unfold lgX
        rw [if_neg (by omega)]
        have : k - 30 = d := by omega
        rw [this]
      have hxz : (v : Int) / 2 ^ d = ((lgX v k : Nat) : Int) := by rw [hxe.out, Int.natCast_ediv, Int.natCast_pow]; rfl
      generalize lgX v k = x0 at *
      have hwr : wrap64 (v : Int) = (v : Int) := by unfold wrap64; omega
      have hk30 : ¬ k < 30 := by omega
      go_wp2
      go_loop [3, 4, 21] (fun bv xv iv => ∃ i : Nat, i ≤ 10 ∧ iv = .int .i64 (i : Int) ∧ bv = .int .i64 (((lgN i (k, x0)).1 : Nat) : Int) ∧ xv = .int .i64 (((lgN i (k, x0)).2 : Nat) : Int)) (fun _ _ iv => 64 - (intOf iv).toNat)
      case atStart => exact ⟨0, by omega, rfl, rfl, rfl⟩
      case round =>
        obtain ⟨i, hi, rfl, rfl, rfl⟩ := hrel
        have HB := hidd (lgN_small i k x0 hi (by omega))
        have HI := hidd (lgN_in (s := (k, x0)) HX.out i)
        by_cases hi10 : i < 10
        · have hiz : (i : Int) < 10 := by omega
          have HS : Hid (lgN (i + 1) (k, x0) = lgS (lgN i (k, x0))) := rfl
          generalize lgN i (k, x0) = s at *
          obtain ⟨b, x⟩ := s
          have hb := HB.out
          obtain ⟨p, q, hp, hq, hp2, hq2, hs⟩ := lg_round b x HI.out
          have HS2 := hidd (HS.out.trans hs)
          have hx2 : x < 2147483648 := HI.out.2
          clear hs HS
          simp only at hb
          by_cases hge : 2147483648 ≤ q
          · have hgz : (2147483648 : Int) ≤ (q : Int) := by omega
            have HS3 : Hid (lgN (i + 1) (k, x0) = (2 * b + 1, q / 2)) := by show _ = _; rw [HS2.out, if_pos hge]
            go_wp2
            go_round
            case rel => exact ⟨i + 1, by omega, by go_num, by rw [HS3.out]; go_num, by rw [HS3.out]; go_num⟩
            case measure => simp [intOf]; omega
          · have hgz : ¬ (2147483648 : Int) ≤ (q : Int) := by omega
            have HS3 : Hid (lgN (i + 1) (k, x0) = (2 * b, q)) := by show _ = _; rw [HS2.out, if_neg hge]
            go_wp2
            go_round
            case rel => exact ⟨i + 1, by omega, by go_num, by rw [HS3.out]; go_num, by rw [HS3.out]⟩
            case measure => simp [intOf]; omega
        · obtain rfl : i = 10 := by omega
          have hb := HB.out
          generalize (lgN 10 (k, x0)).1 = b at *
          generalize (lgN 10 (k, x0)).2 = x at *
          clear hi hi10
          go_wp2
          go_ret
          exact ⟨by rw [HE.out]; rfl, rfl⟩
  · have HZ : Hid (log2Z z = 0) := by show _ = _; unfold log2Z logOK; rw [if_neg]; simpa using h1
    have HW : Hid ((decide (1 ≤ z) && decide (z ≤ 4611686018427387903)) = false) := by
      show _ = _
      rw [← Bool.decide_and]
      exact decide_eq_false h1
    rw [HZ.out]
    clear h1
    go_enter Tryd.func46, Tryd.ntmps46
    go_wp2_with fail
    refine (within_any _ _ _ _).mono ?_
    rintro e w1 ⟨rfl, rfl⟩
    rw [HW.out]
    go_wp2
    go_ret
    exact ⟨rfl, rfl⟩
end Go.Proofs.YtboocdiilbcdcaaDoor
