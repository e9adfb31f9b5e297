import Derived.Test.YtboocdiilbcdcaaDoorLgP
import Derived.Test.YtboocdiilbcdcaaDoorAid
import Derived.Test.YtboocdiilbcdcaaDoorWithin
import Derived.Laws.ShiftsVar
namespace Go.Proofs.YtboocdiilbcdcaaDoor
open Go Go.RowKit
set_option linter.unusedVariables false

/-- One of the ten rounds, over whole numbers. -/
theorem lg_round (b x : Nat) (h : InX x) : ∃ p q : Nat, (x : Int) * (x : Int) = (p : Int) ∧ (p : Int) / 1073741824 = (q : Int) ∧ p < 4611686018427387904 ∧ q < 4294967296 ∧
    lgS (b, x) = (if 2147483648 ≤ q then (2 * b + 1, q / 2) else (2 * b, q)) := by
  have := sq_bounds h
  refine ⟨x * x, x * x / 1073741824, by simp, by omega, by omega, by omega, rfl⟩

set_option maxHeartbeats 2000000 in
set_option maxRecDepth 100000 in
theorem specLog2_any (z : Int) (w : World) :
    Calls Tryd.prog 32 #[.int .i64 z] w fun e w' => e = .returned (.int .i64 (log2Z z)) ∧ w' = w := by
  by_cases h1 : z < 1
  · have HZ : Hid (log2Z z = 0) := by show _ = _; unfold log2Z logOK; rw [if_neg]; simp; omega
    rw [HZ.out]
    go_enter Tryd.func32, Tryd.ntmps32
    go_wp2
    go_ret
    exact ⟨rfl, rfl⟩
  by_cases h2 : 4611686018427387903 < z
  · have HZ : Hid (log2Z z = 0) := by show _ = _; unfold log2Z logOK; rw [if_neg]; simp; omega
    rw [HZ.out]
    go_enter Tryd.func32, Tryd.ntmps32
    go_wp2
    go_ret
    exact ⟨rfl, rfl⟩
  obtain ⟨v, rfl⟩ : ∃ v : Nat, z = (v : Int) := ⟨z.toNat, by omega⟩
  have hv1 : 1 ≤ v := by omega
  have hv2 : v < 4611686018427387904 := by omega
  have HZ : Hid (log2Z (v : Int) = (log2L v : Int)) := by show _ = _; unfold log2Z logOK; rw [if_pos (by simp; omega)]; rfl
  rw [HZ.out]
  have HL := hidd (log2_le_iff v)
  have hk61 := log2_61 v hv2
  have Hb := hidd (log2_bounds v hv1)
  have HX := hidd (lgX_in v _ Hb.out.1 Hb.out.2)
  have HE : Hid (log2L v = 1024 * Nat.log2 v + (lgN 10 (0, lgX v (Nat.log2 v))).1) := rfl
  obtain ⟨K, hK⟩ : ∃ K, Nat.log2 v = K := ⟨_, rfl⟩
  rw [hK] at hk61 Hb HX HE HL
  clear hK
  go_enter Tryd.func32, Tryd.ntmps32
  go_wp2
  go_loop [3] (fun kv => ∃ k : Nat, k ≤ K ∧ kv = .int .i64 (k : Int)) (fun kv => 64 - (intOf kv).toNat)
  case atStart => exact ⟨0, by omega, rfl⟩
  case round =>
    obtain ⟨k, hk, rfl⟩ := hrel
    have hk62 : k < 62 := by omega
    obtain ⟨P, hP, HP⟩ : ∃ P : Nat, (2 : Int) ^ (k + 1) = (P : Int) ∧ Hid (2 ^ (k + 1) = P) := by
      refine ⟨2 ^ (k + 1), ?_, rfl⟩
      rw [Int.natCast_pow]; rfl
    have hP62 : P ≤ 4611686018427387904 := by
      have := Nat.pow_le_pow_right (n := 2) (by omega) (by omega : k + 1 ≤ 62)
      rw [HP.out] at this
      simpa using this
    have HPK : Hid (P ≤ v ↔ k + 1 ≤ K) := by
      have := HL.out (k + 1) hv1
      rw [HP.out] at this
      exact this
    by_cases hlt : k < K
    · have hPv : P ≤ v := HPK.out.2 hlt
      go_wp2
      go_round
      case rel => exact ⟨k + 1, by omega, by go_num⟩
      case measure => simp [intOf]; omega
    · have hPv : ¬ P ≤ v := fun h => by have := HPK.out.1 h; omega
      obtain rfl : k = K := by omega
      by_cases h30 : k ≤ 30
      · obtain ⟨d, hd⟩ : ∃ d : Nat, (30 : Int) - (k : Int) = (d : Int) := ⟨30 - k, by omega⟩
        have hd30 : d ≤ 30 := by omega
        have hxe : Hid ((lgX v k : Nat) = v * 2 ^ d) := by
          show _ = _
          unfold lgX
          rw [if_pos h30]
          have : 30 - k = d := by omega
          rw [this]
        have hxz : (v : Int) * 2 ^ d = ((lgX v k : Nat) : Int) := by rw [hxe.out, Int.natCast_mul, Int.natCast_pow]; rfl
        have hX1 : lgX v k < 2147483648 := HX.out.2
        generalize lgX v k = x0 at *
        go_wp2
        go_loop [5, 6, 7] (fun xv bv iv => ∃ i : Nat, i ≤ 10 ∧ iv = .int .i64 (i : Int) ∧ bv = .int .i64 (((lgN i (0, x0)).1 : Nat) : Int) ∧ xv = .int .i64 (((lgN i (0, x0)).2 : Nat) : Int)) (fun _ _ iv => 64 - (intOf iv).toNat)
        case atStart => exact ⟨0, by omega, rfl, rfl, rfl⟩
        case round =>
          obtain ⟨i, hi, rfl, rfl, rfl⟩ := hrel
          have HB := hidd (lgN_small i 0 x0 hi (by omega))
          have HI := hidd (lgN_in (s := (0, x0)) HX.out i)
          by_cases hi10 : i < 10
          · have hiz : (i : Int) < 10 := by omega
            have HS : Hid (lgN (i + 1) (0, x0) = lgS (lgN i (0, x0))) := rfl
            generalize lgN i (0, x0) = s at *
            obtain ⟨b, x⟩ := s
            have hb := HB.out
            obtain ⟨p, q, hp, hq, hp2, hq2, hs⟩ := lg_round b x HI.out
            have HS2 := hidd (HS.out.trans hs)
            have hx2 : x < 2147483648 := HI.out.2
            clear hs HS
            simp only at hb
            by_cases hge : 2147483648 ≤ q
            · have hgz : (2147483648 : Int) ≤ (q : Int) := by omega
              have HS3 : Hid (lgN (i + 1) (0, x0) = (2 * b + 1, q / 2)) := by show _ = _; rw [HS2.out, if_pos hge]
              go_wp2
              go_round
              case rel => exact ⟨i + 1, by omega, by go_num, by rw [HS3.out]; go_num, by rw [HS3.out]; go_num⟩
              case measure => simp [intOf]; omega
            · have hgz : ¬ (2147483648 : Int) ≤ (q : Int) := by omega
              have HS3 : Hid (lgN (i + 1) (0, x0) = (2 * b, q)) := by show _ = _; rw [HS2.out, if_neg hge]
              go_wp2
              go_round
              case rel => exact ⟨i + 1, by omega, by go_num, by rw [HS3.out]; go_num, by rw [HS3.out]⟩
              case measure => simp [intOf]; omega
          · obtain rfl : i = 10 := by omega
            have HE2 := hidd HE.out
            have hb := HB.out
            generalize (lgN 10 (0, x0)).1 = b at *
            generalize (lgN 10 (0, x0)).2 = x at *
            clear hi hi10
            go_wp2
            go_ret
            exact ⟨by rw [HE2.out]; go_num, rfl⟩
      · obtain ⟨d, hd⟩ : ∃ d : Nat, (k : Int) - 30 = (d : Int) := ⟨k - 30, by omega⟩
        have hd30 : d ≤ 31 := by omega
        have hxe : Hid ((lgX v k : Nat) = v / 2 ^ d) := by
          show _ = _
          unfold lgX
          rw [if_neg h30]
          have : k - 30 = d := by omega
          rw [this]
        have hxz : (v : Int) / 2 ^ d = ((lgX v k : Nat) : Int) := by rw [hxe.out, Int.natCast_ediv, Int.natCast_pow]; rfl
        have hX1 : lgX v k < 2147483648 := HX.out.2
        generalize lgX v k = x0 at *
        go_wp2
        go_loop [5, 6, 7] (fun xv bv iv => ∃ i : Nat, i ≤ 10 ∧ iv = .int .i64 (i : Int) ∧ bv = .int .i64 (((lgN i (0, x0)).1 : Nat) : Int) ∧ xv = .int .i64 (((lgN i (0, x0)).2 : Nat) : Int)) (fun _ _ iv => 64 - (intOf iv).toNat)
        case atStart => exact ⟨0, by omega, rfl, rfl, rfl⟩
        case round =>
          obtain ⟨i, hi, rfl, rfl, rfl⟩ := hrel
          have HB := hidd (lgN_small i 0 x0 hi (by omega))
          have HI := hidd (lgN_in (s := (0, x0)) HX.out i)
          by_cases hi10 : i < 10
          · have hiz : (i : Int) < 10 := by omega
            have HS : Hid (lgN (i + 1) (0, x0) = lgS (lgN i (0, x0))) := rfl
            generalize lgN i (0, x0) = s at *
            obtain ⟨b, x⟩ := s
            have hb := HB.out
            obtain ⟨p, q, hp, hq, hp2, hq2, hs⟩ := lg_round b x HI.out
            have HS2 := hidd (HS.out.trans hs)
            have hx2 : x < 2147483648 := HI.out.2
            clear hs HS
            simp only at hb
            by_cases hge : 2147483648 ≤ q
            · have hgz : (2147483648 : Int) ≤ (q : Int) := by omega
              have HS3 : Hid (lgN (i + 1) (0, x0) = (2 * b + 1, q / 2)) := by show _ = _; rw [HS2.out, if_pos hge]
              go_wp2
              go_round
              case rel => exact ⟨i + 1, by omega, by go_num, by rw [HS3.out]; go_num, by rw [HS3.out]; go_num⟩
              case measure => simp [intOf]; omega
            · have hgz : ¬ (2147483648 : Int) ≤ (q : Int) := by omega
              have HS3 : Hid (lgN (i + 1) (0, x0) = (2 * b, q)) := by show _ = _; rw [HS2.out, if_neg hge]
              go_wp2
              go_round
              case rel => exact ⟨i + 1, by omega, by go_num, by rw [HS3.out]; go_num, by rw [HS3.out]⟩
              case measure => simp [intOf]; omega
          · obtain rfl : i = 10 := by omega
            have HE2 := hidd HE.out
            have hb := HB.out
            generalize (lgN 10 (0, x0)).1 = b at *
            generalize (lgN 10 (0, x0)).2 = x at *
            clear hi hi10
            go_wp2
            go_ret
            exact ⟨by rw [HE2.out]; go_num, rfl⟩
end Go.Proofs.YtboocdiilbcdcaaDoor
