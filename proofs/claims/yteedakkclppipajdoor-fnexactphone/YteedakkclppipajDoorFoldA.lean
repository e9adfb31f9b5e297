import Derived.Test.YteedakkclppipajDoorProg
import Derived.Test.YteedakkclppipajDoorFoldP
import Derived.Test.YteedakkclppipajDoorAid
import Derived.WalkLawsBesides
namespace Go.Proofs.YteedakkclppipajDoor
open Go Go.RowKit
set_option linter.unusedVariables false

set_option maxHeartbeats 400000 in
theorem small_w0 (a : Int) (w : World) (u : a ≤ 64) : Calls Tryd.prog 40 #[.int .i64 a] w fun e w' => e = .returned (.int .i64 (smlZ a)) ∧ w' = w := by
  have HV : Hid (smlZ a = a) := by show _ = _; unfold smlZ; repeat (first | rw [if_pos (by omega)] | rw [if_neg (by omega)])
  have e215 : (a == 215) = false := beq_eq_false_iff_ne.2 (by omega)
  have e930 : (a == 930) = false := beq_eq_false_iff_ne.2 (by omega)
  go_enter Tryd.func40, Tryd.ntmps40
  go_wp2
  go_ret
  rw [HV.out]
  exact ⟨rfl, rfl⟩

set_option maxHeartbeats 400000 in
theorem small_w1 (a : Int) (w : World) (l : 65 ≤ a) (u : a ≤ 90) : Calls Tryd.prog 40 #[.int .i64 a] w fun e w' => e = .returned (.int .i64 (smlZ a)) ∧ w' = w := by
  have HV : Hid (smlZ a = a + 32) := by show _ = _; unfold smlZ; repeat (first | rw [if_pos (by omega)] | rw [if_neg (by omega)])
  have e215 : (a == 215) = false := beq_eq_false_iff_ne.2 (by omega)
  have e930 : (a == 930) = false := beq_eq_false_iff_ne.2 (by omega)
  go_enter Tryd.func40, Tryd.ntmps40
  go_wp2
  go_ret
  rw [HV.out]
  exact ⟨rfl, rfl⟩

set_option maxHeartbeats 400000 in
theorem small_w2 (a : Int) (w : World) (l : 91 ≤ a) (u : a ≤ 191) : Calls Tryd.prog 40 #[.int .i64 a] w fun e w' => e = .returned (.int .i64 (smlZ a)) ∧ w' = w := by
  have HV : Hid (smlZ a = a) := by show _ = _; unfold smlZ; repeat (first | rw [if_pos (by omega)] | rw [if_neg (by omega)])
  have e215 : (a == 215) = false := beq_eq_false_iff_ne.2 (by omega)
  have e930 : (a == 930) = false := beq_eq_false_iff_ne.2 (by omega)
  go_enter Tryd.func40, Tryd.ntmps40
  go_wp2
  go_ret
  rw [HV.out]
  exact ⟨rfl, rfl⟩

set_option maxHeartbeats 400000 in
theorem small_w3 (a : Int) (w : World) (l : 192 ≤ a) (u : a ≤ 214) : Calls Tryd.prog 40 #[.int .i64 a] w fun e w' => e = .returned (.int .i64 (smlZ a)) ∧ w' = w := by
  have HV : Hid (smlZ a = a + 32) := by show _ = _; unfold smlZ; repeat (first | rw [if_pos (by omega)] | rw [if_neg (by omega)])
  have e215 : (a == 215) = false := beq_eq_false_iff_ne.2 (by omega)
  have e930 : (a == 930) = false := beq_eq_false_iff_ne.2 (by omega)
  go_enter Tryd.func40, Tryd.ntmps40
  go_wp2
  go_ret
  rw [HV.out]
  exact ⟨rfl, rfl⟩

set_option maxHeartbeats 400000 in
theorem small_w4 (w : World) : Calls Tryd.prog 40 #[.int .i64 215] w fun e w' => e = .returned (.int .i64 (smlZ 215)) ∧ w' = w := by
  have HV : Hid (smlZ 215 = 215) := by show _ = _; decide
  go_enter Tryd.func40, Tryd.ntmps40
  go_wp2
  go_ret
  rw [HV.out]
  exact ⟨rfl, rfl⟩

set_option maxHeartbeats 400000 in
theorem small_w5 (a : Int) (w : World) (l : 216 ≤ a) (u : a ≤ 222) : Calls Tryd.prog 40 #[.int .i64 a] w fun e w' => e = .returned (.int .i64 (smlZ a)) ∧ w' = w := by
  have HV : Hid (smlZ a = a + 32) := by show _ = _; unfold smlZ; repeat (first | rw [if_pos (by omega)] | rw [if_neg (by omega)])
  have e215 : (a == 215) = false := beq_eq_false_iff_ne.2 (by omega)
  have e930 : (a == 930) = false := beq_eq_false_iff_ne.2 (by omega)
  go_enter Tryd.func40, Tryd.ntmps40
  go_wp2
  go_ret
  rw [HV.out]
  exact ⟨rfl, rfl⟩

set_option maxHeartbeats 400000 in
theorem small_w6 (a : Int) (w : World) (l : 223 ≤ a) (u : a ≤ 912) : Calls Tryd.prog 40 #[.int .i64 a] w fun e w' => e = .returned (.int .i64 (smlZ a)) ∧ w' = w := by
  have HV : Hid (smlZ a = a) := by show _ = _; unfold smlZ; repeat (first | rw [if_pos (by omega)] | rw [if_neg (by omega)])
  have e215 : (a == 215) = false := beq_eq_false_iff_ne.2 (by omega)
  have e930 : (a == 930) = false := beq_eq_false_iff_ne.2 (by omega)
  go_enter Tryd.func40, Tryd.ntmps40
  go_wp2
  go_ret
  rw [HV.out]
  exact ⟨rfl, rfl⟩

set_option maxHeartbeats 400000 in
theorem small_w7 (a : Int) (w : World) (l : 913 ≤ a) (u : a ≤ 929) : Calls Tryd.prog 40 #[.int .i64 a] w fun e w' => e = .returned (.int .i64 (smlZ a)) ∧ w' = w := by
  have HV : Hid (smlZ a = a + 32) := by show _ = _; unfold smlZ; repeat (first | rw [if_pos (by omega)] | rw [if_neg (by omega)])
  have e215 : (a == 215) = false := beq_eq_false_iff_ne.2 (by omega)
  have e930 : (a == 930) = false := beq_eq_false_iff_ne.2 (by omega)
  go_enter Tryd.func40, Tryd.ntmps40
  go_wp2
  go_ret
  rw [HV.out]
  exact ⟨rfl, rfl⟩

set_option maxHeartbeats 400000 in
theorem small_w8 (w : World) : Calls Tryd.prog 40 #[.int .i64 930] w fun e w' => e = .returned (.int .i64 (smlZ 930)) ∧ w' = w := by
  have HV : Hid (smlZ 930 = 930) := by show _ = _; decide
  go_enter Tryd.func40, Tryd.ntmps40
  go_wp2
  go_ret
  rw [HV.out]
  exact ⟨rfl, rfl⟩

set_option maxHeartbeats 400000 in
theorem small_w9 (a : Int) (w : World) (l : 931 ≤ a) (u : a ≤ 939) : Calls Tryd.prog 40 #[.int .i64 a] w fun e w' => e = .returned (.int .i64 (smlZ a)) ∧ w' = w := by
  have HV : Hid (smlZ a = a + 32) := by show _ = _; unfold smlZ; repeat (first | rw [if_pos (by omega)] | rw [if_neg (by omega)])
  have e215 : (a == 215) = false := beq_eq_false_iff_ne.2 (by omega)
  have e930 : (a == 930) = false := beq_eq_false_iff_ne.2 (by omega)
  go_enter Tryd.func40, Tryd.ntmps40
  go_wp2
  go_ret
  rw [HV.out]
  exact ⟨rfl, rfl⟩

set_option maxHeartbeats 400000 in
theorem small_w10 (a : Int) (w : World) (l : 940 ≤ a) (u : a ≤ 1023) : Calls Tryd.prog 40 #[.int .i64 a] w fun e w' => e = .returned (.int .i64 (smlZ a)) ∧ w' = w := by
  have HV : Hid (smlZ a = a) := by show _ = _; unfold smlZ; repeat (first | rw [if_pos (by omega)] | rw [if_neg (by omega)])
  have e215 : (a == 215) = false := beq_eq_false_iff_ne.2 (by omega)
  have e930 : (a == 930) = false := beq_eq_false_iff_ne.2 (by omega)
  go_enter Tryd.func40, Tryd.ntmps40
  go_wp2
  go_ret
  rw [HV.out]
  exact ⟨rfl, rfl⟩

set_option maxHeartbeats 400000 in
theorem small_w11 (a : Int) (w : World) (l : 1024 ≤ a) (u : a ≤ 1039) : Calls Tryd.prog 40 #[.int .i64 a] w fun e w' => e = .returned (.int .i64 (smlZ a)) ∧ w' = w := by
  have HV : Hid (smlZ a = a + 80) := by show _ = _; unfold smlZ; repeat (first | rw [if_pos (by omega)] | rw [if_neg (by omega)])
  have e215 : (a == 215) = false := beq_eq_false_iff_ne.2 (by omega)
  have e930 : (a == 930) = false := beq_eq_false_iff_ne.2 (by omega)
  go_enter Tryd.func40, Tryd.ntmps40
  go_wp2
  go_ret
  rw [HV.out]
  exact ⟨rfl, rfl⟩

set_option maxHeartbeats 400000 in
theorem small_w12 (a : Int) (w : World) (l : 1040 ≤ a) (u : a ≤ 1071) : Calls Tryd.prog 40 #[.int .i64 a] w fun e w' => e = .returned (.int .i64 (smlZ a)) ∧ w' = w := by
  have HV : Hid (smlZ a = a + 32) := by show _ = _; unfold smlZ; repeat (first | rw [if_pos (by omega)] | rw [if_neg (by omega)])
  have e215 : (a == 215) = false := beq_eq_false_iff_ne.2 (by omega)
  have e930 : (a == 930) = false := beq_eq_false_iff_ne.2 (by omega)
  go_enter Tryd.func40, Tryd.ntmps40
  go_wp2
  go_ret
  rw [HV.out]
  exact ⟨rfl, rfl⟩

set_option maxHeartbeats 400000 in
theorem small_w13 (a : Int) (w : World) (l : 1072 ≤ a) : Calls Tryd.prog 40 #[.int .i64 a] w fun e w' => e = .returned (.int .i64 (smlZ a)) ∧ w' = w := by
  have HV : Hid (smlZ a = a) := by show _ = _; unfold smlZ; repeat (first | rw [if_pos (by omega)] | rw [if_neg (by omega)])
  have e215 : (a == 215) = false := beq_eq_false_iff_ne.2 (by omega)
  have e930 : (a == 930) = false := beq_eq_false_iff_ne.2 (by omega)
  go_enter Tryd.func40, Tryd.ntmps40
  go_wp2
  go_ret
  rw [HV.out]
  exact ⟨rfl, rfl⟩

theorem small_any (a : Int) (w : World) : Calls Tryd.prog 40 #[.int .i64 a] w fun e w' => e = .returned (.int .i64 (smlZ a)) ∧ w' = w := by
  by_cases c0 : a < 65
  · exact small_w0 a w (by omega)
  by_cases c1 : a < 91
  · exact small_w1 a w (by omega) (by omega)
  by_cases c2 : a < 192
  · exact small_w2 a w (by omega) (by omega)
  by_cases c3 : a < 215
  · exact small_w3 a w (by omega) (by omega)
  by_cases c4 : a < 216
  · obtain rfl : a = 215 := by omega
    exact small_w4 w
  by_cases c5 : a < 223
  · exact small_w5 a w (by omega) (by omega)
  by_cases c6 : a < 913
  · exact small_w6 a w (by omega) (by omega)
  by_cases c7 : a < 930
  · exact small_w7 a w (by omega) (by omega)
  by_cases c8 : a < 931
  · obtain rfl : a = 930 := by omega
    exact small_w8 w
  by_cases c9 : a < 940
  · exact small_w9 a w (by omega) (by omega)
  by_cases c10 : a < 1024
  · exact small_w10 a w (by omega) (by omega)
  by_cases c11 : a < 1040
  · exact small_w11 a w (by omega) (by omega)
  by_cases c12 : a < 1072
  · exact small_w12 a w (by omega) (by omega)
  exact small_w13 a w (by omega)
end Go.Proofs.YteedakkclppipajDoor
