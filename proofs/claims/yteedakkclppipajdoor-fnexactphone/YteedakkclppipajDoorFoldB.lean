import Derived.Test.YteedakkclppipajDoorProg
import Derived.Test.YteedakkclppipajDoorFoldP
import Derived.Test.YteedakkclppipajDoorAid
import Derived.WalkLawsBesides
namespace Go.Proofs.YteedakkclppipajDoor
open Go Go.RowKit
set_option linter.unusedVariables false

set_option maxHeartbeats 400000 in
theorem accent_w0 (a : Int) (w : World) (u : a ≤ 223) : Calls Tryd.prog 39 #[.int .i64 a] w fun e w' => e = .returned (.int .i64 (accZ a)) ∧ w' = w := by
  have HV : Hid (accZ a = a) := by show _ = _; unfold accZ; repeat (first | rw [if_pos (by omega)] | rw [if_neg (by omega)])
  have e231 : (a == 231) = false := beq_eq_false_iff_ne.2 (by omega)
  have e241 : (a == 241) = false := beq_eq_false_iff_ne.2 (by omega)
  have e248 : (a == 248) = false := beq_eq_false_iff_ne.2 (by omega)
  have e253 : (a == 253) = false := beq_eq_false_iff_ne.2 (by omega)
  have e255 : (a == 255) = false := beq_eq_false_iff_ne.2 (by omega)
  go_enter Tryd.func39, Tryd.ntmps39
  go_wp2
  go_ret
  rw [HV.out]
  exact ⟨rfl, rfl⟩

set_option maxHeartbeats 400000 in
theorem accent_w1 (a : Int) (w : World) (l : 224 ≤ a) (u : a ≤ 229) : Calls Tryd.prog 39 #[.int .i64 a] w fun e w' => e = .returned (.int .i64 (accZ a)) ∧ w' = w := by
  have HV : Hid (accZ a = 97) := by show _ = _; unfold accZ; repeat (first | rw [if_pos (by omega)] | rw [if_neg (by omega)])
  have e231 : (a == 231) = false := beq_eq_false_iff_ne.2 (by omega)
  have e241 : (a == 241) = false := beq_eq_false_iff_ne.2 (by omega)
  have e248 : (a == 248) = false := beq_eq_false_iff_ne.2 (by omega)
  have e253 : (a == 253) = false := beq_eq_false_iff_ne.2 (by omega)
  have e255 : (a == 255) = false := beq_eq_false_iff_ne.2 (by omega)
  go_enter Tryd.func39, Tryd.ntmps39
  go_wp2
  go_ret
  rw [HV.out]
  exact ⟨rfl, rfl⟩

set_option maxHeartbeats 400000 in
theorem accent_w2 (w : World) : Calls Tryd.prog 39 #[.int .i64 230] w fun e w' => e = .returned (.int .i64 (accZ 230)) ∧ w' = w := by
  have HV : Hid (accZ 230 = 230) := by show _ = _; decide
  go_enter Tryd.func39, Tryd.ntmps39
  go_wp2
  go_ret
  rw [HV.out]
  exact ⟨rfl, rfl⟩

set_option maxHeartbeats 400000 in
theorem accent_w3 (w : World) : Calls Tryd.prog 39 #[.int .i64 231] w fun e w' => e = .returned (.int .i64 (accZ 231)) ∧ w' = w := by
  have HV : Hid (accZ 231 = 99) := by show _ = _; decide
  go_enter Tryd.func39, Tryd.ntmps39
  go_wp2
  go_ret
  rw [HV.out]
  exact ⟨rfl, rfl⟩

set_option maxHeartbeats 400000 in
theorem accent_w4 (a : Int) (w : World) (l : 232 ≤ a) (u : a ≤ 235) : Calls Tryd.prog 39 #[.int .i64 a] w fun e w' => e = .returned (.int .i64 (accZ a)) ∧ w' = w := by
  have HV : Hid (accZ a = 101) := by show _ = _; unfold accZ; repeat (first | rw [if_pos (by omega)] | rw [if_neg (by omega)])
  have e231 : (a == 231) = false := beq_eq_false_iff_ne.2 (by omega)
  have e241 : (a == 241) = false := beq_eq_false_iff_ne.2 (by omega)
  have e248 : (a == 248) = false := beq_eq_false_iff_ne.2 (by omega)
  have e253 : (a == 253) = false := beq_eq_false_iff_ne.2 (by omega)
  have e255 : (a == 255) = false := beq_eq_false_iff_ne.2 (by omega)
  go_enter Tryd.func39, Tryd.ntmps39
  go_wp2
  go_ret
  rw [HV.out]
  exact ⟨rfl, rfl⟩

set_option maxHeartbeats 400000 in
theorem accent_w5 (a : Int) (w : World) (l : 236 ≤ a) (u : a ≤ 239) : Calls Tryd.prog 39 #[.int .i64 a] w fun e w' => e = .returned (.int .i64 (accZ a)) ∧ w' = w := by
  have HV : Hid (accZ a = 105) := by show _ = _; unfold accZ; repeat (first | rw [if_pos (by omega)] | rw [if_neg (by omega)])
  have e231 : (a == 231) = false := beq_eq_false_iff_ne.2 (by omega)
  have e241 : (a == 241) = false := beq_eq_false_iff_ne.2 (by omega)
  have e248 : (a == 248) = false := beq_eq_false_iff_ne.2 (by omega)
  have e253 : (a == 253) = false := beq_eq_false_iff_ne.2 (by omega)
  have e255 : (a == 255) = false := beq_eq_false_iff_ne.2 (by omega)
  go_enter Tryd.func39, Tryd.ntmps39
  go_wp2
  go_ret
  rw [HV.out]
  exact ⟨rfl, rfl⟩

set_option maxHeartbeats 400000 in
theorem accent_w6 (w : World) : Calls Tryd.prog 39 #[.int .i64 240] w fun e w' => e = .returned (.int .i64 (accZ 240)) ∧ w' = w := by
  have HV : Hid (accZ 240 = 240) := by show _ = _; decide
  go_enter Tryd.func39, Tryd.ntmps39
  go_wp2
  go_ret
  rw [HV.out]
  exact ⟨rfl, rfl⟩

set_option maxHeartbeats 400000 in
theorem accent_w7 (w : World) : Calls Tryd.prog 39 #[.int .i64 241] w fun e w' => e = .returned (.int .i64 (accZ 241)) ∧ w' = w := by
  have HV : Hid (accZ 241 = 110) := by show _ = _; decide
  go_enter Tryd.func39, Tryd.ntmps39
  go_wp2
  go_ret
  rw [HV.out]
  exact ⟨rfl, rfl⟩

set_option maxHeartbeats 400000 in
theorem accent_w8 (a : Int) (w : World) (l : 242 ≤ a) (u : a ≤ 246) : Calls Tryd.prog 39 #[.int .i64 a] w fun e w' => e = .returned (.int .i64 (accZ a)) ∧ w' = w := by
  have HV : Hid (accZ a = 111) := by show _ = _; unfold accZ; repeat (first | rw [if_pos (by omega)] | rw [if_neg (by omega)])
  have e231 : (a == 231) = false := beq_eq_false_iff_ne.2 (by omega)
  have e241 : (a == 241) = false := beq_eq_false_iff_ne.2 (by omega)
  have e248 : (a == 248) = false := beq_eq_false_iff_ne.2 (by omega)
  have e253 : (a == 253) = false := beq_eq_false_iff_ne.2 (by omega)
  have e255 : (a == 255) = false := beq_eq_false_iff_ne.2 (by omega)
  go_enter Tryd.func39, Tryd.ntmps39
  go_wp2
  go_ret
  rw [HV.out]
  exact ⟨rfl, rfl⟩

set_option maxHeartbeats 400000 in
theorem accent_w9 (w : World) : Calls Tryd.prog 39 #[.int .i64 247] w fun e w' => e = .returned (.int .i64 (accZ 247)) ∧ w' = w := by
  have HV : Hid (accZ 247 = 247) := by show _ = _; decide
  go_enter Tryd.func39, Tryd.ntmps39
  go_wp2
  go_ret
  rw [HV.out]
  exact ⟨rfl, rfl⟩

set_option maxHeartbeats 400000 in
theorem accent_w10 (w : World) : Calls Tryd.prog 39 #[.int .i64 248] w fun e w' => e = .returned (.int .i64 (accZ 248)) ∧ w' = w := by
  have HV : Hid (accZ 248 = 111) := by show _ = _; decide
  go_enter Tryd.func39, Tryd.ntmps39
  go_wp2
  go_ret
  rw [HV.out]
  exact ⟨rfl, rfl⟩

set_option maxHeartbeats 400000 in
theorem accent_w11 (a : Int) (w : World) (l : 249 ≤ a) (u : a ≤ 252) : Calls Tryd.prog 39 #[.int .i64 a] w fun e w' => e = .returned (.int .i64 (accZ a)) ∧ w' = w := by
  have HV : Hid (accZ a = 117) := by show _ = _; unfold accZ; repeat (first | rw [if_pos (by omega)] | rw [if_neg (by omega)])
  have e231 : (a == 231) = false := beq_eq_false_iff_ne.2 (by omega)
  have e241 : (a == 241) = false := beq_eq_false_iff_ne.2 (by omega)
  have e248 : (a == 248) = false := beq_eq_false_iff_ne.2 (by omega)
  have e253 : (a == 253) = false := beq_eq_false_iff_ne.2 (by omega)
  have e255 : (a == 255) = false := beq_eq_false_iff_ne.2 (by omega)
  go_enter Tryd.func39, Tryd.ntmps39
  go_wp2
  go_ret
  rw [HV.out]
  exact ⟨rfl, rfl⟩

set_option maxHeartbeats 400000 in
theorem accent_w12 (w : World) : Calls Tryd.prog 39 #[.int .i64 253] w fun e w' => e = .returned (.int .i64 (accZ 253)) ∧ w' = w := by
  have HV : Hid (accZ 253 = 121) := by show _ = _; decide
  go_enter Tryd.func39, Tryd.ntmps39
  go_wp2
  go_ret
  rw [HV.out]
  exact ⟨rfl, rfl⟩

set_option maxHeartbeats 400000 in
theorem accent_w13 (w : World) : Calls Tryd.prog 39 #[.int .i64 254] w fun e w' => e = .returned (.int .i64 (accZ 254)) ∧ w' = w := by
  have HV : Hid (accZ 254 = 254) := by show _ = _; decide
  go_enter Tryd.func39, Tryd.ntmps39
  go_wp2
  go_ret
  rw [HV.out]
  exact ⟨rfl, rfl⟩

set_option maxHeartbeats 400000 in
theorem accent_w14 (w : World) : Calls Tryd.prog 39 #[.int .i64 255] w fun e w' => e = .returned (.int .i64 (accZ 255)) ∧ w' = w := by
  have HV : Hid (accZ 255 = 121) := by show _ = _; decide
  go_enter Tryd.func39, Tryd.ntmps39
  go_wp2
  go_ret
  rw [HV.out]
  exact ⟨rfl, rfl⟩

set_option maxHeartbeats 400000 in
theorem accent_w15 (a : Int) (w : World) (l : 256 ≤ a) : Calls Tryd.prog 39 #[.int .i64 a] w fun e w' => e = .returned (.int .i64 (accZ a)) ∧ w' = w := by
  have HV : Hid (accZ a = a) := by show _ = _; unfold accZ; repeat (first | rw [if_pos (by omega)] | rw [if_neg (by omega)])
  have e231 : (a == 231) = false := beq_eq_false_iff_ne.2 (by omega)
  have e241 : (a == 241) = false := beq_eq_false_iff_ne.2 (by omega)
  have e248 : (a == 248) = false := beq_eq_false_iff_ne.2 (by omega)
  have e253 : (a == 253) = false := beq_eq_false_iff_ne.2 (by omega)
  have e255 : (a == 255) = false := beq_eq_false_iff_ne.2 (by omega)
  go_enter Tryd.func39, Tryd.ntmps39
  go_wp2
  go_ret
  rw [HV.out]
  exact ⟨rfl, rfl⟩

theorem accent_any (a : Int) (w : World) : Calls Tryd.prog 39 #[.int .i64 a] w fun e w' => e = .returned (.int .i64 (accZ a)) ∧ w' = w := by
  by_cases c0 : a < 224
  · exact accent_w0 a w (by omega)
  by_cases c1 : a < 230
  · exact accent_w1 a w (by omega) (by omega)
  by_cases c2 : a < 231
  · obtain rfl : a = 230 := by omega
    exact accent_w2 w
  by_cases c3 : a < 232
  · obtain rfl : a = 231 := by omega
    exact accent_w3 w
  by_cases c4 : a < 236
  · exact accent_w4 a w (by omega) (by omega)
  by_cases c5 : a < 240
  · exact accent_w5 a w (by omega) (by omega)
  by_cases c6 : a < 241
  · obtain rfl : a = 240 := by omega
    exact accent_w6 w
  by_cases c7 : a < 242
  · obtain rfl : a = 241 := by omega
    exact accent_w7 w
  by_cases c8 : a < 247
  · exact accent_w8 a w (by omega) (by omega)
  by_cases c9 : a < 248
  · obtain rfl : a = 247 := by omega
    exact accent_w9 w
  by_cases c10 : a < 249
  · obtain rfl : a = 248 := by omega
    exact accent_w10 w
  by_cases c11 : a < 253
  · exact accent_w11 a w (by omega) (by omega)
  by_cases c12 : a < 254
  · obtain rfl : a = 253 := by omega
    exact accent_w12 w
  by_cases c13 : a < 255
  · obtain rfl : a = 254 := by omega
    exact accent_w13 w
  by_cases c14 : a < 256
  · obtain rfl : a = 255 := by omega
    exact accent_w14 w
  exact accent_w15 a w (by omega)
end Go.Proofs.YteedakkclppipajDoor
