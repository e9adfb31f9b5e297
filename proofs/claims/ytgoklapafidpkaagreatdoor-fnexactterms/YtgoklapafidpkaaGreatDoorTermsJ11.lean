import Derived.Test.YtgoklapafidpkaaGreatDoorProg
import Derived.Test.YtgoklapafidpkaaGreatDoorTermsJ01
import Derived.Test.YtgoklapafidpkaaGreatDoorTermsJ00
import Derived.WalkLawsBesides
import Derived.Test.YtgoklapafidpkaaGreatDoorTermsJ04
import Derived.Test.YtgoklapafidpkaaGreatDoorTermsJ02
import Derived.Test.YtgoklapafidpkaaGreatDoorTermsJ05
import Derived.BigCall
import Derived.Test.YtgoklapafidpkaaGreatDoorTermsJ10
import Derived.Shelf.Abstract
namespace Go.Proofs.YtgoklapafidpkaaGreatDoor
open Go Go.RowKit
set_option linter.unusedVariables false

set_option maxHeartbeats 400000 in
theorem small_w0 (a : Int) (w : World) (u : a ≤ 64) : Calls Tryz.prog 210 #[.int .i64 a] w fun e w' => e = .returned (.int .i64 (smlZ a)) ∧ w' = w := by
  have HV : Hid (smlZ a = a) := by show _ = _; unfold smlZ; repeat (first | rw [if_pos (by omega)] | rw [if_neg (by omega)])
  have e215 : (a == 215) = false := beq_eq_false_iff_ne.2 (by omega)
  have e930 : (a == 930) = false := beq_eq_false_iff_ne.2 (by omega)
  go_enter Tryz.func210, Tryz.ntmps210
  go_wp2
  go_ret
  rw [HV.out]
  exact ⟨rfl, rfl⟩
set_option maxHeartbeats 400000 in
theorem small_w1 (a : Int) (w : World) (l : 65 ≤ a) (u : a ≤ 90) : Calls Tryz.prog 210 #[.int .i64 a] w fun e w' => e = .returned (.int .i64 (smlZ a)) ∧ w' = w := by
  have HV : Hid (smlZ a = a + 32) := by show _ = _; unfold smlZ; repeat (first | rw [if_pos (by omega)] | rw [if_neg (by omega)])
  have e215 : (a == 215) = false := beq_eq_false_iff_ne.2 (by omega)
  have e930 : (a == 930) = false := beq_eq_false_iff_ne.2 (by omega)
  go_enter Tryz.func210, Tryz.ntmps210
  go_wp2
  go_ret
  rw [HV.out]
  exact ⟨rfl, rfl⟩
set_option maxHeartbeats 400000 in
theorem small_w2 (a : Int) (w : World) (l : 91 ≤ a) (u : a ≤ 191) : Calls Tryz.prog 210 #[.int .i64 a] w fun e w' => e = .returned (.int .i64 (smlZ a)) ∧ w' = w := by
  have HV : Hid (smlZ a = a) := by show _ = _; unfold smlZ; repeat (first | rw [if_pos (by omega)] | rw [if_neg (by omega)])
  have e215 : (a == 215) = false := beq_eq_false_iff_ne.2 (by omega)
  have e930 : (a == 930) = false := beq_eq_false_iff_ne.2 (by omega)
  go_enter Tryz.func210, Tryz.ntmps210
  go_wp2
  go_ret
  rw [HV.out]
  exact ⟨rfl, rfl⟩
set_option maxHeartbeats 400000 in
theorem small_w3 (a : Int) (w : World) (l : 192 ≤ a) (u : a ≤ 214) : Calls Tryz.prog 210 #[.int .i64 a] w fun e w' => e = .returned (.int .i64 (smlZ a)) ∧ w' = w := by
  have HV : Hid (smlZ a = a + 32) := by show _ = _; unfold smlZ; repeat (first | rw [if_pos (by omega)] | rw [if_neg (by omega)])
  have e215 : (a == 215) = false := beq_eq_false_iff_ne.2 (by omega)
  have e930 : (a == 930) = false := beq_eq_false_iff_ne.2 (by omega)
  go_enter Tryz.func210, Tryz.ntmps210
  go_wp2
  go_ret
  rw [HV.out]
  exact ⟨rfl, rfl⟩
set_option maxHeartbeats 400000 in
theorem small_w4 (w : World) : Calls Tryz.prog 210 #[.int .i64 215] w fun e w' => e = .returned (.int .i64 (smlZ 215)) ∧ w' = w := by
  have HV : Hid (smlZ 215 = 215) := by show _ = _; decide
  go_enter Tryz.func210, Tryz.ntmps210
  go_wp2
  go_ret
  rw [HV.out]
  exact ⟨rfl, rfl⟩
set_option maxHeartbeats 400000 in
theorem small_w5 (a : Int) (w : World) (l : 216 ≤ a) (u : a ≤ 222) : Calls Tryz.prog 210 #[.int .i64 a] w fun e w' => e = .returned (.int .i64 (smlZ a)) ∧ w' = w := by
  have HV : Hid (smlZ a = a + 32) := by show _ = _; unfold smlZ; repeat (first | rw [if_pos (by omega)] | rw [if_neg (by omega)])
  have e215 : (a == 215) = false := beq_eq_false_iff_ne.2 (by omega)
  have e930 : (a == 930) = false := beq_eq_false_iff_ne.2 (by omega)
  go_enter Tryz.func210, Tryz.ntmps210
  go_wp2
  go_ret
  rw [HV.out]
  exact ⟨rfl, rfl⟩
set_option maxHeartbeats 400000 in
theorem small_w6 (a : Int) (w : World) (l : 223 ≤ a) (u : a ≤ 912) : Calls Tryz.prog 210 #[.int .i64 a] w fun e w' => e = .returned (.int .i64 (smlZ a)) ∧ w' = w := by
  have HV : Hid (smlZ a = a) := by show _ = _; unfold smlZ; repeat (first | rw [if_pos (by omega)] | rw [if_neg (by omega)])
  have e215 : (a == 215) = false := beq_eq_false_iff_ne.2 (by omega)
  have e930 : (a == 930) = false := beq_eq_false_iff_ne.2 (by omega)
  go_enter Tryz.func210, Tryz.ntmps210
  go_wp2
  go_ret
  rw [HV.out]
  exact ⟨rfl, rfl⟩
set_option maxHeartbeats 400000 in
theorem small_w7 (a : Int) (w : World) (l : 913 ≤ a) (u : a ≤ 929) : Calls Tryz.prog 210 #[.int .i64 a] w fun e w' => e = .returned (.int .i64 (smlZ a)) ∧ w' = w := by
  have HV : Hid (smlZ a = a + 32) := by show _ = _; unfold smlZ; repeat (first | rw [if_pos (by omega)] | rw [if_neg (by omega)])
  have e215 : (a == 215) = false := beq_eq_false_iff_ne.2 (by omega)
  have e930 : (a == 930) = false := beq_eq_false_iff_ne.2 (by omega)
  go_enter Tryz.func210, Tryz.ntmps210
  go_wp2
  go_ret
  rw [HV.out]
  exact ⟨rfl, rfl⟩
set_option maxHeartbeats 400000 in
theorem small_w8 (w : World) : Calls Tryz.prog 210 #[.int .i64 930] w fun e w' => e = .returned (.int .i64 (smlZ 930)) ∧ w' = w := by
  have HV : Hid (smlZ 930 = 930) := by show _ = _; decide
  go_enter Tryz.func210, Tryz.ntmps210
  go_wp2
  go_ret
  rw [HV.out]
  exact ⟨rfl, rfl⟩
set_option maxHeartbeats 400000 in
theorem small_w9 (a : Int) (w : World) (l : 931 ≤ a) (u : a ≤ 939) : Calls Tryz.prog 210 #[.int .i64 a] w fun e w' => e = .returned (.int .i64 (smlZ a)) ∧ w' = w := by
  have HV : Hid (smlZ a = a + 32) := by show _ = _; unfold smlZ; repeat (first | rw [if_pos (by omega)] | rw [if_neg (by omega)])
  have e215 : (a == 215) = false := beq_eq_false_iff_ne.2 (by omega)
  have e930 : (a == 930) = false := beq_eq_false_iff_ne.2 (by omega)
  go_enter Tryz.func210, Tryz.ntmps210
  go_wp2
  go_ret
  rw [HV.out]
  exact ⟨rfl, rfl⟩
set_option maxHeartbeats 400000 in
theorem small_w10 (a : Int) (w : World) (l : 940 ≤ a) (u : a ≤ 1023) : Calls Tryz.prog 210 #[.int .i64 a] w fun e w' => e = .returned (.int .i64 (smlZ a)) ∧ w' = w := by
  have HV : Hid (smlZ a = a) := by show _ = _; unfold smlZ; repeat (first | rw [if_pos (by omega)] | rw [if_neg (by omega)])
  have e215 : (a == 215) = false := beq_eq_false_iff_ne.2 (by omega)
  have e930 : (a == 930) = false := beq_eq_false_iff_ne.2 (by omega)
  go_enter Tryz.func210, Tryz.ntmps210
  go_wp2
  go_ret
  rw [HV.out]
  exact ⟨rfl, rfl⟩
set_option maxHeartbeats 400000 in
theorem small_w11 (a : Int) (w : World) (l : 1024 ≤ a) (u : a ≤ 1039) : Calls Tryz.prog 210 #[.int .i64 a] w fun e w' => e = .returned (.int .i64 (smlZ a)) ∧ w' = w := by
  have HV : Hid (smlZ a = a + 80) := by show _ = _; unfold smlZ; repeat (first | rw [if_pos (by omega)] | rw [if_neg (by omega)])
  have e215 : (a == 215) = false := beq_eq_false_iff_ne.2 (by omega)
  have e930 : (a == 930) = false := beq_eq_false_iff_ne.2 (by omega)
  go_enter Tryz.func210, Tryz.ntmps210
  go_wp2
  go_ret
  rw [HV.out]
  exact ⟨rfl, rfl⟩
set_option maxHeartbeats 400000 in
theorem small_w12 (a : Int) (w : World) (l : 1040 ≤ a) (u : a ≤ 1071) : Calls Tryz.prog 210 #[.int .i64 a] w fun e w' => e = .returned (.int .i64 (smlZ a)) ∧ w' = w := by
  have HV : Hid (smlZ a = a + 32) := by show _ = _; unfold smlZ; repeat (first | rw [if_pos (by omega)] | rw [if_neg (by omega)])
  have e215 : (a == 215) = false := beq_eq_false_iff_ne.2 (by omega)
  have e930 : (a == 930) = false := beq_eq_false_iff_ne.2 (by omega)
  go_enter Tryz.func210, Tryz.ntmps210
  go_wp2
  go_ret
  rw [HV.out]
  exact ⟨rfl, rfl⟩
set_option maxHeartbeats 400000 in
theorem small_w13 (a : Int) (w : World) (l : 1072 ≤ a) : Calls Tryz.prog 210 #[.int .i64 a] w fun e w' => e = .returned (.int .i64 (smlZ a)) ∧ w' = w := by
  have HV : Hid (smlZ a = a) := by show _ = _; unfold smlZ; repeat (first | rw [if_pos (by omega)] | rw [if_neg (by omega)])
  have e215 : (a == 215) = false := beq_eq_false_iff_ne.2 (by omega)
  have e930 : (a == 930) = false := beq_eq_false_iff_ne.2 (by omega)
  go_enter Tryz.func210, Tryz.ntmps210
  go_wp2
  go_ret
  rw [HV.out]
  exact ⟨rfl, rfl⟩
theorem small_any (a : Int) (w : World) : Calls Tryz.prog 210 #[.int .i64 a] w fun e w' => e = .returned (.int .i64 (smlZ a)) ∧ w' = w := by
  by_cases c0 : a < 65
  · exact small_w0 a w (by omega)
  by_cases c1 : a < 91
  · exact small_w1 a w (by omega) (by omega)
  by_cases c2 : a < 192
  · exact small_w2 a w (by omega) (by omega)
  by_cases c3 : a < 215
  · exact small_w3 a w (by omega) (by omega)
  by_cases c4 : a < 216
  · obtain rfl : a = 215 := by omega
    exact small_w4 w
  by_cases c5 : a < 223
  · exact small_w5 a w (by omega) (by omega)
  by_cases c6 : a < 913
  · exact small_w6 a w (by omega) (by omega)
  by_cases c7 : a < 930
  · exact small_w7 a w (by omega) (by omega)
  by_cases c8 : a < 931
  · obtain rfl : a = 930 := by omega
    exact small_w8 w
  by_cases c9 : a < 940
  · exact small_w9 a w (by omega) (by omega)
  by_cases c10 : a < 1024
  · exact small_w10 a w (by omega) (by omega)
  by_cases c11 : a < 1040
  · exact small_w11 a w (by omega) (by omega)
  by_cases c12 : a < 1072
  · exact small_w12 a w (by omega) (by omega)
  exact small_w13 a w (by omega)
end Go.Proofs.YtgoklapafidpkaaGreatDoor

namespace Go.Proofs.YtgoklapafidpkaaGreatDoor
open Go Go.RowKit
set_option linter.unusedVariables false

set_option maxHeartbeats 400000 in
theorem accent_w0 (a : Int) (w : World) (u : a ≤ 223) : Calls Tryz.prog 209 #[.int .i64 a] w fun e w' => e = .returned (.int .i64 (accZ a)) ∧ w' = w := by
  have HV : Hid (accZ a = a) := by show _ = _; unfold accZ; repeat (first | rw [if_pos (by omega)] | rw [if_neg (by omega)])
  have e231 : (a == 231) = false := beq_eq_false_iff_ne.2 (by omega)
  have e241 : (a == 241) = false := beq_eq_false_iff_ne.2 (by omega)
  have e248 : (a == 248) = false := beq_eq_false_iff_ne.2 (by omega)
  have e253 : (a == 253) = false := beq_eq_false_iff_ne.2 (by omega)
  have e255 : (a == 255) = false := beq_eq_false_iff_ne.2 (by omega)
  go_enter Tryz.func209, Tryz.ntmps209
  go_wp2
  go_ret
  rw [HV.out]
  exact ⟨rfl, rfl⟩
set_option maxHeartbeats 400000 in
theorem accent_w1 (a : Int) (w : World) (l : 224 ≤ a) (u : a ≤ 229) : Calls Tryz.prog 209 #[.int .i64 a] w fun e w' => e = .returned (.int .i64 (accZ a)) ∧ w' = w := by
  have HV : Hid (accZ a = 97) := by show _ = _; unfold accZ; repeat (first | rw [if_pos (by omega)] | rw [if_neg (by omega)])
  have e231 : (a == 231) = false := beq_eq_false_iff_ne.2 (by omega)
  have e241 : (a == 241) = false := beq_eq_false_iff_ne.2 (by omega)
  have e248 : (a == 248) = false := beq_eq_false_iff_ne.2 (by omega)
  have e253 : (a == 253) = false := beq_eq_false_iff_ne.2 (by omega)
  have e255 : (a == 255) = false := beq_eq_false_iff_ne.2 (by omega)
  go_enter Tryz.func209, Tryz.ntmps209
  go_wp2
  go_ret
  rw [HV.out]
  exact ⟨rfl, rfl⟩
set_option maxHeartbeats 400000 in
theorem accent_w2 (w : World) : Calls Tryz.prog 209 #[.int .i64 230] w fun e w' => e = .returned (.int .i64 (accZ 230)) ∧ w' = w := by
  have HV : Hid (accZ 230 = 230) := by show _ = _; decide
  go_enter Tryz.func209, Tryz.ntmps209
  go_wp2
  go_ret
  rw [HV.out]
  exact ⟨rfl, rfl⟩
set_option maxHeartbeats 400000 in
theorem accent_w3 (w : World) : Calls Tryz.prog 209 #[.int .i64 231] w fun e w' => e = .returned (.int .i64 (accZ 231)) ∧ w' = w := by
  have HV : Hid (accZ 231 = 99) := by show _ = _; decide
  go_enter Tryz.func209, Tryz.ntmps209
  go_wp2
  go_ret
  rw [HV.out]
  exact ⟨rfl, rfl⟩
set_option maxHeartbeats 400000 in
theorem accent_w4 (a : Int) (w : World) (l : 232 ≤ a) (u : a ≤ 235) : Calls Tryz.prog 209 #[.int .i64 a] w fun e w' => e = .returned (.int .i64 (accZ a)) ∧ w' = w := by
  have HV : Hid (accZ a = 101) := by show _ = _; unfold accZ; repeat (first | rw [if_pos (by omega)] | rw [if_neg (by omega)])
  have e231 : (a == 231) = false := beq_eq_false_iff_ne.2 (by omega)
  have e241 : (a == 241) = false := beq_eq_false_iff_ne.2 (by omega)
  have e248 : (a == 248) = false := beq_eq_false_iff_ne.2 (by omega)
  have e253 : (a == 253) = false := beq_eq_false_iff_ne.2 (by omega)
  have e255 : (a == 255) = false := beq_eq_false_iff_ne.2 (by omega)
  go_enter Tryz.func209, Tryz.ntmps209
  go_wp2
  go_ret
  rw [HV.out]
  exact ⟨rfl, rfl⟩
set_option maxHeartbeats 400000 in
theorem accent_w5 (a : Int) (w : World) (l : 236 ≤ a) (u : a ≤ 239) : Calls Tryz.prog 209 #[.int .i64 a] w fun e w' => e = .returned (.int .i64 (accZ a)) ∧ w' = w := by
  have HV : Hid (accZ a = 105) := by show _ = _; unfold accZ; repeat (first | rw [if_pos (by omega)] | rw [if_neg (by omega)])
  have e231 : (a == 231) = false := beq_eq_false_iff_ne.2 (by omega)
  have e241 : (a == 241) = false := beq_eq_false_iff_ne.2 (by omega)
  have e248 : (a == 248) = false := beq_eq_false_iff_ne.2 (by omega)
  have e253 : (a == 253) = false := beq_eq_false_iff_ne.2 (by omega)
  have e255 : (a == 255) = false := beq_eq_false_iff_ne.2 (by omega)
  go_enter Tryz.func209, Tryz.ntmps209
  go_wp2
  go_ret
  rw [HV.out]
  exact ⟨rfl, rfl⟩
set_option maxHeartbeats 400000 in
theorem accent_w6 (w : World) : Calls Tryz.prog 209 #[.int .i64 240] w fun e w' => e = .returned (.int .i64 (accZ 240)) ∧ w' = w := by
  have HV : Hid (accZ 240 = 240) := by show _ = _; decide
  go_enter Tryz.func209, Tryz.ntmps209
  go_wp2
  go_ret
  rw [HV.out]
  exact ⟨rfl, rfl⟩
set_option maxHeartbeats 400000 in
theorem accent_w7 (w : World) : Calls Tryz.prog 209 #[.int .i64 241] w fun e w' => e = .returned (.int .i64 (accZ 241)) ∧ w' = w := by
  have HV : Hid (accZ 241 = 110) := by show _ = _; decide
  go_enter Tryz.func209, Tryz.ntmps209
  go_wp2
  go_ret
  rw [HV.out]
  exact ⟨rfl, rfl⟩
set_option maxHeartbeats 400000 in
theorem accent_w8 (a : Int) (w : World) (l : 242 ≤ a) (u : a ≤ 246) : Calls Tryz.prog 209 #[.int .i64 a] w fun e w' => e = .returned (.int .i64 (accZ a)) ∧ w' = w := by
  have HV : Hid (accZ a = 111) := by show _ = _; unfold accZ; repeat (first | rw [if_pos (by omega)] | rw [if_neg (by omega)])
  have e231 : (a == 231) = false := beq_eq_false_iff_ne.2 (by omega)
  have e241 : (a == 241) = false := beq_eq_false_iff_ne.2 (by omega)
  have e248 : (a == 248) = false := beq_eq_false_iff_ne.2 (by omega)
  have e253 : (a == 253) = false := beq_eq_false_iff_ne.2 (by omega)
  have e255 : (a == 255) = false := beq_eq_false_iff_ne.2 (by omega)
  go_enter Tryz.func209, Tryz.ntmps209
  go_wp2
  go_ret
  rw [HV.out]
  exact ⟨rfl, rfl⟩
set_option maxHeartbeats 400000 in
theorem accent_w9 (w : World) : Calls Tryz.prog 209 #[.int .i64 247] w fun e w' => e = .returned (.int .i64 (accZ 247)) ∧ w' = w := by
  have HV : Hid (accZ 247 = 247) := by show _ = _; decide
  go_enter Tryz.func209, Tryz.ntmps209
  go_wp2
  go_ret
  rw [HV.out]
  exact ⟨rfl, rfl⟩
set_option maxHeartbeats 400000 in
theorem accent_w10 (w : World) : Calls Tryz.prog 209 #[.int .i64 248] w fun e w' => e = .returned (.int .i64 (accZ 248)) ∧ w' = w := by
  have HV : Hid (accZ 248 = 111) := by show _ = _; decide
  go_enter Tryz.func209, Tryz.ntmps209
  go_wp2
  go_ret
  rw [HV.out]
  exact ⟨rfl, rfl⟩
set_option maxHeartbeats 400000 in
theorem accent_w11 (a : Int) (w : World) (l : 249 ≤ a) (u : a ≤ 252) : Calls Tryz.prog 209 #[.int .i64 a] w fun e w' => e = .returned (.int .i64 (accZ a)) ∧ w' = w := by
  have HV : Hid (accZ a = 117) := by show _ = _; unfold accZ; repeat (first | rw [if_pos (by omega)] | rw [if_neg (by omega)])
  have e231 : (a == 231) = false := beq_eq_false_iff_ne.2 (by omega)
  have e241 : (a == 241) = false := beq_eq_false_iff_ne.2 (by omega)
  have e248 : (a == 248) = false := beq_eq_false_iff_ne.2 (by omega)
  have e253 : (a == 253) = false := beq_eq_false_iff_ne.2 (by omega)
  have e255 : (a == 255) = false := beq_eq_false_iff_ne.2 (by omega)
  go_enter Tryz.func209, Tryz.ntmps209
  go_wp2
  go_ret
  rw [HV.out]
  exact ⟨rfl, rfl⟩
set_option maxHeartbeats 400000 in
theorem accent_w12 (w : World) : Calls Tryz.prog 209 #[.int .i64 253] w fun e w' => e = .returned (.int .i64 (accZ 253)) ∧ w' = w := by
  have HV : Hid (accZ 253 = 121) := by show _ = _; decide
  go_enter Tryz.func209, Tryz.ntmps209
  go_wp2
  go_ret
  rw [HV.out]
  exact ⟨rfl, rfl⟩
set_option maxHeartbeats 400000 in
theorem accent_w13 (w : World) : Calls Tryz.prog 209 #[.int .i64 254] w fun e w' => e = .returned (.int .i64 (accZ 254)) ∧ w' = w := by
  have HV : Hid (accZ 254 = 254) := by show _ = _; decide
  go_enter Tryz.func209, Tryz.ntmps209
  go_wp2
  go_ret
  rw [HV.out]
  exact ⟨rfl, rfl⟩
set_option maxHeartbeats 400000 in
theorem accent_w14 (w : World) : Calls Tryz.prog 209 #[.int .i64 255] w fun e w' => e = .returned (.int .i64 (accZ 255)) ∧ w' = w := by
  have HV : Hid (accZ 255 = 121) := by show _ = _; decide
  go_enter Tryz.func209, Tryz.ntmps209
  go_wp2
  go_ret
  rw [HV.out]
  exact ⟨rfl, rfl⟩
set_option maxHeartbeats 400000 in
theorem accent_w15 (a : Int) (w : World) (l : 256 ≤ a) : Calls Tryz.prog 209 #[.int .i64 a] w fun e w' => e = .returned (.int .i64 (accZ a)) ∧ w' = w := by
  have HV : Hid (accZ a = a) := by show _ = _; unfold accZ; repeat (first | rw [if_pos (by omega)] | rw [if_neg (by omega)])
  have e231 : (a == 231) = false := beq_eq_false_iff_ne.2 (by omega)
  have e241 : (a == 241) = false := beq_eq_false_iff_ne.2 (by omega)
  have e248 : (a == 248) = false := beq_eq_false_iff_ne.2 (by omega)
  have e253 : (a == 253) = false := beq_eq_false_iff_ne.2 (by omega)
  have e255 : (a == 255) = false := beq_eq_false_iff_ne.2 (by omega)
  go_enter Tryz.func209, Tryz.ntmps209
  go_wp2
  go_ret
  rw [HV.out]
  exact ⟨rfl, rfl⟩
theorem accent_any (a : Int) (w : World) : Calls Tryz.prog 209 #[.int .i64 a] w fun e w' => e = .returned (.int .i64 (accZ a)) ∧ w' = w := by
  by_cases c0 : a < 224
  · exact accent_w0 a w (by omega)
  by_cases c1 : a < 230
  · exact accent_w1 a w (by omega) (by omega)
  by_cases c2 : a < 231
  · obtain rfl : a = 230 := by omega
    exact accent_w2 w
  by_cases c3 : a < 232
  · obtain rfl : a = 231 := by omega
    exact accent_w3 w
  by_cases c4 : a < 236
  · exact accent_w4 a w (by omega) (by omega)
  by_cases c5 : a < 240
  · exact accent_w5 a w (by omega) (by omega)
  by_cases c6 : a < 241
  · obtain rfl : a = 240 := by omega
    exact accent_w6 w
  by_cases c7 : a < 242
  · obtain rfl : a = 241 := by omega
    exact accent_w7 w
  by_cases c8 : a < 247
  · exact accent_w8 a w (by omega) (by omega)
  by_cases c9 : a < 248
  · obtain rfl : a = 247 := by omega
    exact accent_w9 w
  by_cases c10 : a < 249
  · obtain rfl : a = 248 := by omega
    exact accent_w10 w
  by_cases c11 : a < 253
  · exact accent_w11 a w (by omega) (by omega)
  by_cases c12 : a < 254
  · obtain rfl : a = 253 := by omega
    exact accent_w12 w
  by_cases c13 : a < 255
  · obtain rfl : a = 254 := by omega
    exact accent_w13 w
  by_cases c14 : a < 256
  · obtain rfl : a = 255 := by omega
    exact accent_w14 w
  exact accent_w15 a w (by omega)
end Go.Proofs.YtgoklapafidpkaaGreatDoor

namespace Go.Proofs.YtgoklapafidpkaaGreatDoor
open Go Go.RowKit
set_option maxHeartbeats 400000 in
theorem implFold_any (a : Int) (w : World) : Calls Tryz.prog 194 #[.int .i64 a] w fun e w' => e = .returned (.int .i64 (foldZ a)) ∧ w' = w := by
  unfold foldZ
  go_enter Tryz.func194, Tryz.ntmps194
  go_wp2_with fail
  refine (small_any _ _).mono ?_
  rintro e w1 ⟨rfl, rfl⟩
  go_wp2_with fail
  refine (accent_any _ _).mono ?_
  rintro e w1 ⟨rfl, rfl⟩
  go_wp2
  go_ret
  exact ⟨rfl, rfl⟩
end Go.Proofs.YtgoklapafidpkaaGreatDoor

namespace Go.Proofs
open Go.Shelf
def Tryz.lays168_ren : Go.Shelf.Ren := ⟨fun | 168 => 193 | 240 => 206 | 242 => 208 | 276 => 214 | 278 => 216 | n => n, fun | 0 => 0 | 3 => 3 | 4 => 4 | 5 => 5 | 9 => 9 | 20 => 20 | 21 => 21 | 37 => 50 | 46 => 145 | 51 => 239 | 70 => 224 | 72 => 226 | 75 => 193 | 80 => 170 | 164 => 237 | n => n, fun | n => n⟩
theorem Tryz.lays168 : Go.Proofs.Lays.n168 Tryz.prog Tryz.lays168_ren := {
  mixed := by kernel_rfl
  f168 := Tryz.func193.trans (congrArg some (by kernel_rfl))
  f240 := Tryz.func206.trans (congrArg some (by kernel_rfl))
  f242 := Tryz.func208.trans (congrArg some (by kernel_rfl))
  f276 := Tryz.func214.trans (congrArg some (by kernel_rfl))
  f278 := Tryz.func216.trans (congrArg some (by kernel_rfl))
  t0 := Tryz.underlying0
  a0 := Tryz.isAgg0
  z0 := Tryz.sizeOf0
  v0 := Tryz.zeroValue0
  t3 := Tryz.underlying3
  a3 := Tryz.isAgg3
  z3 := Tryz.sizeOf3
  v3 := Tryz.zeroValue3
  t4 := Tryz.underlying4
  a4 := Tryz.isAgg4
  z4 := Tryz.sizeOf4
  v4 := Tryz.zeroValue4
  t5 := Tryz.underlying5
  a5 := Tryz.isAgg5
  z5 := Tryz.sizeOf5
  v5 := Tryz.zeroValue5
  t9 := Tryz.underlying9
  a9 := Tryz.isAgg9
  z9 := Tryz.sizeOf9
  v9 := Tryz.zeroValue9
  t20 := Tryz.underlying20
  a20 := Tryz.isAgg20
  z20 := Tryz.sizeOf20
  v20 := Tryz.zeroValue20
  t21 := Tryz.underlying21
  a21 := Tryz.isAgg21
  z21 := Tryz.sizeOf21
  v21 := Tryz.zeroValue21
  t37 := Tryz.underlying50
  a37 := Tryz.isAgg50
  z37 := Tryz.sizeOf50
  v37 := Tryz.zeroValue50
  t46 := Tryz.underlying145
  a46 := Tryz.isAgg145
  z46 := Tryz.sizeOf145
  v46 := Tryz.zeroValue145
  t51 := Tryz.underlying239
  a51 := Tryz.isAgg239
  z51 := Tryz.sizeOf239
  v51 := Tryz.zeroValue239
  t70 := Tryz.underlying224
  a70 := Tryz.isAgg224
  z70 := Tryz.sizeOf224
  v70 := Tryz.zeroValue224
  t72 := Tryz.underlying226
  a72 := Tryz.isAgg226
  z72 := Tryz.sizeOf226
  v72 := Tryz.zeroValue226
  t75 := Tryz.underlying193
  a75 := Tryz.isAgg193
  z75 := Tryz.sizeOf193
  v75 := Tryz.zeroValue193
  t164 := Tryz.underlying237
  a164 := Tryz.isAgg237
  z164 := Tryz.sizeOf237
  v164 := Tryz.zeroValue237 }
theorem Tryz.Builder_Extra_168 : Builder.Extra Tryz.prog Tryz.lays168_ren := {
  sizeBuilder := by kernel_rfl
  liesBuilder := by kernel_rfl
  t5 := Tryz.underlying5
  a5 := Tryz.isAgg5
  z5 := Tryz.sizeOf5
  v5 := Tryz.zeroValue5
  infoByte := by kernel_rfl
  cellsByte := by kernel_rfl
  sizeByte := by kernel_rfl
  neB5 := by decide }
theorem Tryz.Builder_WriteRune_k (B b : Nat) (bs : List Value) (r : Int) (hr0 : -2147483648 ≤ r) (hr1 : r ≤ 2147483647) (w : World) (h : Lib.IsBuilderF 226 5 B b bs w) (hlen : bs.length + 4 ≤ 140737488355328) (hBw : B ≤ w.heap.size) :
    Calls Tryz.prog 193 #[.pointer (some ⟨b, 0, none⟩), .int .i32 r] w fun e w' => e = .returned (.tuple #[.int .i64 (Lib.runeCells r).length, .nilIface]) ∧ (Lib.BuilderAtF 226 5 B b (.pointer (some ⟨b, 0, none⟩)) (bs ++ Lib.runeCells r) w' ∧ Go.RowKit.Below B w w' ∧ Lib.OthersKept 5 (some b) w w') :=
  Any.Builder_WriteRune_k Tryz.lays168 Tryz.Builder_Extra_168 B b bs r hr0 hr1 w h hlen hBw
end Go.Proofs

namespace Go.Proofs.YtgoklapafidpkaaGreatDoor
open Go Go.RowKit
set_option linter.unusedVariables false

set_option maxHeartbeats 4000000 in
set_option maxRecDepth 1000000 in
theorem implFoldText_any (s : ByteArray) (w : World) (hs : s.size ≤ 1048576) (hT : Tabs w) :
    Calls Tryz.prog 183 #[.string s] w fun e w' => e = .returned (.tuple #[.string ⟨(foldText s).toArray⟩, .int .i64 (decCode s)]) ∧ Below w.heap.size w w' := by
  have HT := hidd hT
  clear hT
  by_cases hc : decCode s = 0
  · have HD := hidd (dec_ok s hc)
    have hsz := (dec_ok s hc).2
    have HC := hidd hc
    have HX : Hid (foldText s = encs ((runes s).map foldZ)) := by show _ = _; rw [foldText, if_pos hc]; rfl
    clear hc
    go_enter Tryz.func183, Tryz.ntmps183
    go_wp2_with fail
    refine (textCode_any s _ hs HT.out).mono ?_
    rintro e w1 ⟨rfl, hb1⟩
    rw [HC.out]
    go_wp2_with fail
    have hz1 := hb1.size
    refine (Tryz.Builder_Grow_fresh w1.heap.size w1.heap.size s.size _ (Nat.le_refl _) (by exact heap_alloc_new _ _) (by simp) (by omega)).mono ?_
    rintro e w2 ⟨rfl, hB2, hb2⟩
    have hbel2 : Below w.heap.size w w2 := (hb1.alloc hb1.size _).trans (hb2.mono hz1)
    have hI2 : Lib.IsBuilderF 226 5 w1.heap.size w1.heap.size [] w2 := Lib.IsBuilderF.of (Or.inr hB2)
    have hz2 : w1.heap.size < w2.heap.size := hB2.lt
    clear hB2 hb2 hb1
    generalize w1.heap.size = B at *
    have hit0 := hidd (World.iter_heap w2 s 0)
    have hb3 : Below w.heap.size w (w2.iter s 0) := hbel2.alloc hbel2.size _
    have hI3 : Lib.IsBuilderF 226 5 B B [] (w2.iter s 0) := hI2.alloc _
    have hz3 : w.heap.size ≤ w2.heap.size := hbel2.size
    go_wp2
    generalize w2.iter s 0 = w3 at hit0 hb3 hI3 ⊢
    generalize w2.heap.size = I at *
    clear hbel2 hI2
    go_loopw [] (fun wr => ∃ (p f : Nat) (acc : List Int), Lib.IsBuilderF 226 5 B B (Lib.byteCells (encs (acc.map foldZ))) wr ∧ wr.heap[I]? = some (.stringIter s p) ∧ Below w.heap.size w wr ∧ acc ++ runesFrom s f p = runes s ∧ s.size ≤ p + f ∧ vFrom s p = true) (fun wr => s.size - wr.iterPos I)
    case atStart => exact ⟨0, s.size, [], hI3, hit0.out, hb3, rfl, by omega, by rw [vFrom_zero]; exact HD.out.1⟩
    case round =>
      obtain ⟨p, f, acc, hI, hit, hbel, hacc, hf, hv⟩ := hrel
      have hlen : acc.length ≤ s.size := by have := congrArg List.length hacc; rw [List.length_append] at this; have := runes_le s; omega
      have hel := encs_le (acc.map foldZ)
      rw [List.length_map] at hel
      clear hI3 hit0 hb3
      have hIlt : I < wr.heap.size := (Array.getElem?_eq_some_iff.1 hit).1
      by_cases hlt : p < s.size
      · have hnx : ∀ ty, (Instr.next (.pointer (some ⟨I, 0, none⟩)) true ty).run Tryz.prog wr = _ := fun ty => Lib.run_next_any_at wr I s p ty hit hlt
        have hw := width_le s p hlt
        have hr := rune_le s p
        have hg := good_of s p hlt hv
        obtain ⟨hf0, hf1, _⟩ := foldZ_bd _ (rune_chr s p hg)
        have hI2 := hI.iterAt hit (p + (Utf8.decode s p).2)
        have hit2 := Lib.iterAt_heap wr I s p (p + (Utf8.decode s p).2) hit
        have hbel2 := Lib.below_iterAt hbel (k := I) hz3 s (p + (Utf8.decode s p).2)
        have hzw : B ≤ (wr.iterAt I s (p + (Utf8.decode s p).2)).heap.size := by rw [Lib.iterAt_size]; omega
        have Hst : Hid (acc ++ [((Utf8.decode s p).1 : Int)] ++ runesFrom s (f - 1) (p + (Utf8.decode s p).2) = runes s) := by
          show _ = _
          obtain ⟨g, rfl⟩ : ∃ g, f = g + 1 := ⟨f - 1, by omega⟩
          rw [runesFrom_step s g p hlt] at hacc
          rw [← hacc]
          simp
        have Hv2 : Hid (vFrom s (p + (Utf8.decode s p).2) = true) := by show _ = _; rw [vFrom_good s p hlt hg]; exact hv
        have Hpos := hidd (iterPos_of hit)
        have HI2 := hidd hI2
        have Hit2 := hidd hit2
        have HB2 := hidd hbel2
        clear hacc hI hit2 hbel2 hbel hI2 hv hg
        generalize (Utf8.decode s p).1 = r at *
        generalize (Utf8.decode s p).2 = n at *
        generalize wr.iterAt I s (p + n) = wi at *
        go_wp2_with fail
        refine (implFold_any _ _).mono ?_
        rintro e w4 ⟨rfl, rfl⟩
        generalize hfz : foldZ (r : Int) = fz at *
        have Hfz := hidd hfz
        clear hfz
        go_wp2_with fail
        refine (Tryz.Builder_WriteRune_k B B _ _ (by omega) (by omega) _ HI2.out (by rw [Lib.byteCells_length]; omega) hzw).mono ?_
        rintro e w5 ⟨rfl, h1, b1, k1⟩
        have R : Hid (Lib.IsBuilderF 226 5 B B (Lib.byteCells (encs ((acc ++ [(r : Int)]).map foldZ))) w5 ∧ w5.heap[I]? = some (.stringIter s (p + n)) ∧ Below w.heap.size w w5) := by
          refine ⟨?_, k1.iter Hit2.out (by omega), HB2.out.trans (b1.mono hz1)⟩
          rw [List.map_append, List.map_cons, List.map_nil, Hfz.out, encs_snoc, Lib.byteCells_append, Lib.byteCells_encodeRune]
          exact Or.inr h1
        clear h1 b1 k1 HI2 Hit2 HB2
        go_wp2
        go_roundw
        case rel => exact ⟨p + n, f - 1, acc ++ [(r : Int)], R.out.1, R.out.2.1, R.out.2.2, Hst.out, by omega, Hv2.out⟩
        case measure => rw [iterPos_of R.out.2.1, Hpos.out]; omega
      · have hnx : ∀ ty, (Instr.next (.pointer (some ⟨I, 0, none⟩)) true ty).run Tryz.prog wr = _ := fun ty => Lib.run_next_end_at wr I s p ty hit hlt
        have HL2 : Hid (runes s = acc) := by show _ = _; rw [← hacc, runesFrom_end s f p hlt, List.append_nil]
        have HI := hidd hI
        clear hacc hit hI
        go_wp2_with fail
        refine (Tryz.Builder_String_any_k B B (encs (acc.map foldZ)) _ HI.out (by omega)).mono ?_
        rintro e w5 ⟨rfl, _, b1, _⟩
        go_wp2
        go_ret2
        rw [HX.out, HL2.out, HC.out]
        exact ⟨rfl, hbel.trans (b1.mono hz1)⟩
  · have hcn : (decCode s != 0) = true := by rw [bne_iff_ne]; exact hc
    have HX : Hid (foldText s = []) := by show _ = _; rw [foldText, if_neg hc]
    clear hc
    go_enter Tryz.func183, Tryz.ntmps183
    go_wp2_with fail
    refine (textCode_any s _ hs HT.out).mono ?_
    rintro e w1 ⟨rfl, hb1⟩
    go_wp2
    go_ret2
    rw [HX.out]
    exact ⟨rfl, hb1⟩
end Go.Proofs.YtgoklapafidpkaaGreatDoor

namespace Go.Proofs.YtgoklapafidpkaaGreatDoor
open Go Go.RowKit
set_option linter.unusedVariables false

/-- A token, as a value. -/
def tokV (x : Tk) : Value := .agg #[.string (bs x.1), .int .i64 x.2.1, .int .i64 x.2.2.1, .int .i64 x.2.2.2]
/-- A function that asks tokens. -/
def PredC (g : FuncId) (lb : Array Value) (p : Tk → Bool) (wb : World) (X : Nat → Prop) : Prop :=
  ∀ (W : World) (x : Tk), But X wb W → x.1.length ≤ 1048576 → Calls Tryz.prog g (#[tokV x] ++ lb) W fun e w' => e = .returned (.bool (p x)) ∧ Below W.heap.size W w'
theorem PredC.but {g : FuncId} {lb : Array Value} {p : Tk → Bool} {wb W : World} {X : Nat → Prop} (h : PredC g lb p wb X) (hb : But X wb W) : PredC g lb p W X :=
  fun W' x hW hx => h W' x (hb.trans hW (fun _ _ h => h) (fun _ _ h => h)) hx
theorem contains_any (a : Option Addr) (c : Nat) (l : List (List UInt8)) (x : List UInt8) (w : World) (hn : l.length ≤ 1048576) (h : HoldS w a l) :
    Calls Tryz.prog 185 #[.slice a l.length c, .string (bs x)] w fun e w' => e = .returned (.bool (hasT l x)) ∧ w' = w := by
  rcases h with h | ⟨b, off, rfl, hb, hc⟩
  · subst h
    exact (Tryz.slices_Contains_string_empty a c (bs x) w).mono fun e w' h => by
      obtain ⟨rfl, rfl⟩ := h
      exact ⟨rfl, rfl⟩
  · have hcell : ∀ j, j < (l.map fun t => bs t).length → w.cell? ⟨b, off + j, none⟩ = some (.string ((l.map fun t => bs t).getD j ByteArray.empty)) := by
      intro j hj
      rw [List.length_map] at hj
      rw [hc j hj]
      simp [hj]
    refine (Tryz.slices_Contains_string b off l.length c (l.map fun t => bs t) (bs x) w (by simp) (by omega) hcell).mono fun e w' h => ?_
    obtain ⟨rfl, rfl⟩ := h
    refine ⟨?_, rfl⟩
    have e1 : (l.map fun t => bs t).take l.length = l.map fun t => bs t := List.take_of_length_le (by simp)
    rw [e1]
    congr 2
    rw [Bool.eq_iff_iff, Lib.containsS_iff, hasT, List.any_eq_true]
    constructor
    · intro h
      obtain ⟨t, ht, e⟩ := List.mem_map.1 h
      exact ⟨t, ht, by rw [beq_iff_eq]; exact (by simpa [bs] using congrArg (fun z => z.data.toList) e)⟩
    · rintro ⟨t, ht, e⟩
      rw [beq_iff_eq] at e
      exact List.mem_map.2 ⟨t, ht, by rw [e]⟩
set_option maxHeartbeats 4000000 in
theorem isLong_any (x : Tk) (w : World) (hx : x.1.length ≤ 1048576) :
    Calls Tryz.prog 191 #[tokV x] w fun e w' => e = .returned (.bool (decide (64 < x.1.length))) ∧ Below w.heap.size w w' := by
  obtain ⟨t, p0, p1, p2⟩ := x
  have hz : (bs t).size = t.length := bs_size t
  show Calls Tryz.prog 191 #[.agg #[.string (bs t), .int .i64 p0, .int .i64 p1, .int .i64 p2]] w _
  go_enter Tryz.func191, Tryz.ntmps191
  go_wp2_with fail
  go_returns
  refine ⟨?_, (Below.refl _ _).alloc (Nat.le_refl _) _⟩
  show Ending.returned (Value.bool (decide (64 < (t.length : Int)))) = _
  congr 2
  rw [decide_eq_decide]
  omega
set_option maxHeartbeats 4000000 in
theorem isStop_any (fo st ph : Bool) (aS : Option Addr) (cS : Nat) (vY : Value) (lo hi : Int) (stops : List (List UInt8)) (B : Nat) (x : Tk) (w : World) (hn : stops.length ≤ 1048576) (hS : HoldS w aS stops)
    (hB : w.heap[B]? = some (.cells #[.bool fo, .bool st, .bool ph, .slice aS stops.length cS, vY, .int .i64 lo, .int .i64 hi] 77)) :
    Calls Tryz.prog 184 #[tokV x, .pointer (some ⟨B, 0, none⟩)] w fun e w' => e = .returned (.bool (hasT stops x.1)) ∧ Below w.heap.size w w' := by
  obtain ⟨t, p0, p1, p2⟩ := x
  have HS := hidd hS
  have hbl : B < w.heap.size := (Array.getElem?_eq_some_iff.1 hB).1
  have HB : Hid (Below w.heap.size w (w.alloc (.cells #[.string (bs t), .int .i64 p0, .int .i64 p1, .int .i64 p2] 63))) := (Below.refl _ _).alloc (Nat.le_refl _) _
  have q3 : (w.alloc (.cells #[.string (bs t), .int .i64 p0, .int .i64 p1, .int .i64 p2] 63)).cell? ⟨B, 3, none⟩ = some (.slice aS stops.length cS) := blkc (blko hB HB.out) 3
  clear hS hB
  show Calls Tryz.prog 184 #[.agg #[.string (bs t), .int .i64 p0, .int .i64 p1, .int .i64 p2], .pointer (some ⟨B, 0, none⟩)] w _
  go_enter Tryz.func184, Tryz.ntmps184
  go_wp2_with fail
  refine (contains_any aS cS stops t _ hn (HS.out.below HB.out)).mono ?_
  rintro e w' ⟨rfl, hw⟩
  obtain rfl := hw.symm
  go_wp2_with fail
  go_returns
  exact ⟨rfl, HB.out⟩
set_option maxHeartbeats 4000000 in
theorem foldWord_any (t : List UInt8) (w : World) (hd : decCode (bs t) = 0) (hT : Tabs w) :
    Calls Tryz.prog 171 #[.string (bs t)] w fun e w' => e = .returned (.string (bs (foldL t))) ∧ Below w.heap.size w w' := by
  go_enter Tryz.func171, Tryz.ntmps171
  go_wp2_with fail
  refine (implFoldText_any (bs t) _ (by have := (dec_ok _ hd).2; omega) hT).mono ?_
  rintro e w1 ⟨rfl, hb1⟩
  have HF : Hid ((⟨(foldText (bs t)).toArray⟩ : ByteArray) = bs (foldL t)) := by show _ = _; rw [foldText, if_pos hd]; rfl
  rw [HF.out]
  clear HF
  go_wp2_with fail
  go_returns
  exact ⟨rfl, hb1⟩
end Go.Proofs.YtgoklapafidpkaaGreatDoor
