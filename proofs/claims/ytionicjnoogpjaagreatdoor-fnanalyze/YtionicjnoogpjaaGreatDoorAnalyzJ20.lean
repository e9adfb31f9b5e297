import Derived.Test.YtionicjnoogpjaaGreatDoorProg
import Derived.Test.YtionicjnoogpjaaGreatDoorAnalyzJ02
import Derived.Test.YtionicjnoogpjaaGreatDoorAnalyzJ00
import Derived.WalkLawsBesides
namespace Go.Proofs.YtionicjnoogpjaaGreatDoor
open Go Go.RowKit
set_option linter.unusedVariables false

set_option maxHeartbeats 400000 in
theorem specFold_w0 (a : Int) (w : World) (u : a ≤ 64) : Calls Tryz.prog 91 #[.int .i64 a] w fun e w' => e = .returned (.int .i64 (foldZ a)) ∧ w' = w := by
  have HV : Hid (foldZ a = a) := by show _ = _; unfold foldZ accZ smlZ; repeat (first | rw [if_pos (by omega)] | rw [if_neg (by omega)])
  have e215 : (a == 215) = false := beq_eq_false_iff_ne.2 (by omega)
  have e930 : (a == 930) = false := beq_eq_false_iff_ne.2 (by omega)
  have e231 : (a == 231) = false := beq_eq_false_iff_ne.2 (by omega)
  have e241 : (a == 241) = false := beq_eq_false_iff_ne.2 (by omega)
  have e248 : (a == 248) = false := beq_eq_false_iff_ne.2 (by omega)
  have e253 : (a == 253) = false := beq_eq_false_iff_ne.2 (by omega)
  have e255 : (a == 255) = false := beq_eq_false_iff_ne.2 (by omega)
  have n215 : (a != 215) = true := by rw [bne_iff_ne]; omega
  have n930 : (a != 930) = true := by rw [bne_iff_ne]; omega
  go_enter Tryz.func91, Tryz.ntmps91
  go_wp2
  go_ret
  rw [HV.out]
  exact ⟨rfl, rfl⟩
set_option maxHeartbeats 400000 in
theorem specFold_w1 (a : Int) (w : World) (l : 65 ≤ a) (u : a ≤ 90) : Calls Tryz.prog 91 #[.int .i64 a] w fun e w' => e = .returned (.int .i64 (foldZ a)) ∧ w' = w := by
  have HV : Hid (foldZ a = a + 32) := by show _ = _; unfold foldZ accZ smlZ; repeat (first | rw [if_pos (by omega)] | rw [if_neg (by omega)])
  have e215 : (a == 215) = false := beq_eq_false_iff_ne.2 (by omega)
  have e930 : (a == 930) = false := beq_eq_false_iff_ne.2 (by omega)
  have e231 : (a == 231) = false := beq_eq_false_iff_ne.2 (by omega)
  have e241 : (a == 241) = false := beq_eq_false_iff_ne.2 (by omega)
  have e248 : (a == 248) = false := beq_eq_false_iff_ne.2 (by omega)
  have e253 : (a == 253) = false := beq_eq_false_iff_ne.2 (by omega)
  have e255 : (a == 255) = false := beq_eq_false_iff_ne.2 (by omega)
  have n215 : (a != 215) = true := by rw [bne_iff_ne]; omega
  have n930 : (a != 930) = true := by rw [bne_iff_ne]; omega
  have s231 : (a + 32 == 231) = false := beq_eq_false_iff_ne.2 (by omega)
  have s241 : (a + 32 == 241) = false := beq_eq_false_iff_ne.2 (by omega)
  have s248 : (a + 32 == 248) = false := beq_eq_false_iff_ne.2 (by omega)
  have s253 : (a + 32 == 253) = false := beq_eq_false_iff_ne.2 (by omega)
  have s255 : (a + 32 == 255) = false := beq_eq_false_iff_ne.2 (by omega)
  go_enter Tryz.func91, Tryz.ntmps91
  go_wp2
  go_ret
  rw [HV.out]
  exact ⟨rfl, rfl⟩
set_option maxHeartbeats 400000 in
theorem specFold_w2 (a : Int) (w : World) (l : 91 ≤ a) (u : a ≤ 191) : Calls Tryz.prog 91 #[.int .i64 a] w fun e w' => e = .returned (.int .i64 (foldZ a)) ∧ w' = w := by
  have HV : Hid (foldZ a = a) := by show _ = _; unfold foldZ accZ smlZ; repeat (first | rw [if_pos (by omega)] | rw [if_neg (by omega)])
  have e215 : (a == 215) = false := beq_eq_false_iff_ne.2 (by omega)
  have e930 : (a == 930) = false := beq_eq_false_iff_ne.2 (by omega)
  have e231 : (a == 231) = false := beq_eq_false_iff_ne.2 (by omega)
  have e241 : (a == 241) = false := beq_eq_false_iff_ne.2 (by omega)
  have e248 : (a == 248) = false := beq_eq_false_iff_ne.2 (by omega)
  have e253 : (a == 253) = false := beq_eq_false_iff_ne.2 (by omega)
  have e255 : (a == 255) = false := beq_eq_false_iff_ne.2 (by omega)
  have n215 : (a != 215) = true := by rw [bne_iff_ne]; omega
  have n930 : (a != 930) = true := by rw [bne_iff_ne]; omega
  go_enter Tryz.func91, Tryz.ntmps91
  go_wp2
  go_ret
  rw [HV.out]
  exact ⟨rfl, rfl⟩
set_option maxHeartbeats 400000 in
theorem specFold_w3 (a : Int) (w : World) (l : 192 ≤ a) (u : a ≤ 197) : Calls Tryz.prog 91 #[.int .i64 a] w fun e w' => e = .returned (.int .i64 (foldZ a)) ∧ w' = w := by
  have HV : Hid (foldZ a = 97) := by show _ = _; unfold foldZ accZ smlZ; repeat (first | rw [if_pos (by omega)] | rw [if_neg (by omega)])
  have e215 : (a == 215) = false := beq_eq_false_iff_ne.2 (by omega)
  have e930 : (a == 930) = false := beq_eq_false_iff_ne.2 (by omega)
  have e231 : (a == 231) = false := beq_eq_false_iff_ne.2 (by omega)
  have e241 : (a == 241) = false := beq_eq_false_iff_ne.2 (by omega)
  have e248 : (a == 248) = false := beq_eq_false_iff_ne.2 (by omega)
  have e253 : (a == 253) = false := beq_eq_false_iff_ne.2 (by omega)
  have e255 : (a == 255) = false := beq_eq_false_iff_ne.2 (by omega)
  have n215 : (a != 215) = true := by rw [bne_iff_ne]; omega
  have n930 : (a != 930) = true := by rw [bne_iff_ne]; omega
  have s231 : (a + 32 == 231) = false := beq_eq_false_iff_ne.2 (by omega)
  have s241 : (a + 32 == 241) = false := beq_eq_false_iff_ne.2 (by omega)
  have s248 : (a + 32 == 248) = false := beq_eq_false_iff_ne.2 (by omega)
  have s253 : (a + 32 == 253) = false := beq_eq_false_iff_ne.2 (by omega)
  have s255 : (a + 32 == 255) = false := beq_eq_false_iff_ne.2 (by omega)
  go_enter Tryz.func91, Tryz.ntmps91
  go_wp2
  go_ret
  rw [HV.out]
  exact ⟨rfl, rfl⟩
set_option maxHeartbeats 400000 in
theorem specFold_w4 (w : World) : Calls Tryz.prog 91 #[.int .i64 198] w fun e w' => e = .returned (.int .i64 (foldZ 198)) ∧ w' = w := by
  have HV : Hid (foldZ 198 = 198 + 32) := by show _ = _; decide
  go_enter Tryz.func91, Tryz.ntmps91
  go_wp2
  go_ret
  rw [HV.out]
  exact ⟨rfl, rfl⟩
set_option maxHeartbeats 400000 in
theorem specFold_w5 (w : World) : Calls Tryz.prog 91 #[.int .i64 199] w fun e w' => e = .returned (.int .i64 (foldZ 199)) ∧ w' = w := by
  have HV : Hid (foldZ 199 = 99) := by show _ = _; decide
  go_enter Tryz.func91, Tryz.ntmps91
  go_wp2
  go_ret
  rw [HV.out]
  exact ⟨rfl, rfl⟩
set_option maxHeartbeats 400000 in
theorem specFold_w6 (a : Int) (w : World) (l : 200 ≤ a) (u : a ≤ 203) : Calls Tryz.prog 91 #[.int .i64 a] w fun e w' => e = .returned (.int .i64 (foldZ a)) ∧ w' = w := by
  have HV : Hid (foldZ a = 101) := by show _ = _; unfold foldZ accZ smlZ; repeat (first | rw [if_pos (by omega)] | rw [if_neg (by omega)])
  have e215 : (a == 215) = false := beq_eq_false_iff_ne.2 (by omega)
  have e930 : (a == 930) = false := beq_eq_false_iff_ne.2 (by omega)
  have e231 : (a == 231) = false := beq_eq_false_iff_ne.2 (by omega)
  have e241 : (a == 241) = false := beq_eq_false_iff_ne.2 (by omega)
  have e248 : (a == 248) = false := beq_eq_false_iff_ne.2 (by omega)
  have e253 : (a == 253) = false := beq_eq_false_iff_ne.2 (by omega)
  have e255 : (a == 255) = false := beq_eq_false_iff_ne.2 (by omega)
  have n215 : (a != 215) = true := by rw [bne_iff_ne]; omega
  have n930 : (a != 930) = true := by rw [bne_iff_ne]; omega
  have s231 : (a + 32 == 231) = false := beq_eq_false_iff_ne.2 (by omega)
  have s241 : (a + 32 == 241) = false := beq_eq_false_iff_ne.2 (by omega)
  have s248 : (a + 32 == 248) = false := beq_eq_false_iff_ne.2 (by omega)
  have s253 : (a + 32 == 253) = false := beq_eq_false_iff_ne.2 (by omega)
  have s255 : (a + 32 == 255) = false := beq_eq_false_iff_ne.2 (by omega)
  go_enter Tryz.func91, Tryz.ntmps91
  go_wp2
  go_ret
  rw [HV.out]
  exact ⟨rfl, rfl⟩
set_option maxHeartbeats 400000 in
theorem specFold_w7 (a : Int) (w : World) (l : 204 ≤ a) (u : a ≤ 207) : Calls Tryz.prog 91 #[.int .i64 a] w fun e w' => e = .returned (.int .i64 (foldZ a)) ∧ w' = w := by
  have HV : Hid (foldZ a = 105) := by show _ = _; unfold foldZ accZ smlZ; repeat (first | rw [if_pos (by omega)] | rw [if_neg (by omega)])
  have e215 : (a == 215) = false := beq_eq_false_iff_ne.2 (by omega)
  have e930 : (a == 930) = false := beq_eq_false_iff_ne.2 (by omega)
  have e231 : (a == 231) = false := beq_eq_false_iff_ne.2 (by omega)
  have e241 : (a == 241) = false := beq_eq_false_iff_ne.2 (by omega)
  have e248 : (a == 248) = false := beq_eq_false_iff_ne.2 (by omega)
  have e253 : (a == 253) = false := beq_eq_false_iff_ne.2 (by omega)
  have e255 : (a == 255) = false := beq_eq_false_iff_ne.2 (by omega)
  have n215 : (a != 215) = true := by rw [bne_iff_ne]; omega
  have n930 : (a != 930) = true := by rw [bne_iff_ne]; omega
  have s231 : (a + 32 == 231) = false := beq_eq_false_iff_ne.2 (by omega)
  have s241 : (a + 32 == 241) = false := beq_eq_false_iff_ne.2 (by omega)
  have s248 : (a + 32 == 248) = false := beq_eq_false_iff_ne.2 (by omega)
  have s253 : (a + 32 == 253) = false := beq_eq_false_iff_ne.2 (by omega)
  have s255 : (a + 32 == 255) = false := beq_eq_false_iff_ne.2 (by omega)
  go_enter Tryz.func91, Tryz.ntmps91
  go_wp2
  go_ret
  rw [HV.out]
  exact ⟨rfl, rfl⟩
set_option maxHeartbeats 400000 in
theorem specFold_w8 (w : World) : Calls Tryz.prog 91 #[.int .i64 208] w fun e w' => e = .returned (.int .i64 (foldZ 208)) ∧ w' = w := by
  have HV : Hid (foldZ 208 = 208 + 32) := by show _ = _; decide
  go_enter Tryz.func91, Tryz.ntmps91
  go_wp2
  go_ret
  rw [HV.out]
  exact ⟨rfl, rfl⟩
set_option maxHeartbeats 400000 in
theorem specFold_w9 (w : World) : Calls Tryz.prog 91 #[.int .i64 209] w fun e w' => e = .returned (.int .i64 (foldZ 209)) ∧ w' = w := by
  have HV : Hid (foldZ 209 = 110) := by show _ = _; decide
  go_enter Tryz.func91, Tryz.ntmps91
  go_wp2
  go_ret
  rw [HV.out]
  exact ⟨rfl, rfl⟩
set_option maxHeartbeats 400000 in
theorem specFold_w10 (a : Int) (w : World) (l : 210 ≤ a) (u : a ≤ 214) : Calls Tryz.prog 91 #[.int .i64 a] w fun e w' => e = .returned (.int .i64 (foldZ a)) ∧ w' = w := by
  have HV : Hid (foldZ a = 111) := by show _ = _; unfold foldZ accZ smlZ; repeat (first | rw [if_pos (by omega)] | rw [if_neg (by omega)])
  have e215 : (a == 215) = false := beq_eq_false_iff_ne.2 (by omega)
  have e930 : (a == 930) = false := beq_eq_false_iff_ne.2 (by omega)
  have e231 : (a == 231) = false := beq_eq_false_iff_ne.2 (by omega)
  have e241 : (a == 241) = false := beq_eq_false_iff_ne.2 (by omega)
  have e248 : (a == 248) = false := beq_eq_false_iff_ne.2 (by omega)
  have e253 : (a == 253) = false := beq_eq_false_iff_ne.2 (by omega)
  have e255 : (a == 255) = false := beq_eq_false_iff_ne.2 (by omega)
  have n215 : (a != 215) = true := by rw [bne_iff_ne]; omega
  have n930 : (a != 930) = true := by rw [bne_iff_ne]; omega
  have s231 : (a + 32 == 231) = false := beq_eq_false_iff_ne.2 (by omega)
  have s241 : (a + 32 == 241) = false := beq_eq_false_iff_ne.2 (by omega)
  have s248 : (a + 32 == 248) = false := beq_eq_false_iff_ne.2 (by omega)
  have s253 : (a + 32 == 253) = false := beq_eq_false_iff_ne.2 (by omega)
  have s255 : (a + 32 == 255) = false := beq_eq_false_iff_ne.2 (by omega)
  go_enter Tryz.func91, Tryz.ntmps91
  go_wp2
  go_ret
  rw [HV.out]
  exact ⟨rfl, rfl⟩
set_option maxHeartbeats 400000 in
theorem specFold_w11 (w : World) : Calls Tryz.prog 91 #[.int .i64 215] w fun e w' => e = .returned (.int .i64 (foldZ 215)) ∧ w' = w := by
  have HV : Hid (foldZ 215 = 215) := by show _ = _; decide
  go_enter Tryz.func91, Tryz.ntmps91
  go_wp2
  go_ret
  rw [HV.out]
  exact ⟨rfl, rfl⟩
set_option maxHeartbeats 400000 in
theorem specFold_w12 (w : World) : Calls Tryz.prog 91 #[.int .i64 216] w fun e w' => e = .returned (.int .i64 (foldZ 216)) ∧ w' = w := by
  have HV : Hid (foldZ 216 = 111) := by show _ = _; decide
  go_enter Tryz.func91, Tryz.ntmps91
  go_wp2
  go_ret
  rw [HV.out]
  exact ⟨rfl, rfl⟩
set_option maxHeartbeats 400000 in
theorem specFold_w13 (a : Int) (w : World) (l : 217 ≤ a) (u : a ≤ 220) : Calls Tryz.prog 91 #[.int .i64 a] w fun e w' => e = .returned (.int .i64 (foldZ a)) ∧ w' = w := by
  have HV : Hid (foldZ a = 117) := by show _ = _; unfold foldZ accZ smlZ; repeat (first | rw [if_pos (by omega)] | rw [if_neg (by omega)])
  have e215 : (a == 215) = false := beq_eq_false_iff_ne.2 (by omega)
  have e930 : (a == 930) = false := beq_eq_false_iff_ne.2 (by omega)
  have e231 : (a == 231) = false := beq_eq_false_iff_ne.2 (by omega)
  have e241 : (a == 241) = false := beq_eq_false_iff_ne.2 (by omega)
  have e248 : (a == 248) = false := beq_eq_false_iff_ne.2 (by omega)
  have e253 : (a == 253) = false := beq_eq_false_iff_ne.2 (by omega)
  have e255 : (a == 255) = false := beq_eq_false_iff_ne.2 (by omega)
  have n215 : (a != 215) = true := by rw [bne_iff_ne]; omega
  have n930 : (a != 930) = true := by rw [bne_iff_ne]; omega
  have s231 : (a + 32 == 231) = false := beq_eq_false_iff_ne.2 (by omega)
  have s241 : (a + 32 == 241) = false := beq_eq_false_iff_ne.2 (by omega)
  have s248 : (a + 32 == 248) = false := beq_eq_false_iff_ne.2 (by omega)
  have s253 : (a + 32 == 253) = false := beq_eq_false_iff_ne.2 (by omega)
  have s255 : (a + 32 == 255) = false := beq_eq_false_iff_ne.2 (by omega)
  go_enter Tryz.func91, Tryz.ntmps91
  go_wp2
  go_ret
  rw [HV.out]
  exact ⟨rfl, rfl⟩
set_option maxHeartbeats 400000 in
theorem specFold_w14 (w : World) : Calls Tryz.prog 91 #[.int .i64 221] w fun e w' => e = .returned (.int .i64 (foldZ 221)) ∧ w' = w := by
  have HV : Hid (foldZ 221 = 121) := by show _ = _; decide
  go_enter Tryz.func91, Tryz.ntmps91
  go_wp2
  go_ret
  rw [HV.out]
  exact ⟨rfl, rfl⟩
set_option maxHeartbeats 400000 in
theorem specFold_w15 (w : World) : Calls Tryz.prog 91 #[.int .i64 222] w fun e w' => e = .returned (.int .i64 (foldZ 222)) ∧ w' = w := by
  have HV : Hid (foldZ 222 = 222 + 32) := by show _ = _; decide
  go_enter Tryz.func91, Tryz.ntmps91
  go_wp2
  go_ret
  rw [HV.out]
  exact ⟨rfl, rfl⟩
set_option maxHeartbeats 400000 in
theorem specFold_w16 (w : World) : Calls Tryz.prog 91 #[.int .i64 223] w fun e w' => e = .returned (.int .i64 (foldZ 223)) ∧ w' = w := by
  have HV : Hid (foldZ 223 = 223) := by show _ = _; decide
  go_enter Tryz.func91, Tryz.ntmps91
  go_wp2
  go_ret
  rw [HV.out]
  exact ⟨rfl, rfl⟩
set_option maxHeartbeats 400000 in
theorem specFold_w17 (a : Int) (w : World) (l : 224 ≤ a) (u : a ≤ 229) : Calls Tryz.prog 91 #[.int .i64 a] w fun e w' => e = .returned (.int .i64 (foldZ a)) ∧ w' = w := by
  have HV : Hid (foldZ a = 97) := by show _ = _; unfold foldZ accZ smlZ; repeat (first | rw [if_pos (by omega)] | rw [if_neg (by omega)])
  have e215 : (a == 215) = false := beq_eq_false_iff_ne.2 (by omega)
  have e930 : (a == 930) = false := beq_eq_false_iff_ne.2 (by omega)
  have e231 : (a == 231) = false := beq_eq_false_iff_ne.2 (by omega)
  have e241 : (a == 241) = false := beq_eq_false_iff_ne.2 (by omega)
  have e248 : (a == 248) = false := beq_eq_false_iff_ne.2 (by omega)
  have e253 : (a == 253) = false := beq_eq_false_iff_ne.2 (by omega)
  have e255 : (a == 255) = false := beq_eq_false_iff_ne.2 (by omega)
  have n215 : (a != 215) = true := by rw [bne_iff_ne]; omega
  have n930 : (a != 930) = true := by rw [bne_iff_ne]; omega
  go_enter Tryz.func91, Tryz.ntmps91
  go_wp2
  go_ret
  rw [HV.out]
  exact ⟨rfl, rfl⟩
set_option maxHeartbeats 400000 in
theorem specFold_w18 (w : World) : Calls Tryz.prog 91 #[.int .i64 230] w fun e w' => e = .returned (.int .i64 (foldZ 230)) ∧ w' = w := by
  have HV : Hid (foldZ 230 = 230) := by show _ = _; decide
  go_enter Tryz.func91, Tryz.ntmps91
  go_wp2
  go_ret
  rw [HV.out]
  exact ⟨rfl, rfl⟩
set_option maxHeartbeats 400000 in
theorem specFold_w19 (w : World) : Calls Tryz.prog 91 #[.int .i64 231] w fun e w' => e = .returned (.int .i64 (foldZ 231)) ∧ w' = w := by
  have HV : Hid (foldZ 231 = 99) := by show _ = _; decide
  go_enter Tryz.func91, Tryz.ntmps91
  go_wp2
  go_ret
  rw [HV.out]
  exact ⟨rfl, rfl⟩
set_option maxHeartbeats 400000 in
theorem specFold_w20 (a : Int) (w : World) (l : 232 ≤ a) (u : a ≤ 235) : Calls Tryz.prog 91 #[.int .i64 a] w fun e w' => e = .returned (.int .i64 (foldZ a)) ∧ w' = w := by
  have HV : Hid (foldZ a = 101) := by show _ = _; unfold foldZ accZ smlZ; repeat (first | rw [if_pos (by omega)] | rw [if_neg (by omega)])
  have e215 : (a == 215) = false := beq_eq_false_iff_ne.2 (by omega)
  have e930 : (a == 930) = false := beq_eq_false_iff_ne.2 (by omega)
  have e231 : (a == 231) = false := beq_eq_false_iff_ne.2 (by omega)
  have e241 : (a == 241) = false := beq_eq_false_iff_ne.2 (by omega)
  have e248 : (a == 248) = false := beq_eq_false_iff_ne.2 (by omega)
  have e253 : (a == 253) = false := beq_eq_false_iff_ne.2 (by omega)
  have e255 : (a == 255) = false := beq_eq_false_iff_ne.2 (by omega)
  have n215 : (a != 215) = true := by rw [bne_iff_ne]; omega
  have n930 : (a != 930) = true := by rw [bne_iff_ne]; omega
  go_enter Tryz.func91, Tryz.ntmps91
  go_wp2
  go_ret
  rw [HV.out]
  exact ⟨rfl, rfl⟩
set_option maxHeartbeats 400000 in
theorem specFold_w21 (a : Int) (w : World) (l : 236 ≤ a) (u : a ≤ 239) : Calls Tryz.prog 91 #[.int .i64 a] w fun e w' => e = .returned (.int .i64 (foldZ a)) ∧ w' = w := by
  have HV : Hid (foldZ a = 105) := by show _ = _; unfold foldZ accZ smlZ; repeat (first | rw [if_pos (by omega)] | rw [if_neg (by omega)])
  have e215 : (a == 215) = false := beq_eq_false_iff_ne.2 (by omega)
  have e930 : (a == 930) = false := beq_eq_false_iff_ne.2 (by omega)
  have e231 : (a == 231) = false := beq_eq_false_iff_ne.2 (by omega)
  have e241 : (a == 241) = false := beq_eq_false_iff_ne.2 (by omega)
  have e248 : (a == 248) = false := beq_eq_false_iff_ne.2 (by omega)
  have e253 : (a == 253) = false := beq_eq_false_iff_ne.2 (by omega)
  have e255 : (a == 255) = false := beq_eq_false_iff_ne.2 (by omega)
  have n215 : (a != 215) = true := by rw [bne_iff_ne]; omega
  have n930 : (a != 930) = true := by rw [bne_iff_ne]; omega
  go_enter Tryz.func91, Tryz.ntmps91
  go_wp2
  go_ret
  rw [HV.out]
  exact ⟨rfl, rfl⟩
set_option maxHeartbeats 400000 in
theorem specFold_w22 (w : World) : Calls Tryz.prog 91 #[.int .i64 240] w fun e w' => e = .returned (.int .i64 (foldZ 240)) ∧ w' = w := by
  have HV : Hid (foldZ 240 = 240) := by show _ = _; decide
  go_enter Tryz.func91, Tryz.ntmps91
  go_wp2
  go_ret
  rw [HV.out]
  exact ⟨rfl, rfl⟩
set_option maxHeartbeats 400000 in
theorem specFold_w23 (w : World) : Calls Tryz.prog 91 #[.int .i64 241] w fun e w' => e = .returned (.int .i64 (foldZ 241)) ∧ w' = w := by
  have HV : Hid (foldZ 241 = 110) := by show _ = _; decide
  go_enter Tryz.func91, Tryz.ntmps91
  go_wp2
  go_ret
  rw [HV.out]
  exact ⟨rfl, rfl⟩
set_option maxHeartbeats 400000 in
theorem specFold_w24 (a : Int) (w : World) (l : 242 ≤ a) (u : a ≤ 246) : Calls Tryz.prog 91 #[.int .i64 a] w fun e w' => e = .returned (.int .i64 (foldZ a)) ∧ w' = w := by
  have HV : Hid (foldZ a = 111) := by show _ = _; unfold foldZ accZ smlZ; repeat (first | rw [if_pos (by omega)] | rw [if_neg (by omega)])
  have e215 : (a == 215) = false := beq_eq_false_iff_ne.2 (by omega)
  have e930 : (a == 930) = false := beq_eq_false_iff_ne.2 (by omega)
  have e231 : (a == 231) = false := beq_eq_false_iff_ne.2 (by omega)
  have e241 : (a == 241) = false := beq_eq_false_iff_ne.2 (by omega)
  have e248 : (a == 248) = false := beq_eq_false_iff_ne.2 (by omega)
  have e253 : (a == 253) = false := beq_eq_false_iff_ne.2 (by omega)
  have e255 : (a == 255) = false := beq_eq_false_iff_ne.2 (by omega)
  have n215 : (a != 215) = true := by rw [bne_iff_ne]; omega
  have n930 : (a != 930) = true := by rw [bne_iff_ne]; omega
  go_enter Tryz.func91, Tryz.ntmps91
  go_wp2
  go_ret
  rw [HV.out]
  exact ⟨rfl, rfl⟩
set_option maxHeartbeats 400000 in
theorem specFold_w25 (w : World) : Calls Tryz.prog 91 #[.int .i64 247] w fun e w' => e = .returned (.int .i64 (foldZ 247)) ∧ w' = w := by
  have HV : Hid (foldZ 247 = 247) := by show _ = _; decide
  go_enter Tryz.func91, Tryz.ntmps91
  go_wp2
  go_ret
  rw [HV.out]
  exact ⟨rfl, rfl⟩
set_option maxHeartbeats 400000 in
theorem specFold_w26 (w : World) : Calls Tryz.prog 91 #[.int .i64 248] w fun e w' => e = .returned (.int .i64 (foldZ 248)) ∧ w' = w := by
  have HV : Hid (foldZ 248 = 111) := by show _ = _; decide
  go_enter Tryz.func91, Tryz.ntmps91
  go_wp2
  go_ret
  rw [HV.out]
  exact ⟨rfl, rfl⟩
set_option maxHeartbeats 400000 in
theorem specFold_w27 (a : Int) (w : World) (l : 249 ≤ a) (u : a ≤ 252) : Calls Tryz.prog 91 #[.int .i64 a] w fun e w' => e = .returned (.int .i64 (foldZ a)) ∧ w' = w := by
  have HV : Hid (foldZ a = 117) := by show _ = _; unfold foldZ accZ smlZ; repeat (first | rw [if_pos (by omega)] | rw [if_neg (by omega)])
  have e215 : (a == 215) = false := beq_eq_false_iff_ne.2 (by omega)
  have e930 : (a == 930) = false := beq_eq_false_iff_ne.2 (by omega)
  have e231 : (a == 231) = false := beq_eq_false_iff_ne.2 (by omega)
  have e241 : (a == 241) = false := beq_eq_false_iff_ne.2 (by omega)
  have e248 : (a == 248) = false := beq_eq_false_iff_ne.2 (by omega)
  have e253 : (a == 253) = false := beq_eq_false_iff_ne.2 (by omega)
  have e255 : (a == 255) = false := beq_eq_false_iff_ne.2 (by omega)
  have n215 : (a != 215) = true := by rw [bne_iff_ne]; omega
  have n930 : (a != 930) = true := by rw [bne_iff_ne]; omega
  go_enter Tryz.func91, Tryz.ntmps91
  go_wp2
  go_ret
  rw [HV.out]
  exact ⟨rfl, rfl⟩
set_option maxHeartbeats 400000 in
theorem specFold_w28 (w : World) : Calls Tryz.prog 91 #[.int .i64 253] w fun e w' => e = .returned (.int .i64 (foldZ 253)) ∧ w' = w := by
  have HV : Hid (foldZ 253 = 121) := by show _ = _; decide
  go_enter Tryz.func91, Tryz.ntmps91
  go_wp2
  go_ret
  rw [HV.out]
  exact ⟨rfl, rfl⟩
set_option maxHeartbeats 400000 in
theorem specFold_w29 (w : World) : Calls Tryz.prog 91 #[.int .i64 254] w fun e w' => e = .returned (.int .i64 (foldZ 254)) ∧ w' = w := by
  have HV : Hid (foldZ 254 = 254) := by show _ = _; decide
  go_enter Tryz.func91, Tryz.ntmps91
  go_wp2
  go_ret
  rw [HV.out]
  exact ⟨rfl, rfl⟩
set_option maxHeartbeats 400000 in
theorem specFold_w30 (w : World) : Calls Tryz.prog 91 #[.int .i64 255] w fun e w' => e = .returned (.int .i64 (foldZ 255)) ∧ w' = w := by
  have HV : Hid (foldZ 255 = 121) := by show _ = _; decide
  go_enter Tryz.func91, Tryz.ntmps91
  go_wp2
  go_ret
  rw [HV.out]
  exact ⟨rfl, rfl⟩
set_option maxHeartbeats 400000 in
theorem specFold_w31 (a : Int) (w : World) (l : 256 ≤ a) (u : a ≤ 912) : Calls Tryz.prog 91 #[.int .i64 a] w fun e w' => e = .returned (.int .i64 (foldZ a)) ∧ w' = w := by
  have HV : Hid (foldZ a = a) := by show _ = _; unfold foldZ accZ smlZ; repeat (first | rw [if_pos (by omega)] | rw [if_neg (by omega)])
  have e215 : (a == 215) = false := beq_eq_false_iff_ne.2 (by omega)
  have e930 : (a == 930) = false := beq_eq_false_iff_ne.2 (by omega)
  have e231 : (a == 231) = false := beq_eq_false_iff_ne.2 (by omega)
  have e241 : (a == 241) = false := beq_eq_false_iff_ne.2 (by omega)
  have e248 : (a == 248) = false := beq_eq_false_iff_ne.2 (by omega)
  have e253 : (a == 253) = false := beq_eq_false_iff_ne.2 (by omega)
  have e255 : (a == 255) = false := beq_eq_false_iff_ne.2 (by omega)
  have n215 : (a != 215) = true := by rw [bne_iff_ne]; omega
  have n930 : (a != 930) = true := by rw [bne_iff_ne]; omega
  go_enter Tryz.func91, Tryz.ntmps91
  go_wp2
  go_ret
  rw [HV.out]
  exact ⟨rfl, rfl⟩
set_option maxHeartbeats 400000 in
theorem specFold_w32 (a : Int) (w : World) (l : 913 ≤ a) (u : a ≤ 929) : Calls Tryz.prog 91 #[.int .i64 a] w fun e w' => e = .returned (.int .i64 (foldZ a)) ∧ w' = w := by
  have HV : Hid (foldZ a = a + 32) := by show _ = _; unfold foldZ accZ smlZ; repeat (first | rw [if_pos (by omega)] | rw [if_neg (by omega)])
  have e215 : (a == 215) = false := beq_eq_false_iff_ne.2 (by omega)
  have e930 : (a == 930) = false := beq_eq_false_iff_ne.2 (by omega)
  have e231 : (a == 231) = false := beq_eq_false_iff_ne.2 (by omega)
  have e241 : (a == 241) = false := beq_eq_false_iff_ne.2 (by omega)
  have e248 : (a == 248) = false := beq_eq_false_iff_ne.2 (by omega)
  have e253 : (a == 253) = false := beq_eq_false_iff_ne.2 (by omega)
  have e255 : (a == 255) = false := beq_eq_false_iff_ne.2 (by omega)
  have n215 : (a != 215) = true := by rw [bne_iff_ne]; omega
  have n930 : (a != 930) = true := by rw [bne_iff_ne]; omega
  have s231 : (a + 32 == 231) = false := beq_eq_false_iff_ne.2 (by omega)
  have s241 : (a + 32 == 241) = false := beq_eq_false_iff_ne.2 (by omega)
  have s248 : (a + 32 == 248) = false := beq_eq_false_iff_ne.2 (by omega)
  have s253 : (a + 32 == 253) = false := beq_eq_false_iff_ne.2 (by omega)
  have s255 : (a + 32 == 255) = false := beq_eq_false_iff_ne.2 (by omega)
  go_enter Tryz.func91, Tryz.ntmps91
  go_wp2
  go_ret
  rw [HV.out]
  exact ⟨rfl, rfl⟩
set_option maxHeartbeats 400000 in
theorem specFold_w33 (w : World) : Calls Tryz.prog 91 #[.int .i64 930] w fun e w' => e = .returned (.int .i64 (foldZ 930)) ∧ w' = w := by
  have HV : Hid (foldZ 930 = 930) := by show _ = _; decide
  go_enter Tryz.func91, Tryz.ntmps91
  go_wp2
  go_ret
  rw [HV.out]
  exact ⟨rfl, rfl⟩
set_option maxHeartbeats 400000 in
theorem specFold_w34 (a : Int) (w : World) (l : 931 ≤ a) (u : a ≤ 939) : Calls Tryz.prog 91 #[.int .i64 a] w fun e w' => e = .returned (.int .i64 (foldZ a)) ∧ w' = w := by
  have HV : Hid (foldZ a = a + 32) := by show _ = _; unfold foldZ accZ smlZ; repeat (first | rw [if_pos (by omega)] | rw [if_neg (by omega)])
  have e215 : (a == 215) = false := beq_eq_false_iff_ne.2 (by omega)
  have e930 : (a == 930) = false := beq_eq_false_iff_ne.2 (by omega)
  have e231 : (a == 231) = false := beq_eq_false_iff_ne.2 (by omega)
  have e241 : (a == 241) = false := beq_eq_false_iff_ne.2 (by omega)
  have e248 : (a == 248) = false := beq_eq_false_iff_ne.2 (by omega)
  have e253 : (a == 253) = false := beq_eq_false_iff_ne.2 (by omega)
  have e255 : (a == 255) = false := beq_eq_false_iff_ne.2 (by omega)
  have n215 : (a != 215) = true := by rw [bne_iff_ne]; omega
  have n930 : (a != 930) = true := by rw [bne_iff_ne]; omega
  have s231 : (a + 32 == 231) = false := beq_eq_false_iff_ne.2 (by omega)
  have s241 : (a + 32 == 241) = false := beq_eq_false_iff_ne.2 (by omega)
  have s248 : (a + 32 == 248) = false := beq_eq_false_iff_ne.2 (by omega)
  have s253 : (a + 32 == 253) = false := beq_eq_false_iff_ne.2 (by omega)
  have s255 : (a + 32 == 255) = false := beq_eq_false_iff_ne.2 (by omega)
  go_enter Tryz.func91, Tryz.ntmps91
  go_wp2
  go_ret
  rw [HV.out]
  exact ⟨rfl, rfl⟩
set_option maxHeartbeats 400000 in
theorem specFold_w35 (a : Int) (w : World) (l : 940 ≤ a) (u : a ≤ 1023) : Calls Tryz.prog 91 #[.int .i64 a] w fun e w' => e = .returned (.int .i64 (foldZ a)) ∧ w' = w := by
  have HV : Hid (foldZ a = a) := by show _ = _; unfold foldZ accZ smlZ; repeat (first | rw [if_pos (by omega)] | rw [if_neg (by omega)])
  have e215 : (a == 215) = false := beq_eq_false_iff_ne.2 (by omega)
  have e930 : (a == 930) = false := beq_eq_false_iff_ne.2 (by omega)
  have e231 : (a == 231) = false := beq_eq_false_iff_ne.2 (by omega)
  have e241 : (a == 241) = false := beq_eq_false_iff_ne.2 (by omega)
  have e248 : (a == 248) = false := beq_eq_false_iff_ne.2 (by omega)
  have e253 : (a == 253) = false := beq_eq_false_iff_ne.2 (by omega)
  have e255 : (a == 255) = false := beq_eq_false_iff_ne.2 (by omega)
  have n215 : (a != 215) = true := by rw [bne_iff_ne]; omega
  have n930 : (a != 930) = true := by rw [bne_iff_ne]; omega
  go_enter Tryz.func91, Tryz.ntmps91
  go_wp2
  go_ret
  rw [HV.out]
  exact ⟨rfl, rfl⟩
set_option maxHeartbeats 400000 in
theorem specFold_w36 (a : Int) (w : World) (l : 1024 ≤ a) (u : a ≤ 1039) : Calls Tryz.prog 91 #[.int .i64 a] w fun e w' => e = .returned (.int .i64 (foldZ a)) ∧ w' = w := by
  have HV : Hid (foldZ a = a + 80) := by show _ = _; unfold foldZ accZ smlZ; repeat (first | rw [if_pos (by omega)] | rw [if_neg (by omega)])
  have e215 : (a == 215) = false := beq_eq_false_iff_ne.2 (by omega)
  have e930 : (a == 930) = false := beq_eq_false_iff_ne.2 (by omega)
  have e231 : (a == 231) = false := beq_eq_false_iff_ne.2 (by omega)
  have e241 : (a == 241) = false := beq_eq_false_iff_ne.2 (by omega)
  have e248 : (a == 248) = false := beq_eq_false_iff_ne.2 (by omega)
  have e253 : (a == 253) = false := beq_eq_false_iff_ne.2 (by omega)
  have e255 : (a == 255) = false := beq_eq_false_iff_ne.2 (by omega)
  have n215 : (a != 215) = true := by rw [bne_iff_ne]; omega
  have n930 : (a != 930) = true := by rw [bne_iff_ne]; omega
  have s231 : (a + 80 == 231) = false := beq_eq_false_iff_ne.2 (by omega)
  have s241 : (a + 80 == 241) = false := beq_eq_false_iff_ne.2 (by omega)
  have s248 : (a + 80 == 248) = false := beq_eq_false_iff_ne.2 (by omega)
  have s253 : (a + 80 == 253) = false := beq_eq_false_iff_ne.2 (by omega)
  have s255 : (a + 80 == 255) = false := beq_eq_false_iff_ne.2 (by omega)
  go_enter Tryz.func91, Tryz.ntmps91
  go_wp2
  go_ret
  rw [HV.out]
  exact ⟨rfl, rfl⟩
set_option maxHeartbeats 400000 in
theorem specFold_w37 (a : Int) (w : World) (l : 1040 ≤ a) (u : a ≤ 1071) : Calls Tryz.prog 91 #[.int .i64 a] w fun e w' => e = .returned (.int .i64 (foldZ a)) ∧ w' = w := by
  have HV : Hid (foldZ a = a + 32) := by show _ = _; unfold foldZ accZ smlZ; repeat (first | rw [if_pos (by omega)] | rw [if_neg (by omega)])
  have e215 : (a == 215) = false := beq_eq_false_iff_ne.2 (by omega)
  have e930 : (a == 930) = false := beq_eq_false_iff_ne.2 (by omega)
  have e231 : (a == 231) = false := beq_eq_false_iff_ne.2 (by omega)
  have e241 : (a == 241) = false := beq_eq_false_iff_ne.2 (by omega)
  have e248 : (a == 248) = false := beq_eq_false_iff_ne.2 (by omega)
  have e253 : (a == 253) = false := beq_eq_false_iff_ne.2 (by omega)
  have e255 : (a == 255) = false := beq_eq_false_iff_ne.2 (by omega)
  have n215 : (a != 215) = true := by rw [bne_iff_ne]; omega
  have n930 : (a != 930) = true := by rw [bne_iff_ne]; omega
  have s231 : (a + 32 == 231) = false := beq_eq_false_iff_ne.2 (by omega)
  have s241 : (a + 32 == 241) = false := beq_eq_false_iff_ne.2 (by omega)
  have s248 : (a + 32 == 248) = false := beq_eq_false_iff_ne.2 (by omega)
  have s253 : (a + 32 == 253) = false := beq_eq_false_iff_ne.2 (by omega)
  have s255 : (a + 32 == 255) = false := beq_eq_false_iff_ne.2 (by omega)
  go_enter Tryz.func91, Tryz.ntmps91
  go_wp2
  go_ret
  rw [HV.out]
  exact ⟨rfl, rfl⟩
set_option maxHeartbeats 400000 in
theorem specFold_w38 (a : Int) (w : World) (l : 1072 ≤ a) : Calls Tryz.prog 91 #[.int .i64 a] w fun e w' => e = .returned (.int .i64 (foldZ a)) ∧ w' = w := by
  have HV : Hid (foldZ a = a) := by show _ = _; unfold foldZ accZ smlZ; repeat (first | rw [if_pos (by omega)] | rw [if_neg (by omega)])
  have e215 : (a == 215) = false := beq_eq_false_iff_ne.2 (by omega)
  have e930 : (a == 930) = false := beq_eq_false_iff_ne.2 (by omega)
  have e231 : (a == 231) = false := beq_eq_false_iff_ne.2 (by omega)
  have e241 : (a == 241) = false := beq_eq_false_iff_ne.2 (by omega)
  have e248 : (a == 248) = false := beq_eq_false_iff_ne.2 (by omega)
  have e253 : (a == 253) = false := beq_eq_false_iff_ne.2 (by omega)
  have e255 : (a == 255) = false := beq_eq_false_iff_ne.2 (by omega)
  have n215 : (a != 215) = true := by rw [bne_iff_ne]; omega
  have n930 : (a != 930) = true := by rw [bne_iff_ne]; omega
  go_enter Tryz.func91, Tryz.ntmps91
  go_wp2
  go_ret
  rw [HV.out]
  exact ⟨rfl, rfl⟩
theorem specFold_any (a : Int) (w : World) : Calls Tryz.prog 91 #[.int .i64 a] w fun e w' => e = .returned (.int .i64 (foldZ a)) ∧ w' = w := by
  by_cases c0 : a < 65
  · exact specFold_w0 a w (by omega)
  by_cases c1 : a < 91
  · exact specFold_w1 a w (by omega) (by omega)
  by_cases c2 : a < 192
  · exact specFold_w2 a w (by omega) (by omega)
  by_cases c3 : a < 198
  · exact specFold_w3 a w (by omega) (by omega)
  by_cases c4 : a < 199
  · obtain rfl : a = 198 := by omega
    exact specFold_w4 w
  by_cases c5 : a < 200
  · obtain rfl : a = 199 := by omega
    exact specFold_w5 w
  by_cases c6 : a < 204
  · exact specFold_w6 a w (by omega) (by omega)
  by_cases c7 : a < 208
  · exact specFold_w7 a w (by omega) (by omega)
  by_cases c8 : a < 209
  · obtain rfl : a = 208 := by omega
    exact specFold_w8 w
  by_cases c9 : a < 210
  · obtain rfl : a = 209 := by omega
    exact specFold_w9 w
  by_cases c10 : a < 215
  · exact specFold_w10 a w (by omega) (by omega)
  by_cases c11 : a < 216
  · obtain rfl : a = 215 := by omega
    exact specFold_w11 w
  by_cases c12 : a < 217
  · obtain rfl : a = 216 := by omega
    exact specFold_w12 w
  by_cases c13 : a < 221
  · exact specFold_w13 a w (by omega) (by omega)
  by_cases c14 : a < 222
  · obtain rfl : a = 221 := by omega
    exact specFold_w14 w
  by_cases c15 : a < 223
  · obtain rfl : a = 222 := by omega
    exact specFold_w15 w
  by_cases c16 : a < 224
  · obtain rfl : a = 223 := by omega
    exact specFold_w16 w
  by_cases c17 : a < 230
  · exact specFold_w17 a w (by omega) (by omega)
  by_cases c18 : a < 231
  · obtain rfl : a = 230 := by omega
    exact specFold_w18 w
  by_cases c19 : a < 232
  · obtain rfl : a = 231 := by omega
    exact specFold_w19 w
  by_cases c20 : a < 236
  · exact specFold_w20 a w (by omega) (by omega)
  by_cases c21 : a < 240
  · exact specFold_w21 a w (by omega) (by omega)
  by_cases c22 : a < 241
  · obtain rfl : a = 240 := by omega
    exact specFold_w22 w
  by_cases c23 : a < 242
  · obtain rfl : a = 241 := by omega
    exact specFold_w23 w
  by_cases c24 : a < 247
  · exact specFold_w24 a w (by omega) (by omega)
  by_cases c25 : a < 248
  · obtain rfl : a = 247 := by omega
    exact specFold_w25 w
  by_cases c26 : a < 249
  · obtain rfl : a = 248 := by omega
    exact specFold_w26 w
  by_cases c27 : a < 253
  · exact specFold_w27 a w (by omega) (by omega)
  by_cases c28 : a < 254
  · obtain rfl : a = 253 := by omega
    exact specFold_w28 w
  by_cases c29 : a < 255
  · obtain rfl : a = 254 := by omega
    exact specFold_w29 w
  by_cases c30 : a < 256
  · obtain rfl : a = 255 := by omega
    exact specFold_w30 w
  by_cases c31 : a < 913
  · exact specFold_w31 a w (by omega) (by omega)
  by_cases c32 : a < 930
  · exact specFold_w32 a w (by omega) (by omega)
  by_cases c33 : a < 931
  · obtain rfl : a = 930 := by omega
    exact specFold_w33 w
  by_cases c34 : a < 940
  · exact specFold_w34 a w (by omega) (by omega)
  by_cases c35 : a < 1024
  · exact specFold_w35 a w (by omega) (by omega)
  by_cases c36 : a < 1040
  · exact specFold_w36 a w (by omega) (by omega)
  by_cases c37 : a < 1072
  · exact specFold_w37 a w (by omega) (by omega)
  exact specFold_w38 a w (by omega)
end Go.Proofs.YtionicjnoogpjaaGreatDoor
