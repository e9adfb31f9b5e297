import Derived.Test.YtionicjnoogpjaaGreatDoorProg
import Derived.Test.YtionicjnoogpjaaGreatDoorAnalyzJ02
import Derived.Test.YtionicjnoogpjaaGreatDoorAnalyzJ00
import Derived.WalkLawsBesides
import Derived.Test.YtionicjnoogpjaaGreatDoorAnalyzJ08
import Derived.Test.YtionicjnoogpjaaGreatDoorAnalyzJ19
import Derived.Test.YtionicjnoogpjaaGreatDoorAnalyzJ01
namespace Go.Proofs.YtionicjnoogpjaaGreatDoor
open Go Go.RowKit
set_option linter.unusedVariables false

set_option maxHeartbeats 400000 in
theorem specClass_w0 (a : Int) (w : World) (u : a ≤ 38) : Calls Tryz.prog 43 #[.int .i64 a] w fun e w' => e = .returned (.int .i64 (clsZ a)) ∧ w' = w := by
  have HV : Hid (clsZ a = 0) := by show _ = _; unfold clsZ; repeat (first | rw [if_pos (by omega)] | rw [if_neg (by omega)])
  have e215 : (a == 215) = false := beq_eq_false_iff_ne.2 (by omega)
  have e247 : (a == 247) = false := beq_eq_false_iff_ne.2 (by omega)
  have e39 : (a == 39) = false := beq_eq_false_iff_ne.2 (by omega)
  have e95 : (a == 95) = false := beq_eq_false_iff_ne.2 (by omega)
  have n215 : (a != 215) = true := by rw [bne_iff_ne]; omega
  have n247 : (a != 247) = true := by rw [bne_iff_ne]; omega
  go_enter Tryz.func43, Tryz.ntmps43
  go_wp2
  go_ret
  rw [HV.out]
  exact ⟨rfl, rfl⟩
set_option maxHeartbeats 400000 in
theorem specClass_w1 (w : World) : Calls Tryz.prog 43 #[.int .i64 39] w fun e w' => e = .returned (.int .i64 (clsZ 39)) ∧ w' = w := by
  have HV : Hid (clsZ 39 = 3) := by show _ = _; decide
  go_enter Tryz.func43, Tryz.ntmps43
  go_wp2
  go_ret
  rw [HV.out]
  exact ⟨rfl, rfl⟩
set_option maxHeartbeats 400000 in
theorem specClass_w2 (a : Int) (w : World) (l : 40 ≤ a) (u : a ≤ 47) : Calls Tryz.prog 43 #[.int .i64 a] w fun e w' => e = .returned (.int .i64 (clsZ a)) ∧ w' = w := by
  have HV : Hid (clsZ a = 0) := by show _ = _; unfold clsZ; repeat (first | rw [if_pos (by omega)] | rw [if_neg (by omega)])
  have e215 : (a == 215) = false := beq_eq_false_iff_ne.2 (by omega)
  have e247 : (a == 247) = false := beq_eq_false_iff_ne.2 (by omega)
  have e39 : (a == 39) = false := beq_eq_false_iff_ne.2 (by omega)
  have e95 : (a == 95) = false := beq_eq_false_iff_ne.2 (by omega)
  have n215 : (a != 215) = true := by rw [bne_iff_ne]; omega
  have n247 : (a != 247) = true := by rw [bne_iff_ne]; omega
  go_enter Tryz.func43, Tryz.ntmps43
  go_wp2
  go_ret
  rw [HV.out]
  exact ⟨rfl, rfl⟩
set_option maxHeartbeats 400000 in
theorem specClass_w3 (a : Int) (w : World) (l : 48 ≤ a) (u : a ≤ 57) : Calls Tryz.prog 43 #[.int .i64 a] w fun e w' => e = .returned (.int .i64 (clsZ a)) ∧ w' = w := by
  have HV : Hid (clsZ a = 2) := by show _ = _; unfold clsZ; repeat (first | rw [if_pos (by omega)] | rw [if_neg (by omega)])
  have e215 : (a == 215) = false := beq_eq_false_iff_ne.2 (by omega)
  have e247 : (a == 247) = false := beq_eq_false_iff_ne.2 (by omega)
  have e39 : (a == 39) = false := beq_eq_false_iff_ne.2 (by omega)
  have e95 : (a == 95) = false := beq_eq_false_iff_ne.2 (by omega)
  have n215 : (a != 215) = true := by rw [bne_iff_ne]; omega
  have n247 : (a != 247) = true := by rw [bne_iff_ne]; omega
  go_enter Tryz.func43, Tryz.ntmps43
  go_wp2
  go_ret
  rw [HV.out]
  exact ⟨rfl, rfl⟩
set_option maxHeartbeats 400000 in
theorem specClass_w4 (a : Int) (w : World) (l : 58 ≤ a) (u : a ≤ 64) : Calls Tryz.prog 43 #[.int .i64 a] w fun e w' => e = .returned (.int .i64 (clsZ a)) ∧ w' = w := by
  have HV : Hid (clsZ a = 0) := by show _ = _; unfold clsZ; repeat (first | rw [if_pos (by omega)] | rw [if_neg (by omega)])
  have e215 : (a == 215) = false := beq_eq_false_iff_ne.2 (by omega)
  have e247 : (a == 247) = false := beq_eq_false_iff_ne.2 (by omega)
  have e39 : (a == 39) = false := beq_eq_false_iff_ne.2 (by omega)
  have e95 : (a == 95) = false := beq_eq_false_iff_ne.2 (by omega)
  have n215 : (a != 215) = true := by rw [bne_iff_ne]; omega
  have n247 : (a != 247) = true := by rw [bne_iff_ne]; omega
  go_enter Tryz.func43, Tryz.ntmps43
  go_wp2
  go_ret
  rw [HV.out]
  exact ⟨rfl, rfl⟩
set_option maxHeartbeats 400000 in
theorem specClass_w5 (a : Int) (w : World) (l : 65 ≤ a) (u : a ≤ 90) : Calls Tryz.prog 43 #[.int .i64 a] w fun e w' => e = .returned (.int .i64 (clsZ a)) ∧ w' = w := by
  have HV : Hid (clsZ a = 1) := by show _ = _; unfold clsZ; repeat (first | rw [if_pos (by omega)] | rw [if_neg (by omega)])
  have e215 : (a == 215) = false := beq_eq_false_iff_ne.2 (by omega)
  have e247 : (a == 247) = false := beq_eq_false_iff_ne.2 (by omega)
  have e39 : (a == 39) = false := beq_eq_false_iff_ne.2 (by omega)
  have e95 : (a == 95) = false := beq_eq_false_iff_ne.2 (by omega)
  have n215 : (a != 215) = true := by rw [bne_iff_ne]; omega
  have n247 : (a != 247) = true := by rw [bne_iff_ne]; omega
  go_enter Tryz.func43, Tryz.ntmps43
  go_wp2
  go_ret
  rw [HV.out]
  exact ⟨rfl, rfl⟩
set_option maxHeartbeats 400000 in
theorem specClass_w6 (a : Int) (w : World) (l : 91 ≤ a) (u : a ≤ 94) : Calls Tryz.prog 43 #[.int .i64 a] w fun e w' => e = .returned (.int .i64 (clsZ a)) ∧ w' = w := by
  have HV : Hid (clsZ a = 0) := by show _ = _; unfold clsZ; repeat (first | rw [if_pos (by omega)] | rw [if_neg (by omega)])
  have e215 : (a == 215) = false := beq_eq_false_iff_ne.2 (by omega)
  have e247 : (a == 247) = false := beq_eq_false_iff_ne.2 (by omega)
  have e39 : (a == 39) = false := beq_eq_false_iff_ne.2 (by omega)
  have e95 : (a == 95) = false := beq_eq_false_iff_ne.2 (by omega)
  have n215 : (a != 215) = true := by rw [bne_iff_ne]; omega
  have n247 : (a != 247) = true := by rw [bne_iff_ne]; omega
  go_enter Tryz.func43, Tryz.ntmps43
  go_wp2
  go_ret
  rw [HV.out]
  exact ⟨rfl, rfl⟩
set_option maxHeartbeats 400000 in
theorem specClass_w7 (w : World) : Calls Tryz.prog 43 #[.int .i64 95] w fun e w' => e = .returned (.int .i64 (clsZ 95)) ∧ w' = w := by
  have HV : Hid (clsZ 95 = 3) := by show _ = _; decide
  go_enter Tryz.func43, Tryz.ntmps43
  go_wp2
  go_ret
  rw [HV.out]
  exact ⟨rfl, rfl⟩
set_option maxHeartbeats 400000 in
theorem specClass_w8 (w : World) : Calls Tryz.prog 43 #[.int .i64 96] w fun e w' => e = .returned (.int .i64 (clsZ 96)) ∧ w' = w := by
  have HV : Hid (clsZ 96 = 0) := by show _ = _; decide
  go_enter Tryz.func43, Tryz.ntmps43
  go_wp2
  go_ret
  rw [HV.out]
  exact ⟨rfl, rfl⟩
set_option maxHeartbeats 400000 in
theorem specClass_w9 (a : Int) (w : World) (l : 97 ≤ a) (u : a ≤ 122) : Calls Tryz.prog 43 #[.int .i64 a] w fun e w' => e = .returned (.int .i64 (clsZ a)) ∧ w' = w := by
  have HV : Hid (clsZ a = 1) := by show _ = _; unfold clsZ; repeat (first | rw [if_pos (by omega)] | rw [if_neg (by omega)])
  have e215 : (a == 215) = false := beq_eq_false_iff_ne.2 (by omega)
  have e247 : (a == 247) = false := beq_eq_false_iff_ne.2 (by omega)
  have e39 : (a == 39) = false := beq_eq_false_iff_ne.2 (by omega)
  have e95 : (a == 95) = false := beq_eq_false_iff_ne.2 (by omega)
  have n215 : (a != 215) = true := by rw [bne_iff_ne]; omega
  have n247 : (a != 247) = true := by rw [bne_iff_ne]; omega
  go_enter Tryz.func43, Tryz.ntmps43
  go_wp2
  go_ret
  rw [HV.out]
  exact ⟨rfl, rfl⟩
set_option maxHeartbeats 400000 in
theorem specClass_w10 (a : Int) (w : World) (l : 123 ≤ a) (u : a ≤ 191) : Calls Tryz.prog 43 #[.int .i64 a] w fun e w' => e = .returned (.int .i64 (clsZ a)) ∧ w' = w := by
  have HV : Hid (clsZ a = 0) := by show _ = _; unfold clsZ; repeat (first | rw [if_pos (by omega)] | rw [if_neg (by omega)])
  have e215 : (a == 215) = false := beq_eq_false_iff_ne.2 (by omega)
  have e247 : (a == 247) = false := beq_eq_false_iff_ne.2 (by omega)
  have e39 : (a == 39) = false := beq_eq_false_iff_ne.2 (by omega)
  have e95 : (a == 95) = false := beq_eq_false_iff_ne.2 (by omega)
  have n215 : (a != 215) = true := by rw [bne_iff_ne]; omega
  have n247 : (a != 247) = true := by rw [bne_iff_ne]; omega
  go_enter Tryz.func43, Tryz.ntmps43
  go_wp2
  go_ret
  rw [HV.out]
  exact ⟨rfl, rfl⟩
set_option maxHeartbeats 400000 in
theorem specClass_w11 (a : Int) (w : World) (l : 192 ≤ a) (u : a ≤ 214) : Calls Tryz.prog 43 #[.int .i64 a] w fun e w' => e = .returned (.int .i64 (clsZ a)) ∧ w' = w := by
  have HV : Hid (clsZ a = 1) := by show _ = _; unfold clsZ; repeat (first | rw [if_pos (by omega)] | rw [if_neg (by omega)])
  have e215 : (a == 215) = false := beq_eq_false_iff_ne.2 (by omega)
  have e247 : (a == 247) = false := beq_eq_false_iff_ne.2 (by omega)
  have e39 : (a == 39) = false := beq_eq_false_iff_ne.2 (by omega)
  have e95 : (a == 95) = false := beq_eq_false_iff_ne.2 (by omega)
  have n215 : (a != 215) = true := by rw [bne_iff_ne]; omega
  have n247 : (a != 247) = true := by rw [bne_iff_ne]; omega
  go_enter Tryz.func43, Tryz.ntmps43
  go_wp2
  go_ret
  rw [HV.out]
  exact ⟨rfl, rfl⟩
set_option maxHeartbeats 400000 in
theorem specClass_w12 (w : World) : Calls Tryz.prog 43 #[.int .i64 215] w fun e w' => e = .returned (.int .i64 (clsZ 215)) ∧ w' = w := by
  have HV : Hid (clsZ 215 = 0) := by show _ = _; decide
  go_enter Tryz.func43, Tryz.ntmps43
  go_wp2
  go_ret
  rw [HV.out]
  exact ⟨rfl, rfl⟩
set_option maxHeartbeats 400000 in
theorem specClass_w13 (a : Int) (w : World) (l : 216 ≤ a) (u : a ≤ 246) : Calls Tryz.prog 43 #[.int .i64 a] w fun e w' => e = .returned (.int .i64 (clsZ a)) ∧ w' = w := by
  have HV : Hid (clsZ a = 1) := by show _ = _; unfold clsZ; repeat (first | rw [if_pos (by omega)] | rw [if_neg (by omega)])
  have e215 : (a == 215) = false := beq_eq_false_iff_ne.2 (by omega)
  have e247 : (a == 247) = false := beq_eq_false_iff_ne.2 (by omega)
  have e39 : (a == 39) = false := beq_eq_false_iff_ne.2 (by omega)
  have e95 : (a == 95) = false := beq_eq_false_iff_ne.2 (by omega)
  have n215 : (a != 215) = true := by rw [bne_iff_ne]; omega
  have n247 : (a != 247) = true := by rw [bne_iff_ne]; omega
  go_enter Tryz.func43, Tryz.ntmps43
  go_wp2
  go_ret
  rw [HV.out]
  exact ⟨rfl, rfl⟩
set_option maxHeartbeats 400000 in
theorem specClass_w14 (w : World) : Calls Tryz.prog 43 #[.int .i64 247] w fun e w' => e = .returned (.int .i64 (clsZ 247)) ∧ w' = w := by
  have HV : Hid (clsZ 247 = 0) := by show _ = _; decide
  go_enter Tryz.func43, Tryz.ntmps43
  go_wp2
  go_ret
  rw [HV.out]
  exact ⟨rfl, rfl⟩
set_option maxHeartbeats 400000 in
theorem specClass_w15 (a : Int) (w : World) (l : 248 ≤ a) (u : a ≤ 591) : Calls Tryz.prog 43 #[.int .i64 a] w fun e w' => e = .returned (.int .i64 (clsZ a)) ∧ w' = w := by
  have HV : Hid (clsZ a = 1) := by show _ = _; unfold clsZ; repeat (first | rw [if_pos (by omega)] | rw [if_neg (by omega)])
  have e215 : (a == 215) = false := beq_eq_false_iff_ne.2 (by omega)
  have e247 : (a == 247) = false := beq_eq_false_iff_ne.2 (by omega)
  have e39 : (a == 39) = false := beq_eq_false_iff_ne.2 (by omega)
  have e95 : (a == 95) = false := beq_eq_false_iff_ne.2 (by omega)
  have n215 : (a != 215) = true := by rw [bne_iff_ne]; omega
  have n247 : (a != 247) = true := by rw [bne_iff_ne]; omega
  go_enter Tryz.func43, Tryz.ntmps43
  go_wp2
  go_ret
  rw [HV.out]
  exact ⟨rfl, rfl⟩
set_option maxHeartbeats 400000 in
theorem specClass_w16 (a : Int) (w : World) (l : 592 ≤ a) (u : a ≤ 879) : Calls Tryz.prog 43 #[.int .i64 a] w fun e w' => e = .returned (.int .i64 (clsZ a)) ∧ w' = w := by
  have HV : Hid (clsZ a = 0) := by show _ = _; unfold clsZ; repeat (first | rw [if_pos (by omega)] | rw [if_neg (by omega)])
  have e215 : (a == 215) = false := beq_eq_false_iff_ne.2 (by omega)
  have e247 : (a == 247) = false := beq_eq_false_iff_ne.2 (by omega)
  have e39 : (a == 39) = false := beq_eq_false_iff_ne.2 (by omega)
  have e95 : (a == 95) = false := beq_eq_false_iff_ne.2 (by omega)
  have n215 : (a != 215) = true := by rw [bne_iff_ne]; omega
  have n247 : (a != 247) = true := by rw [bne_iff_ne]; omega
  go_enter Tryz.func43, Tryz.ntmps43
  go_wp2
  go_ret
  rw [HV.out]
  exact ⟨rfl, rfl⟩
set_option maxHeartbeats 400000 in
theorem specClass_w17 (a : Int) (w : World) (l : 880 ≤ a) (u : a ≤ 1279) : Calls Tryz.prog 43 #[.int .i64 a] w fun e w' => e = .returned (.int .i64 (clsZ a)) ∧ w' = w := by
  have HV : Hid (clsZ a = 1) := by show _ = _; unfold clsZ; repeat (first | rw [if_pos (by omega)] | rw [if_neg (by omega)])
  have e215 : (a == 215) = false := beq_eq_false_iff_ne.2 (by omega)
  have e247 : (a == 247) = false := beq_eq_false_iff_ne.2 (by omega)
  have e39 : (a == 39) = false := beq_eq_false_iff_ne.2 (by omega)
  have e95 : (a == 95) = false := beq_eq_false_iff_ne.2 (by omega)
  have n215 : (a != 215) = true := by rw [bne_iff_ne]; omega
  have n247 : (a != 247) = true := by rw [bne_iff_ne]; omega
  go_enter Tryz.func43, Tryz.ntmps43
  go_wp2
  go_ret
  rw [HV.out]
  exact ⟨rfl, rfl⟩
set_option maxHeartbeats 400000 in
theorem specClass_w18 (a : Int) (w : World) (l : 1280 ≤ a) (u : a ≤ 12351) : Calls Tryz.prog 43 #[.int .i64 a] w fun e w' => e = .returned (.int .i64 (clsZ a)) ∧ w' = w := by
  have HV : Hid (clsZ a = 0) := by show _ = _; unfold clsZ; repeat (first | rw [if_pos (by omega)] | rw [if_neg (by omega)])
  have e215 : (a == 215) = false := beq_eq_false_iff_ne.2 (by omega)
  have e247 : (a == 247) = false := beq_eq_false_iff_ne.2 (by omega)
  have e39 : (a == 39) = false := beq_eq_false_iff_ne.2 (by omega)
  have e95 : (a == 95) = false := beq_eq_false_iff_ne.2 (by omega)
  have n215 : (a != 215) = true := by rw [bne_iff_ne]; omega
  have n247 : (a != 247) = true := by rw [bne_iff_ne]; omega
  go_enter Tryz.func43, Tryz.ntmps43
  go_wp2
  go_ret
  rw [HV.out]
  exact ⟨rfl, rfl⟩
set_option maxHeartbeats 400000 in
theorem specClass_w19 (a : Int) (w : World) (l : 12352 ≤ a) (u : a ≤ 12543) : Calls Tryz.prog 43 #[.int .i64 a] w fun e w' => e = .returned (.int .i64 (clsZ a)) ∧ w' = w := by
  have HV : Hid (clsZ a = 4) := by show _ = _; unfold clsZ; repeat (first | rw [if_pos (by omega)] | rw [if_neg (by omega)])
  have e215 : (a == 215) = false := beq_eq_false_iff_ne.2 (by omega)
  have e247 : (a == 247) = false := beq_eq_false_iff_ne.2 (by omega)
  have e39 : (a == 39) = false := beq_eq_false_iff_ne.2 (by omega)
  have e95 : (a == 95) = false := beq_eq_false_iff_ne.2 (by omega)
  have n215 : (a != 215) = true := by rw [bne_iff_ne]; omega
  have n247 : (a != 247) = true := by rw [bne_iff_ne]; omega
  go_enter Tryz.func43, Tryz.ntmps43
  go_wp2
  go_ret
  rw [HV.out]
  exact ⟨rfl, rfl⟩
set_option maxHeartbeats 400000 in
theorem specClass_w20 (a : Int) (w : World) (l : 12544 ≤ a) (u : a ≤ 19967) : Calls Tryz.prog 43 #[.int .i64 a] w fun e w' => e = .returned (.int .i64 (clsZ a)) ∧ w' = w := by
  have HV : Hid (clsZ a = 0) := by show _ = _; unfold clsZ; repeat (first | rw [if_pos (by omega)] | rw [if_neg (by omega)])
  have e215 : (a == 215) = false := beq_eq_false_iff_ne.2 (by omega)
  have e247 : (a == 247) = false := beq_eq_false_iff_ne.2 (by omega)
  have e39 : (a == 39) = false := beq_eq_false_iff_ne.2 (by omega)
  have e95 : (a == 95) = false := beq_eq_false_iff_ne.2 (by omega)
  have n215 : (a != 215) = true := by rw [bne_iff_ne]; omega
  have n247 : (a != 247) = true := by rw [bne_iff_ne]; omega
  go_enter Tryz.func43, Tryz.ntmps43
  go_wp2
  go_ret
  rw [HV.out]
  exact ⟨rfl, rfl⟩
set_option maxHeartbeats 400000 in
theorem specClass_w21 (a : Int) (w : World) (l : 19968 ≤ a) (u : a ≤ 40959) : Calls Tryz.prog 43 #[.int .i64 a] w fun e w' => e = .returned (.int .i64 (clsZ a)) ∧ w' = w := by
  have HV : Hid (clsZ a = 4) := by show _ = _; unfold clsZ; repeat (first | rw [if_pos (by omega)] | rw [if_neg (by omega)])
  have e215 : (a == 215) = false := beq_eq_false_iff_ne.2 (by omega)
  have e247 : (a == 247) = false := beq_eq_false_iff_ne.2 (by omega)
  have e39 : (a == 39) = false := beq_eq_false_iff_ne.2 (by omega)
  have e95 : (a == 95) = false := beq_eq_false_iff_ne.2 (by omega)
  have n215 : (a != 215) = true := by rw [bne_iff_ne]; omega
  have n247 : (a != 247) = true := by rw [bne_iff_ne]; omega
  go_enter Tryz.func43, Tryz.ntmps43
  go_wp2
  go_ret
  rw [HV.out]
  exact ⟨rfl, rfl⟩
set_option maxHeartbeats 400000 in
theorem specClass_w22 (a : Int) (w : World) (l : 40960 ≤ a) : Calls Tryz.prog 43 #[.int .i64 a] w fun e w' => e = .returned (.int .i64 (clsZ a)) ∧ w' = w := by
  have HV : Hid (clsZ a = 0) := by show _ = _; unfold clsZ; repeat (first | rw [if_pos (by omega)] | rw [if_neg (by omega)])
  have e215 : (a == 215) = false := beq_eq_false_iff_ne.2 (by omega)
  have e247 : (a == 247) = false := beq_eq_false_iff_ne.2 (by omega)
  have e39 : (a == 39) = false := beq_eq_false_iff_ne.2 (by omega)
  have e95 : (a == 95) = false := beq_eq_false_iff_ne.2 (by omega)
  have n215 : (a != 215) = true := by rw [bne_iff_ne]; omega
  have n247 : (a != 247) = true := by rw [bne_iff_ne]; omega
  go_enter Tryz.func43, Tryz.ntmps43
  go_wp2
  go_ret
  rw [HV.out]
  exact ⟨rfl, rfl⟩
theorem specClass_any (a : Int) (w : World) : Calls Tryz.prog 43 #[.int .i64 a] w fun e w' => e = .returned (.int .i64 (clsZ a)) ∧ w' = w := by
  by_cases c0 : a < 39
  · exact specClass_w0 a w (by omega)
  by_cases c1 : a < 40
  · obtain rfl : a = 39 := by omega
    exact specClass_w1 w
  by_cases c2 : a < 48
  · exact specClass_w2 a w (by omega) (by omega)
  by_cases c3 : a < 58
  · exact specClass_w3 a w (by omega) (by omega)
  by_cases c4 : a < 65
  · exact specClass_w4 a w (by omega) (by omega)
  by_cases c5 : a < 91
  · exact specClass_w5 a w (by omega) (by omega)
  by_cases c6 : a < 95
  · exact specClass_w6 a w (by omega) (by omega)
  by_cases c7 : a < 96
  · obtain rfl : a = 95 := by omega
    exact specClass_w7 w
  by_cases c8 : a < 97
  · obtain rfl : a = 96 := by omega
    exact specClass_w8 w
  by_cases c9 : a < 123
  · exact specClass_w9 a w (by omega) (by omega)
  by_cases c10 : a < 192
  · exact specClass_w10 a w (by omega) (by omega)
  by_cases c11 : a < 215
  · exact specClass_w11 a w (by omega) (by omega)
  by_cases c12 : a < 216
  · obtain rfl : a = 215 := by omega
    exact specClass_w12 w
  by_cases c13 : a < 247
  · exact specClass_w13 a w (by omega) (by omega)
  by_cases c14 : a < 248
  · obtain rfl : a = 247 := by omega
    exact specClass_w14 w
  by_cases c15 : a < 592
  · exact specClass_w15 a w (by omega) (by omega)
  by_cases c16 : a < 880
  · exact specClass_w16 a w (by omega) (by omega)
  by_cases c17 : a < 1280
  · exact specClass_w17 a w (by omega) (by omega)
  by_cases c18 : a < 12352
  · exact specClass_w18 a w (by omega) (by omega)
  by_cases c19 : a < 12544
  · exact specClass_w19 a w (by omega) (by omega)
  by_cases c20 : a < 19968
  · exact specClass_w20 a w (by omega) (by omega)
  by_cases c21 : a < 40960
  · exact specClass_w21 a w (by omega) (by omega)
  exact specClass_w22 a w (by omega)
end Go.Proofs.YtionicjnoogpjaaGreatDoor

namespace Go.Proofs.YtionicjnoogpjaaGreatDoor
open Go Go.RowKit
set_option linter.unusedVariables false

set_option maxHeartbeats 400000 in
theorem inner_any (r : Int) (w : World) : Calls Tryz.prog 44 #[.int .i64 r] w fun e w' => e = .returned (.bool (innB r)) ∧ w' = w := by
  have Hi : Hid (innB r = (clsZ r == 1 || clsZ r == 2)) := rfl
  have hch := hidd (specClass_any r)
  generalize clsZ r = c at *
  by_cases h1 : (c == 1) = true
  · have HV : Hid (innB r = true) := by show _ = _; rw [Hi.out, h1]; rfl
    clear Hi
    go_enter Tryz.func44, Tryz.ntmps44
    go_wp2_with fail
    refine (hch.out _).mono ?_
    rintro e w1 ⟨rfl, rfl⟩
    go_wp2
    go_ret
    rw [HV.out]
    exact ⟨rfl, rfl⟩
  · have h1' : (c == 1) = false := by simpa using h1
    have HV : Hid (innB r = (c == 2)) := by show _ = _; rw [Hi.out, h1']; rfl
    clear Hi h1
    go_enter Tryz.func44, Tryz.ntmps44
    go_wp2_with fail
    refine (hch.out _).mono ?_
    rintro e w1 ⟨rfl, rfl⟩
    go_wp2
    go_ret
    rw [HV.out]
    exact ⟨rfl, rfl⟩
/-- Where the words that are told stand against the list of characters. -/
def SpAt (L : List Int) (i a : Nat) (acc all : List Tk) : Prop := ∃ f, (L.drop i).length ≤ f ∧ acc ++ toks f (L.drop i) a acc.length = all
theorem SpAt_start (L : List Int) : SpAt L 0 0 [] (toks L.length L 0 0) := ⟨L.length, Nat.le_refl _, rfl⟩
theorem SpAt_end (L : List Int) (i a : Nat) (acc all : List Tk) (hi : ¬ i < L.length) (h : SpAt L i a acc all) : all = acc := by
  obtain ⟨f, _, h⟩ := h
  rw [List.drop_of_length_le (by omega), toks_nil, List.append_nil] at h
  exact h.symm
theorem drop_cons (L : List Int) (i : Nat) (h : i < L.length) : L.drop i = L[i] :: L.drop (i + 1) := by rw [List.drop_eq_getElem_cons h]
theorem SpAt_skip (L : List Int) (i a : Nat) (acc all : List Tk) (hi : i < L.length) (hk : wordK (L.drop i) = 0) (h : SpAt L i a acc all) : SpAt L (i + 1) (a + (Lib.runeCells L[i]).length) acc all := by
  obtain ⟨f, hf, h⟩ := h
  rw [drop_cons L i hi] at h hf hk
  obtain ⟨g, rfl⟩ : ∃ g, f = g + 1 := ⟨f - 1, by simp at hf; omega⟩
  rw [toks_skip g _ _ _ _ hk] at h
  have eb : blen [L[i]] = (Lib.runeCells L[i]).length := by rw [blen_cons, blen_nil, Lib.runeCells_length]; rfl
  rw [eb] at h
  exact ⟨g, by simp at hf ⊢; omega, h⟩
theorem SpAt_word (L : List Int) (i a k : Nat) (acc all : List Tk) (hi : i < L.length) (hk : wordK (L.drop i) = k) (hk0 : ¬ k = 0) (h : SpAt L i a acc all) :
    (acc ++ [(encs ((L.drop i).take k), acc.length, a, a + blen ((L.drop i).take k))]).length ≤ all.length ∧ SpAt L (i + k) (a + blen ((L.drop i).take k)) (acc ++ [(encs ((L.drop i).take k), acc.length, a, a + blen ((L.drop i).take k))]) all := by
  obtain ⟨f, hf, h⟩ := h
  have hx := h
  rw [drop_cons L i hi] at hx hf hk
  obtain ⟨g, rfl⟩ : ∃ g, f = g + 1 := ⟨f - 1, by simp at hf; omega⟩
  rw [toks_word g _ _ _ _ (by rw [hk]; exact hk0), hk, ← drop_cons L i hi, List.drop_drop] at hx
  have hx2 : (acc ++ [(encs ((L.drop i).take k), acc.length, a, a + blen ((L.drop i).take k))]) ++ toks g (L.drop (i + k)) (a + blen ((L.drop i).take k)) (acc ++ [(encs ((L.drop i).take k), acc.length, a, a + blen ((L.drop i).take k))]).length = all := by
    rw [← hx, List.length_append]
    simp
  refine ⟨by have := congrArg List.length hx2; rw [List.length_append] at this; omega, g, ?_, hx2⟩
  simp at hf ⊢
  omega
/-- The walk along a run of the list. -/
def RunL (L : List Int) (i k : Nat) : Prop := i + runK (L.drop i) = k + runK (L.drop k) ∧ (k = i ∨ (i < k ∧ (innB (L.getD (k - 1) 0) = true ∨ headInn (L.drop k) = true)))
theorem RunL_inn (L : List Int) (i k : Nat) (hk : k < L.length) (hi : i ≤ k) (h : RunL L i k) (hin : innB L[k] = true) : RunL L i (k + 1) := by
  obtain ⟨h1, h2⟩ := h
  refine ⟨?_, Or.inr ⟨by omega, Or.inl ?_⟩⟩
  · rw [h1, drop_cons L k hk, runK_inn _ _ hin]; omega
  · have e : L.getD (k + 1 - 1) 0 = L[k] := by simp [hk]
    rw [e]; exact hin
theorem RunL_mark (L : List Int) (i k : Nat) (hk : k < L.length) (hi : i ≤ k) (h : RunL L i k) (hin : innB L[k] = false) (hm : (clsZ L[k] == 3) = true) (hn : headInn (L.drop (k + 1)) = true) : RunL L i (k + 1) := by
  obtain ⟨h1, h2⟩ := h
  refine ⟨?_, Or.inr ⟨by omega, Or.inr hn⟩⟩
  rw [h1, drop_cons L k hk, runK_mark _ _ hin hm hn]; omega
theorem RunL_stop (L : List Int) (i k : Nat) (hk : k < L.length) (h : RunL L i k) (hin : innB L[k] = false) (hm : (clsZ L[k] == 3) = false ∨ headInn (L.drop (k + 1)) = false) : runK (L.drop i) = k - i := by
  obtain ⟨h1, h2⟩ := h
  rw [drop_cons L k hk, runK_stop _ _ hin hm] at h1
  omega
theorem RunL_end (L : List Int) (i k : Nat) (hk : ¬ k < L.length) (h : RunL L i k) : runK (L.drop i) = k - i := by
  obtain ⟨h1, h2⟩ := h
  rw [List.drop_of_length_le (by omega : L.length ≤ k)] at h1
  simp [runK] at h1
  omega
theorem RunL_prev (L : List Int) (i k : Nat) (hk : k < L.length) (hi : i < k) (h : RunL L i k) (hin : innB L[k] = false) : innB (L.getD (k - 1) 0) = true := by
  rcases h.2 with rfl | ⟨_, h | h⟩
  · omega
  · exact h
  · rw [drop_cons L k hk] at h
    exact absurd h (by show ¬ innB L[k] = true; rw [hin]; simp)
theorem head_at (L : List Int) (k : Nat) (hk : k < L.length) : headInn (L.drop k) = innB L[k] := by rw [drop_cons L k hk]; rfl
theorem head_none (L : List Int) (k : Nat) (hk : ¬ k < L.length) : headInn (L.drop k) = false := by rw [List.drop_of_length_le (by omega)]; rfl
theorem own_cap {w : World} {base e g n cap : Nat} {xs : List Value} (h : w.ownsRow base e 1 (.slice (some ⟨g, 0, none⟩) n cap) n xs) : n ≤ cap := by
  rcases h.2 with ⟨h', _⟩ | ⟨g', cap', cur, h', _, _, hc, _⟩
  · simp at h'
  · simp only [Value.slice.injEq, Option.some.injEq, Addr.mk.injEq, and_true, true_and] at h'
    obtain ⟨_, rfl⟩ := h'
    exact hc
end Go.Proofs.YtionicjnoogpjaaGreatDoor
