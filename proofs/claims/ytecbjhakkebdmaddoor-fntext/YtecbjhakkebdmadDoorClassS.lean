import Derived.Test.YtecbjhakkebdmadDoorProg
import Derived.Test.YtecbjhakkebdmadDoorFoldP
import Derived.Test.YtecbjhakkebdmadDoorAid
import Derived.WalkLawsBesides
namespace Go.Proofs.YtecbjhakkebdmadDoor
open Go Go.RowKit
set_option linter.unusedVariables false

set_option maxHeartbeats 400000 in
theorem specClass_w0 (a : Int) (w : World) (u : a ≤ 38) : Calls Tryd.prog 29 #[.int .i64 a] w fun e w' => e = .returned (.int .i64 (clsZ a)) ∧ w' = w := by
  have HV : Hid (clsZ a = 0) := by show _ = _; unfold clsZ; repeat (first | rw [if_pos (by omega)] | rw [if_neg (by omega)])
  have e215 : (a == 215) = false := beq_eq_false_iff_ne.2 (by omega)
  have e247 : (a == 247) = false := beq_eq_false_iff_ne.2 (by omega)
  have e39 : (a == 39) = false := beq_eq_false_iff_ne.2 (by omega)
  have e95 : (a == 95) = false := beq_eq_false_iff_ne.2 (by omega)
  have n215 : (a != 215) = true := by rw [bne_iff_ne]; omega
  have n247 : (a != 247) = true := by rw [bne_iff_ne]; omega
  go_enter Tryd.func29, Tryd.ntmps29
  go_wp2
  go_ret
  rw [HV.out]
  exact ⟨rfl, rfl⟩

set_option maxHeartbeats 400000 in
theorem specClass_w1 (w : World) : Calls Tryd.prog 29 #[.int .i64 39] w fun e w' => e = .returned (.int .i64 (clsZ 39)) ∧ w' = w := by
  have HV : Hid (clsZ 39 = 3) := by show _ = _; decide
  go_enter Tryd.func29, Tryd.ntmps29
  go_wp2
  go_ret
  rw [HV.out]
  exact ⟨rfl, rfl⟩

set_option maxHeartbeats 400000 in
theorem specClass_w2 (a : Int) (w : World) (l : 40 ≤ a) (u : a ≤ 47) : Calls Tryd.prog 29 #[.int .i64 a] w fun e w' => e = .returned (.int .i64 (clsZ a)) ∧ w' = w := by
  have HV : Hid (clsZ a = 0) := by show _ = _; unfold clsZ; repeat (first | rw [if_pos (by omega)] | rw [if_neg (by omega)])
  have e215 : (a == 215) = false := beq_eq_false_iff_ne.2 (by omega)
  have e247 : (a == 247) = false := beq_eq_false_iff_ne.2 (by omega)
  have e39 : (a == 39) = false := beq_eq_false_iff_ne.2 (by omega)
  have e95 : (a == 95) = false := beq_eq_false_iff_ne.2 (by omega)
  have n215 : (a != 215) = true := by rw [bne_iff_ne]; omega
  have n247 : (a != 247) = true := by rw [bne_iff_ne]; omega
  go_enter Tryd.func29, Tryd.ntmps29
  go_wp2
  go_ret
  rw [HV.out]
  exact ⟨rfl, rfl⟩

set_option maxHeartbeats 400000 in
theorem specClass_w3 (a : Int) (w : World) (l : 48 ≤ a) (u : a ≤ 57) : Calls Tryd.prog 29 #[.int .i64 a] w fun e w' => e = .returned (.int .i64 (clsZ a)) ∧ w' = w := by
  have HV : Hid (clsZ a = 2) := by show _ = _; unfold clsZ; repeat (first | rw [if_pos (by omega)] | rw [if_neg (by omega)])
  have e215 : (a == 215) = false := beq_eq_false_iff_ne.2 (by omega)
  have e247 : (a == 247) = false := beq_eq_false_iff_ne.2 (by omega)
  have e39 : (a == 39) = false := beq_eq_false_iff_ne.2 (by omega)
  have e95 : (a == 95) = false := beq_eq_false_iff_ne.2 (by omega)
  have n215 : (a != 215) = true := by rw [bne_iff_ne]; omega
  have n247 : (a != 247) = true := by rw [bne_iff_ne]; omega
  go_enter Tryd.func29, Tryd.ntmps29
  go_wp2
  go_ret
  rw [HV.out]
  exact ⟨rfl, rfl⟩

set_option maxHeartbeats 400000 in
theorem specClass_w4 (a : Int) (w : World) (l : 58 ≤ a) (u : a ≤ 64) : Calls Tryd.prog 29 #[.int .i64 a] w fun e w' => e = .returned (.int .i64 (clsZ a)) ∧ w' = w := by
  have HV : Hid (clsZ a = 0) := by show _ = _; unfold clsZ; repeat (first | rw [if_pos (by omega)] | rw [if_neg (by omega)])
  have e215 : (a == 215) = false := beq_eq_false_iff_ne.2 (by omega)
  have e247 : (a == 247) = false := beq_eq_false_iff_ne.2 (by omega)
  have e39 : (a == 39) = false := beq_eq_false_iff_ne.2 (by omega)
  have e95 : (a == 95) = false := beq_eq_false_iff_ne.2 (by omega)
  have n215 : (a != 215) = true := by rw [bne_iff_ne]; omega
  have n247 : (a != 247) = true := by rw [bne_iff_ne]; omega
  go_enter Tryd.func29, Tryd.ntmps29
  go_wp2
  go_ret
  rw [HV.out]
  exact ⟨rfl, rfl⟩

set_option maxHeartbeats 400000 in
theorem specClass_w5 (a : Int) (w : World) (l : 65 ≤ a) (u : a ≤ 90) : Calls Tryd.prog 29 #[.int .i64 a] w fun e w' => e = .returned (.int .i64 (clsZ a)) ∧ w' = w := by
  have HV : Hid (clsZ a = 1) := by show _ = _; unfold clsZ; repeat (first | rw [if_pos (by omega)] | rw [if_neg (by omega)])
  have e215 : (a == 215) = false := beq_eq_false_iff_ne.2 (by omega)
  have e247 : (a == 247) = false := beq_eq_false_iff_ne.2 (by omega)
  have e39 : (a == 39) = false := beq_eq_false_iff_ne.2 (by omega)
  have e95 : (a == 95) = false := beq_eq_false_iff_ne.2 (by omega)
  have n215 : (a != 215) = true := by rw [bne_iff_ne]; omega
  have n247 : (a != 247) = true := by rw [bne_iff_ne]; omega
  go_enter Tryd.func29, Tryd.ntmps29
  go_wp2
  go_ret
  rw [HV.out]
  exact ⟨rfl, rfl⟩

set_option maxHeartbeats 400000 in
theorem specClass_w6 (a : Int) (w : World) (l : 91 ≤ a) (u : a ≤ 94) : Calls Tryd.prog 29 #[.int .i64 a] w fun e w' => e = .returned (.int .i64 (clsZ a)) ∧ w' = w := by
  have HV : Hid (clsZ a = 0) := by show _ = _; unfold clsZ; repeat (first | rw [if_pos (by omega)] | rw [if_neg (by omega)])
  have e215 : (a == 215) = false := beq_eq_false_iff_ne.2 (by omega)
  have e247 : (a == 247) = false := beq_eq_false_iff_ne.2 (by omega)
  have e39 : (a == 39) = false := beq_eq_false_iff_ne.2 (by omega)
  have e95 : (a == 95) = false := beq_eq_false_iff_ne.2 (by omega)
  have n215 : (a != 215) = true := by rw [bne_iff_ne]; omega
  have n247 : (a != 247) = true := by rw [bne_iff_ne]; omega
  go_enter Tryd.func29, Tryd.ntmps29
  go_wp2
  go_ret
  rw [HV.out]
  exact ⟨rfl, rfl⟩

set_option maxHeartbeats 400000 in
theorem specClass_w7 (w : World) : Calls Tryd.prog 29 #[.int .i64 95] w fun e w' => e = .returned (.int .i64 (clsZ 95)) ∧ w' = w := by
  have HV : Hid (clsZ 95 = 3) := by show _ = _; decide
  go_enter Tryd.func29, Tryd.ntmps29
  go_wp2
  go_ret
  rw [HV.out]
  exact ⟨rfl, rfl⟩

set_option maxHeartbeats 400000 in
theorem specClass_w8 (w : World) : Calls Tryd.prog 29 #[.int .i64 96] w fun e w' => e = .returned (.int .i64 (clsZ 96)) ∧ w' = w := by
  have HV : Hid (clsZ 96 = 0) := by show _ = _; decide
  go_enter Tryd.func29, Tryd.ntmps29
  go_wp2
  go_ret
  rw [HV.out]
  exact ⟨rfl, rfl⟩

set_option maxHeartbeats 400000 in
theorem specClass_w9 (a : Int) (w : World) (l : 97 ≤ a) (u : a ≤ 122) : Calls Tryd.prog 29 #[.int .i64 a] w fun e w' => e = .returned (.int .i64 (clsZ a)) ∧ w' = w := by
  have HV : Hid (clsZ a = 1) := by show _ = _; unfold clsZ; repeat (first | rw [if_pos (by omega)] | rw [if_neg (by omega)])
  have e215 : (a == 215) = false := beq_eq_false_iff_ne.2 (by omega)
  have e247 : (a == 247) = false := beq_eq_false_iff_ne.2 (by omega)
  have e39 : (a == 39) = false := beq_eq_false_iff_ne.2 (by omega)
  have e95 : (a == 95) = false := beq_eq_false_iff_ne.2 (by omega)
  have n215 : (a != 215) = true := by rw [bne_iff_ne]; omega
  have n247 : (a != 247) = true := by rw [bne_iff_ne]; omega
  go_enter Tryd.func29, Tryd.ntmps29
  go_wp2
  go_ret
  rw [HV.out]
  exact ⟨rfl, rfl⟩

set_option maxHeartbeats 400000 in
theorem specClass_w10 (a : Int) (w : World) (l : 123 ≤ a) (u : a ≤ 191) : Calls Tryd.prog 29 #[.int .i64 a] w fun e w' => e = .returned (.int .i64 (clsZ a)) ∧ w' = w := by
  have HV : Hid (clsZ a = 0) := by show _ = _; unfold clsZ; repeat (first | rw [if_pos (by omega)] | rw [if_neg (by omega)])
  have e215 : (a == 215) = false := beq_eq_false_iff_ne.2 (by omega)
  have e247 : (a == 247) = false := beq_eq_false_iff_ne.2 (by omega)
  have e39 : (a == 39) = false := beq_eq_false_iff_ne.2 (by omega)
  have e95 : (a == 95) = false := beq_eq_false_iff_ne.2 (by omega)
  have n215 : (a != 215) = true := by rw [bne_iff_ne]; omega
  have n247 : (a != 247) = true := by rw [bne_iff_ne]; omega
  go_enter Tryd.func29, Tryd.ntmps29
  go_wp2
  go_ret
  rw [HV.out]
  exact ⟨rfl, rfl⟩

set_option maxHeartbeats 400000 in
theorem specClass_w11 (a : Int) (w : World) (l : 192 ≤ a) (u : a ≤ 214) : Calls Tryd.prog 29 #[.int .i64 a] w fun e w' => e = .returned (.int .i64 (clsZ a)) ∧ w' = w := by
  have HV : Hid (clsZ a = 1) := by show _ = _; unfold clsZ; repeat (first | rw [if_pos (by omega)] | rw [if_neg (by omega)])
  have e215 : (a == 215) = false := beq_eq_false_iff_ne.2 (by omega)
  have e247 : (a == 247) = false := beq_eq_false_iff_ne.2 (by omega)
  have e39 : (a == 39) = false := beq_eq_false_iff_ne.2 (by omega)
  have e95 : (a == 95) = false := beq_eq_false_iff_ne.2 (by omega)
  have n215 : (a != 215) = true := by rw [bne_iff_ne]; omega
  have n247 : (a != 247) = true := by rw [bne_iff_ne]; omega
  go_enter Tryd.func29, Tryd.ntmps29
  go_wp2
  go_ret
  rw [HV.out]
  exact ⟨rfl, rfl⟩

set_option maxHeartbeats 400000 in
theorem specClass_w12 (w : World) : Calls Tryd.prog 29 #[.int .i64 215] w fun e w' => e = .returned (.int .i64 (clsZ 215)) ∧ w' = w := by
  have HV : Hid (clsZ 215 = 0) := by show _ = _; decide
  go_enter Tryd.func29, Tryd.ntmps29
  go_wp2
  go_ret
  rw [HV.out]
  exact ⟨rfl, rfl⟩

set_option maxHeartbeats 400000 in
theorem specClass_w13 (a : Int) (w : World) (l : 216 ≤ a) (u : a ≤ 246) : Calls Tryd.prog 29 #[.int .i64 a] w fun e w' => e = .returned (.int .i64 (clsZ a)) ∧ w' = w := by
  have HV : Hid (clsZ a = 1) := by show _ = _; unfold clsZ; repeat (first | rw [if_pos (by omega)] | rw [if_neg (by omega)])
  have e215 : (a == 215) = false := beq_eq_false_iff_ne.2 (by omega)
  have e247 : (a == 247) = false := beq_eq_false_iff_ne.2 (by omega)
  have e39 : (a == 39) = false := beq_eq_false_iff_ne.2 (by omega)
  have e95 : (a == 95) = false := beq_eq_false_iff_ne.2 (by omega)
  have n215 : (a != 215) = true := by rw [bne_iff_ne]; omega
  have n247 : (a != 247) = true := by rw [bne_iff_ne]; omega
  go_enter Tryd.func29, Tryd.ntmps29
  go_wp2
  go_ret
  rw [HV.out]
  exact ⟨rfl, rfl⟩

set_option maxHeartbeats 400000 in
theorem specClass_w14 (w : World) : Calls Tryd.prog 29 #[.int .i64 247] w fun e w' => e = .returned (.int .i64 (clsZ 247)) ∧ w' = w := by
  have HV : Hid (clsZ 247 = 0) := by show _ = _; decide
  go_enter Tryd.func29, Tryd.ntmps29
  go_wp2
  go_ret
  rw [HV.out]
  exact ⟨rfl, rfl⟩

set_option maxHeartbeats 400000 in
theorem specClass_w15 (a : Int) (w : World) (l : 248 ≤ a) (u : a ≤ 591) : Calls Tryd.prog 29 #[.int .i64 a] w fun e w' => e = .returned (.int .i64 (clsZ a)) ∧ w' = w := by
  have HV : Hid (clsZ a = 1) := by show _ = _; unfold clsZ; repeat (first | rw [if_pos (by omega)] | rw [if_neg (by omega)])
  have e215 : (a == 215) = false := beq_eq_false_iff_ne.2 (by omega)
  have e247 : (a == 247) = false := beq_eq_false_iff_ne.2 (by omega)
  have e39 : (a == 39) = false := beq_eq_false_iff_ne.2 (by omega)
  have e95 : (a == 95) = false := beq_eq_false_iff_ne.2 (by omega)
  have n215 : (a != 215) = true := by rw [bne_iff_ne]; omega
  have n247 : (a != 247) = true := by rw [bne_iff_ne]; omega
  go_enter Tryd.func29, Tryd.ntmps29
  go_wp2
  go_ret
  rw [HV.out]
  exact ⟨rfl, rfl⟩

set_option maxHeartbeats 400000 in
theorem specClass_w16 (a : Int) (w : World) (l : 592 ≤ a) (u : a ≤ 879) : Calls Tryd.prog 29 #[.int .i64 a] w fun e w' => e = .returned (.int .i64 (clsZ a)) ∧ w' = w := by
  have HV : Hid (clsZ a = 0) := by show _ = _; unfold clsZ; repeat (first | rw [if_pos (by omega)] | rw [if_neg (by omega)])
  have e215 : (a == 215) = false := beq_eq_false_iff_ne.2 (by omega)
  have e247 : (a == 247) = false := beq_eq_false_iff_ne.2 (by omega)
  have e39 : (a == 39) = false := beq_eq_false_iff_ne.2 (by omega)
  have e95 : (a == 95) = false := beq_eq_false_iff_ne.2 (by omega)
  have n215 : (a != 215) = true := by rw [bne_iff_ne]; omega
  have n247 : (a != 247) = true := by rw [bne_iff_ne]; omega
  go_enter Tryd.func29, Tryd.ntmps29
  go_wp2
  go_ret
  rw [HV.out]
  exact ⟨rfl, rfl⟩

set_option maxHeartbeats 400000 in
theorem specClass_w17 (a : Int) (w : World) (l : 880 ≤ a) (u : a ≤ 1279) : Calls Tryd.prog 29 #[.int .i64 a] w fun e w' => e = .returned (.int .i64 (clsZ a)) ∧ w' = w := by
  have HV : Hid (clsZ a = 1) := by show _ = _; unfold clsZ; repeat (first | rw [if_pos (by omega)] | rw [if_neg (by omega)])
  have e215 : (a == 215) = false := beq_eq_false_iff_ne.2 (by omega)
  have e247 : (a == 247) = false := beq_eq_false_iff_ne.2 (by omega)
  have e39 : (a == 39) = false := beq_eq_false_iff_ne.2 (by omega)
  have e95 : (a == 95) = false := beq_eq_false_iff_ne.2 (by omega)
  have n215 : (a != 215) = true := by rw [bne_iff_ne]; omega
  have n247 : (a != 247) = true := by rw [bne_iff_ne]; omega
  go_enter Tryd.func29, Tryd.ntmps29
  go_wp2
  go_ret
  rw [HV.out]
  exact ⟨rfl, rfl⟩

set_option maxHeartbeats 400000 in
theorem specClass_w18 (a : Int) (w : World) (l : 1280 ≤ a) (u : a ≤ 12351) : Calls Tryd.prog 29 #[.int .i64 a] w fun e w' => e = .returned (.int .i64 (clsZ a)) ∧ w' = w := by
  have HV : Hid (clsZ a = 0) := by show _ = _; unfold clsZ; repeat (first | rw [if_pos (by omega)] | rw [if_neg (by omega)])
  have e215 : (a == 215) = false := beq_eq_false_iff_ne.2 (by omega)
  have e247 : (a == 247) = false := beq_eq_false_iff_ne.2 (by omega)
  have e39 : (a == 39) = false := beq_eq_false_iff_ne.2 (by omega)
  have e95 : (a == 95) = false := beq_eq_false_iff_ne.2 (by omega)
  have n215 : (a != 215) = true := by rw [bne_iff_ne]; omega
  have n247 : (a != 247) = true := by rw [bne_iff_ne]; omega
  go_enter Tryd.func29, Tryd.ntmps29
  go_wp2
  go_ret
  rw [HV.out]
  exact ⟨rfl, rfl⟩

set_option maxHeartbeats 400000 in
theorem specClass_w19 (a : Int) (w : World) (l : 12352 ≤ a) (u : a ≤ 12543) : Calls Tryd.prog 29 #[.int .i64 a] w fun e w' => e = .returned (.int .i64 (clsZ a)) ∧ w' = w := by
  have HV : Hid (clsZ a = 4) := by show _ = _; unfold clsZ; repeat (first | rw [if_pos (by omega)] | rw [if_neg (by omega)])
  have e215 : (a == 215) = false := beq_eq_false_iff_ne.2 (by omega)
  have e247 : (a == 247) = false := beq_eq_false_iff_ne.2 (by omega)
  have e39 : (a == 39) = false := beq_eq_false_iff_ne.2 (by omega)
  have e95 : (a == 95) = false := beq_eq_false_iff_ne.2 (by omega)
  have n215 : (a != 215) = true := by rw [bne_iff_ne]; omega
  have n247 : (a != 247) = true := by rw [bne_iff_ne]; omega
  go_enter Tryd.func29, Tryd.ntmps29
  go_wp2
  go_ret
  rw [HV.out]
  exact ⟨rfl, rfl⟩

set_option maxHeartbeats 400000 in
theorem specClass_w20 (a : Int) (w : World) (l : 12544 ≤ a) (u : a ≤ 19967) : Calls Tryd.prog 29 #[.int .i64 a] w fun e w' => e = .returned (.int .i64 (clsZ a)) ∧ w' = w := by
  have HV : Hid (clsZ a = 0) := by show _ = _; unfold clsZ; repeat (first | rw [if_pos (by omega)] | rw [if_neg (by omega)])
  have e215 : (a == 215) = false := beq_eq_false_iff_ne.2 (by omega)
  have e247 : (a == 247) = false := beq_eq_false_iff_ne.2 (by omega)
  have e39 : (a == 39) = false := beq_eq_false_iff_ne.2 (by omega)
  have e95 : (a == 95) = false := beq_eq_false_iff_ne.2 (by omega)
  have n215 : (a != 215) = true := by rw [bne_iff_ne]; omega
  have n247 : (a != 247) = true := by rw [bne_iff_ne]; omega
  go_enter Tryd.func29, Tryd.ntmps29
  go_wp2
  go_ret
  rw [HV.out]
  exact ⟨rfl, rfl⟩

set_option maxHeartbeats 400000 in
theorem specClass_w21 (a : Int) (w : World) (l : 19968 ≤ a) (u : a ≤ 40959) : Calls Tryd.prog 29 #[.int .i64 a] w fun e w' => e = .returned (.int .i64 (clsZ a)) ∧ w' = w := by
  have HV : Hid (clsZ a = 4) := by show _ = _; unfold clsZ; repeat (first | rw [if_pos (by omega)] | rw [if_neg (by omega)])
  have e215 : (a == 215) = false := beq_eq_false_iff_ne.2 (by omega)
  have e247 : (a == 247) = false := beq_eq_false_iff_ne.2 (by omega)
  have e39 : (a == 39) = false := beq_eq_false_iff_ne.2 (by omega)
  have e95 : (a == 95) = false := beq_eq_false_iff_ne.2 (by omega)
  have n215 : (a != 215) = true := by rw [bne_iff_ne]; omega
  have n247 : (a != 247) = true := by rw [bne_iff_ne]; omega
  go_enter Tryd.func29, Tryd.ntmps29
  go_wp2
  go_ret
  rw [HV.out]
  exact ⟨rfl, rfl⟩

set_option maxHeartbeats 400000 in
theorem specClass_w22 (a : Int) (w : World) (l : 40960 ≤ a) : Calls Tryd.prog 29 #[.int .i64 a] w fun e w' => e = .returned (.int .i64 (clsZ a)) ∧ w' = w := by
  have HV : Hid (clsZ a = 0) := by show _ = _; unfold clsZ; repeat (first | rw [if_pos (by omega)] | rw [if_neg (by omega)])
  have e215 : (a == 215) = false := beq_eq_false_iff_ne.2 (by omega)
  have e247 : (a == 247) = false := beq_eq_false_iff_ne.2 (by omega)
  have e39 : (a == 39) = false := beq_eq_false_iff_ne.2 (by omega)
  have e95 : (a == 95) = false := beq_eq_false_iff_ne.2 (by omega)
  have n215 : (a != 215) = true := by rw [bne_iff_ne]; omega
  have n247 : (a != 247) = true := by rw [bne_iff_ne]; omega
  go_enter Tryd.func29, Tryd.ntmps29
  go_wp2
  go_ret
  rw [HV.out]
  exact ⟨rfl, rfl⟩

theorem specClass_any (a : Int) (w : World) : Calls Tryd.prog 29 #[.int .i64 a] w fun e w' => e = .returned (.int .i64 (clsZ a)) ∧ w' = w := by
  by_cases c0 : a < 39
  · exact specClass_w0 a w (by omega)
  by_cases c1 : a < 40
  · obtain rfl : a = 39 := by omega
    exact specClass_w1 w
  by_cases c2 : a < 48
  · exact specClass_w2 a w (by omega) (by omega)
  by_cases c3 : a < 58
  · exact specClass_w3 a w (by omega) (by omega)
  by_cases c4 : a < 65
  · exact specClass_w4 a w (by omega) (by omega)
  by_cases c5 : a < 91
  · exact specClass_w5 a w (by omega) (by omega)
  by_cases c6 : a < 95
  · exact specClass_w6 a w (by omega) (by omega)
  by_cases c7 : a < 96
  · obtain rfl : a = 95 := by omega
    exact specClass_w7 w
  by_cases c8 : a < 97
  · obtain rfl : a = 96 := by omega
    exact specClass_w8 w
  by_cases c9 : a < 123
  · exact specClass_w9 a w (by omega) (by omega)
  by_cases c10 : a < 192
  · exact specClass_w10 a w (by omega) (by omega)
  by_cases c11 : a < 215
  · exact specClass_w11 a w (by omega) (by omega)
  by_cases c12 : a < 216
  · obtain rfl : a = 215 := by omega
    exact specClass_w12 w
  by_cases c13 : a < 247
  · exact specClass_w13 a w (by omega) (by omega)
  by_cases c14 : a < 248
  · obtain rfl : a = 247 := by omega
    exact specClass_w14 w
  by_cases c15 : a < 592
  · exact specClass_w15 a w (by omega) (by omega)
  by_cases c16 : a < 880
  · exact specClass_w16 a w (by omega) (by omega)
  by_cases c17 : a < 1280
  · exact specClass_w17 a w (by omega) (by omega)
  by_cases c18 : a < 12352
  · exact specClass_w18 a w (by omega) (by omega)
  by_cases c19 : a < 12544
  · exact specClass_w19 a w (by omega) (by omega)
  by_cases c20 : a < 19968
  · exact specClass_w20 a w (by omega) (by omega)
  by_cases c21 : a < 40960
  · exact specClass_w21 a w (by omega) (by omega)
  exact specClass_w22 a w (by omega)
end Go.Proofs.YtecbjhakkebdmadDoor
