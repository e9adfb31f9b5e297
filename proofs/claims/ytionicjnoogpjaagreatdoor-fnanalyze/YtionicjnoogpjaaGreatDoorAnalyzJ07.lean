import Derived.Test.YtionicjnoogpjaaGreatDoorAnalyzJ06
import Derived.Test.YtionicjnoogpjaaGreatDoorAnalyzJ00
import Derived.WalkLawsBesides
import Derived.Test.YtionicjnoogpjaaGreatDoorProg
import Derived.Test.YtionicjnoogpjaaGreatDoorAnalyzJ02
import Derived.Lib.IndexBytes
import Derived.WalkMore
namespace Go.Proofs.YtionicjnoogpjaaGreatDoor
open Go Go.RowKit
set_option linter.unusedVariables false

theorem clone_any (s : ByteArray) (w : World) (hs : s.size ≤ 65536) :
    Calls Tryz.prog 78 #[.string s] w fun e w' => e = .returned (.string s) ∧ Below w.heap.size w w' := by
  go_enter Tryz.func78, Tryz.ntmps78
  go_wp2_with fail
  refine (Tryz.stringslite_Clone s _ (by omega)).mono ?_
  rintro e w1 ⟨rfl, hb⟩
  go_wp2
  go_ret
  exact ⟨rfl, hb⟩
end Go.Proofs.YtionicjnoogpjaaGreatDoor

namespace Go.Proofs.YtionicjnoogpjaaGreatDoor
open Go Go.RowKit
set_option linter.unusedVariables false

set_option maxHeartbeats 400000 in
theorem implClass_w0 (a : Int) (w : World) (u : a ≤ 38) : Calls Tryz.prog 75 #[.int .i64 a] w fun e w' => e = .returned (.int .i64 (clsZ a)) ∧ w' = w := by
  have HV : Hid (clsZ a = 0) := by show _ = _; unfold clsZ; repeat (first | rw [if_pos (by omega)] | rw [if_neg (by omega)])
  have e215 : (a == 215) = false := beq_eq_false_iff_ne.2 (by omega)
  have e247 : (a == 247) = false := beq_eq_false_iff_ne.2 (by omega)
  have e39 : (a == 39) = false := beq_eq_false_iff_ne.2 (by omega)
  have e95 : (a == 95) = false := beq_eq_false_iff_ne.2 (by omega)
  have n215 : (a != 215) = true := by rw [bne_iff_ne]; omega
  have n247 : (a != 247) = true := by rw [bne_iff_ne]; omega
  go_enter Tryz.func75, Tryz.ntmps75
  go_wp2
  go_ret
  rw [HV.out]
  exact ⟨rfl, rfl⟩
set_option maxHeartbeats 400000 in
theorem implClass_w1 (w : World) : Calls Tryz.prog 75 #[.int .i64 39] w fun e w' => e = .returned (.int .i64 (clsZ 39)) ∧ w' = w := by
  have HV : Hid (clsZ 39 = 3) := by show _ = _; decide
  go_enter Tryz.func75, Tryz.ntmps75
  go_wp2
  go_ret
  rw [HV.out]
  exact ⟨rfl, rfl⟩
set_option maxHeartbeats 400000 in
theorem implClass_w2 (a : Int) (w : World) (l : 40 ≤ a) (u : a ≤ 47) : Calls Tryz.prog 75 #[.int .i64 a] w fun e w' => e = .returned (.int .i64 (clsZ a)) ∧ w' = w := by
  have HV : Hid (clsZ a = 0) := by show _ = _; unfold clsZ; repeat (first | rw [if_pos (by omega)] | rw [if_neg (by omega)])
  have e215 : (a == 215) = false := beq_eq_false_iff_ne.2 (by omega)
  have e247 : (a == 247) = false := beq_eq_false_iff_ne.2 (by omega)
  have e39 : (a == 39) = false := beq_eq_false_iff_ne.2 (by omega)
  have e95 : (a == 95) = false := beq_eq_false_iff_ne.2 (by omega)
  have n215 : (a != 215) = true := by rw [bne_iff_ne]; omega
  have n247 : (a != 247) = true := by rw [bne_iff_ne]; omega
  go_enter Tryz.func75, Tryz.ntmps75
  go_wp2
  go_ret
  rw [HV.out]
  exact ⟨rfl, rfl⟩
set_option maxHeartbeats 400000 in
theorem implClass_w3 (a : Int) (w : World) (l : 48 ≤ a) (u : a ≤ 57) : Calls Tryz.prog 75 #[.int .i64 a] w fun e w' => e = .returned (.int .i64 (clsZ a)) ∧ w' = w := by
  have HV : Hid (clsZ a = 2) := by show _ = _; unfold clsZ; repeat (first | rw [if_pos (by omega)] | rw [if_neg (by omega)])
  have e215 : (a == 215) = false := beq_eq_false_iff_ne.2 (by omega)
  have e247 : (a == 247) = false := beq_eq_false_iff_ne.2 (by omega)
  have e39 : (a == 39) = false := beq_eq_false_iff_ne.2 (by omega)
  have e95 : (a == 95) = false := beq_eq_false_iff_ne.2 (by omega)
  have n215 : (a != 215) = true := by rw [bne_iff_ne]; omega
  have n247 : (a != 247) = true := by rw [bne_iff_ne]; omega
  go_enter Tryz.func75, Tryz.ntmps75
  go_wp2
  go_ret
  rw [HV.out]
  exact ⟨rfl, rfl⟩
set_option maxHeartbeats 400000 in
theorem implClass_w4 (a : Int) (w : World) (l : 58 ≤ a) (u : a ≤ 64) : Calls Tryz.prog 75 #[.int .i64 a] w fun e w' => e = .returned (.int .i64 (clsZ a)) ∧ w' = w := by
  have HV : Hid (clsZ a = 0) := by show _ = _; unfold clsZ; repeat (first | rw [if_pos (by omega)] | rw [if_neg (by omega)])
  have e215 : (a == 215) = false := beq_eq_false_iff_ne.2 (by omega)
  have e247 : (a == 247) = false := beq_eq_false_iff_ne.2 (by omega)
  have e39 : (a == 39) = false := beq_eq_false_iff_ne.2 (by omega)
  have e95 : (a == 95) = false := beq_eq_false_iff_ne.2 (by omega)
  have n215 : (a != 215) = true := by rw [bne_iff_ne]; omega
  have n247 : (a != 247) = true := by rw [bne_iff_ne]; omega
  go_enter Tryz.func75, Tryz.ntmps75
  go_wp2
  go_ret
  rw [HV.out]
  exact ⟨rfl, rfl⟩
set_option maxHeartbeats 400000 in
theorem implClass_w5 (a : Int) (w : World) (l : 65 ≤ a) (u : a ≤ 90) : Calls Tryz.prog 75 #[.int .i64 a] w fun e w' => e = .returned (.int .i64 (clsZ a)) ∧ w' = w := by
  have HV : Hid (clsZ a = 1) := by show _ = _; unfold clsZ; repeat (first | rw [if_pos (by omega)] | rw [if_neg (by omega)])
  have e215 : (a == 215) = false := beq_eq_false_iff_ne.2 (by omega)
  have e247 : (a == 247) = false := beq_eq_false_iff_ne.2 (by omega)
  have e39 : (a == 39) = false := beq_eq_false_iff_ne.2 (by omega)
  have e95 : (a == 95) = false := beq_eq_false_iff_ne.2 (by omega)
  have n215 : (a != 215) = true := by rw [bne_iff_ne]; omega
  have n247 : (a != 247) = true := by rw [bne_iff_ne]; omega
  go_enter Tryz.func75, Tryz.ntmps75
  go_wp2
  go_ret
  rw [HV.out]
  exact ⟨rfl, rfl⟩
set_option maxHeartbeats 400000 in
theorem implClass_w6 (a : Int) (w : World) (l : 91 ≤ a) (u : a ≤ 94) : Calls Tryz.prog 75 #[.int .i64 a] w fun e w' => e = .returned (.int .i64 (clsZ a)) ∧ w' = w := by
  have HV : Hid (clsZ a = 0) := by show _ = _; unfold clsZ; repeat (first | rw [if_pos (by omega)] | rw [if_neg (by omega)])
  have e215 : (a == 215) = false := beq_eq_false_iff_ne.2 (by omega)
  have e247 : (a == 247) = false := beq_eq_false_iff_ne.2 (by omega)
  have e39 : (a == 39) = false := beq_eq_false_iff_ne.2 (by omega)
  have e95 : (a == 95) = false := beq_eq_false_iff_ne.2 (by omega)
  have n215 : (a != 215) = true := by rw [bne_iff_ne]; omega
  have n247 : (a != 247) = true := by rw [bne_iff_ne]; omega
  go_enter Tryz.func75, Tryz.ntmps75
  go_wp2
  go_ret
  rw [HV.out]
  exact ⟨rfl, rfl⟩
set_option maxHeartbeats 400000 in
theorem implClass_w7 (w : World) : Calls Tryz.prog 75 #[.int .i64 95] w fun e w' => e = .returned (.int .i64 (clsZ 95)) ∧ w' = w := by
  have HV : Hid (clsZ 95 = 3) := by show _ = _; decide
  go_enter Tryz.func75, Tryz.ntmps75
  go_wp2
  go_ret
  rw [HV.out]
  exact ⟨rfl, rfl⟩
set_option maxHeartbeats 400000 in
theorem implClass_w8 (w : World) : Calls Tryz.prog 75 #[.int .i64 96] w fun e w' => e = .returned (.int .i64 (clsZ 96)) ∧ w' = w := by
  have HV : Hid (clsZ 96 = 0) := by show _ = _; decide
  go_enter Tryz.func75, Tryz.ntmps75
  go_wp2
  go_ret
  rw [HV.out]
  exact ⟨rfl, rfl⟩
set_option maxHeartbeats 400000 in
theorem implClass_w9 (a : Int) (w : World) (l : 97 ≤ a) (u : a ≤ 122) : Calls Tryz.prog 75 #[.int .i64 a] w fun e w' => e = .returned (.int .i64 (clsZ a)) ∧ w' = w := by
  have HV : Hid (clsZ a = 1) := by show _ = _; unfold clsZ; repeat (first | rw [if_pos (by omega)] | rw [if_neg (by omega)])
  have e215 : (a == 215) = false := beq_eq_false_iff_ne.2 (by omega)
  have e247 : (a == 247) = false := beq_eq_false_iff_ne.2 (by omega)
  have e39 : (a == 39) = false := beq_eq_false_iff_ne.2 (by omega)
  have e95 : (a == 95) = false := beq_eq_false_iff_ne.2 (by omega)
  have n215 : (a != 215) = true := by rw [bne_iff_ne]; omega
  have n247 : (a != 247) = true := by rw [bne_iff_ne]; omega
  go_enter Tryz.func75, Tryz.ntmps75
  go_wp2
  go_ret
  rw [HV.out]
  exact ⟨rfl, rfl⟩
set_option maxHeartbeats 400000 in
theorem implClass_w10 (a : Int) (w : World) (l : 123 ≤ a) (u : a ≤ 191) : Calls Tryz.prog 75 #[.int .i64 a] w fun e w' => e = .returned (.int .i64 (clsZ a)) ∧ w' = w := by
  have HV : Hid (clsZ a = 0) := by show _ = _; unfold clsZ; repeat (first | rw [if_pos (by omega)] | rw [if_neg (by omega)])
  have e215 : (a == 215) = false := beq_eq_false_iff_ne.2 (by omega)
  have e247 : (a == 247) = false := beq_eq_false_iff_ne.2 (by omega)
  have e39 : (a == 39) = false := beq_eq_false_iff_ne.2 (by omega)
  have e95 : (a == 95) = false := beq_eq_false_iff_ne.2 (by omega)
  have n215 : (a != 215) = true := by rw [bne_iff_ne]; omega
  have n247 : (a != 247) = true := by rw [bne_iff_ne]; omega
  go_enter Tryz.func75, Tryz.ntmps75
  go_wp2
  go_ret
  rw [HV.out]
  exact ⟨rfl, rfl⟩
set_option maxHeartbeats 400000 in
theorem implClass_w11 (a : Int) (w : World) (l : 192 ≤ a) (u : a ≤ 214) : Calls Tryz.prog 75 #[.int .i64 a] w fun e w' => e = .returned (.int .i64 (clsZ a)) ∧ w' = w := by
  have HV : Hid (clsZ a = 1) := by show _ = _; unfold clsZ; repeat (first | rw [if_pos (by omega)] | rw [if_neg (by omega)])
  have e215 : (a == 215) = false := beq_eq_false_iff_ne.2 (by omega)
  have e247 : (a == 247) = false := beq_eq_false_iff_ne.2 (by omega)
  have e39 : (a == 39) = false := beq_eq_false_iff_ne.2 (by omega)
  have e95 : (a == 95) = false := beq_eq_false_iff_ne.2 (by omega)
  have n215 : (a != 215) = true := by rw [bne_iff_ne]; omega
  have n247 : (a != 247) = true := by rw [bne_iff_ne]; omega
  go_enter Tryz.func75, Tryz.ntmps75
  go_wp2
  go_ret
  rw [HV.out]
  exact ⟨rfl, rfl⟩
set_option maxHeartbeats 400000 in
theorem implClass_w12 (w : World) : Calls Tryz.prog 75 #[.int .i64 215] w fun e w' => e = .returned (.int .i64 (clsZ 215)) ∧ w' = w := by
  have HV : Hid (clsZ 215 = 0) := by show _ = _; decide
  go_enter Tryz.func75, Tryz.ntmps75
  go_wp2
  go_ret
  rw [HV.out]
  exact ⟨rfl, rfl⟩
set_option maxHeartbeats 400000 in
theorem implClass_w13 (a : Int) (w : World) (l : 216 ≤ a) (u : a ≤ 246) : Calls Tryz.prog 75 #[.int .i64 a] w fun e w' => e = .returned (.int .i64 (clsZ a)) ∧ w' = w := by
  have HV : Hid (clsZ a = 1) := by show _ = _; unfold clsZ; repeat (first | rw [if_pos (by omega)] | rw [if_neg (by omega)])
  have e215 : (a == 215) = false := beq_eq_false_iff_ne.2 (by omega)
  have e247 : (a == 247) = false := beq_eq_false_iff_ne.2 (by omega)
  have e39 : (a == 39) = false := beq_eq_false_iff_ne.2 (by omega)
  have e95 : (a == 95) = false := beq_eq_false_iff_ne.2 (by omega)
  have n215 : (a != 215) = true := by rw [bne_iff_ne]; omega
  have n247 : (a != 247) = true := by rw [bne_iff_ne]; omega
  go_enter Tryz.func75, Tryz.ntmps75
  go_wp2
  go_ret
  rw [HV.out]
  exact ⟨rfl, rfl⟩
set_option maxHeartbeats 400000 in
theorem implClass_w14 (w : World) : Calls Tryz.prog 75 #[.int .i64 247] w fun e w' => e = .returned (.int .i64 (clsZ 247)) ∧ w' = w := by
  have HV : Hid (clsZ 247 = 0) := by show _ = _; decide
  go_enter Tryz.func75, Tryz.ntmps75
  go_wp2
  go_ret
  rw [HV.out]
  exact ⟨rfl, rfl⟩
set_option maxHeartbeats 400000 in
theorem implClass_w15 (a : Int) (w : World) (l : 248 ≤ a) (u : a ≤ 591) : Calls Tryz.prog 75 #[.int .i64 a] w fun e w' => e = .returned (.int .i64 (clsZ a)) ∧ w' = w := by
  have HV : Hid (clsZ a = 1) := by show _ = _; unfold clsZ; repeat (first | rw [if_pos (by omega)] | rw [if_neg (by omega)])
  have e215 : (a == 215) = false := beq_eq_false_iff_ne.2 (by omega)
  have e247 : (a == 247) = false := beq_eq_false_iff_ne.2 (by omega)
  have e39 : (a == 39) = false := beq_eq_false_iff_ne.2 (by omega)
  have e95 : (a == 95) = false := beq_eq_false_iff_ne.2 (by omega)
  have n215 : (a != 215) = true := by rw [bne_iff_ne]; omega
  have n247 : (a != 247) = true := by rw [bne_iff_ne]; omega
  go_enter Tryz.func75, Tryz.ntmps75
  go_wp2
  go_ret
  rw [HV.out]
  exact ⟨rfl, rfl⟩
set_option maxHeartbeats 400000 in
theorem implClass_w16 (a : Int) (w : World) (l : 592 ≤ a) (u : a ≤ 879) : Calls Tryz.prog 75 #[.int .i64 a] w fun e w' => e = .returned (.int .i64 (clsZ a)) ∧ w' = w := by
  have HV : Hid (clsZ a = 0) := by show _ = _; unfold clsZ; repeat (first | rw [if_pos (by omega)] | rw [if_neg (by omega)])
  have e215 : (a == 215) = false := beq_eq_false_iff_ne.2 (by omega)
  have e247 : (a == 247) = false := beq_eq_false_iff_ne.2 (by omega)
  have e39 : (a == 39) = false := beq_eq_false_iff_ne.2 (by omega)
  have e95 : (a == 95) = false := beq_eq_false_iff_ne.2 (by omega)
  have n215 : (a != 215) = true := by rw [bne_iff_ne]; omega
  have n247 : (a != 247) = true := by rw [bne_iff_ne]; omega
  go_enter Tryz.func75, Tryz.ntmps75
  go_wp2
  go_ret
  rw [HV.out]
  exact ⟨rfl, rfl⟩
set_option maxHeartbeats 400000 in
theorem implClass_w17 (a : Int) (w : World) (l : 880 ≤ a) (u : a ≤ 1279) : Calls Tryz.prog 75 #[.int .i64 a] w fun e w' => e = .returned (.int .i64 (clsZ a)) ∧ w' = w := by
  have HV : Hid (clsZ a = 1) := by show _ = _; unfold clsZ; repeat (first | rw [if_pos (by omega)] | rw [if_neg (by omega)])
  have e215 : (a == 215) = false := beq_eq_false_iff_ne.2 (by omega)
  have e247 : (a == 247) = false := beq_eq_false_iff_ne.2 (by omega)
  have e39 : (a == 39) = false := beq_eq_false_iff_ne.2 (by omega)
  have e95 : (a == 95) = false := beq_eq_false_iff_ne.2 (by omega)
  have n215 : (a != 215) = true := by rw [bne_iff_ne]; omega
  have n247 : (a != 247) = true := by rw [bne_iff_ne]; omega
  go_enter Tryz.func75, Tryz.ntmps75
  go_wp2
  go_ret
  rw [HV.out]
  exact ⟨rfl, rfl⟩
set_option maxHeartbeats 400000 in
theorem implClass_w18 (a : Int) (w : World) (l : 1280 ≤ a) (u : a ≤ 12351) : Calls Tryz.prog 75 #[.int .i64 a] w fun e w' => e = .returned (.int .i64 (clsZ a)) ∧ w' = w := by
  have HV : Hid (clsZ a = 0) := by show _ = _; unfold clsZ; repeat (first | rw [if_pos (by omega)] | rw [if_neg (by omega)])
  have e215 : (a == 215) = false := beq_eq_false_iff_ne.2 (by omega)
  have e247 : (a == 247) = false := beq_eq_false_iff_ne.2 (by omega)
  have e39 : (a == 39) = false := beq_eq_false_iff_ne.2 (by omega)
  have e95 : (a == 95) = false := beq_eq_false_iff_ne.2 (by omega)
  have n215 : (a != 215) = true := by rw [bne_iff_ne]; omega
  have n247 : (a != 247) = true := by rw [bne_iff_ne]; omega
  go_enter Tryz.func75, Tryz.ntmps75
  go_wp2
  go_ret
  rw [HV.out]
  exact ⟨rfl, rfl⟩
set_option maxHeartbeats 400000 in
theorem implClass_w19 (a : Int) (w : World) (l : 12352 ≤ a) (u : a ≤ 12543) : Calls Tryz.prog 75 #[.int .i64 a] w fun e w' => e = .returned (.int .i64 (clsZ a)) ∧ w' = w := by
  have HV : Hid (clsZ a = 4) := by show _ = _; unfold clsZ; repeat (first | rw [if_pos (by omega)] | rw [if_neg (by omega)])
  have e215 : (a == 215) = false := beq_eq_false_iff_ne.2 (by omega)
  have e247 : (a == 247) = false := beq_eq_false_iff_ne.2 (by omega)
  have e39 : (a == 39) = false := beq_eq_false_iff_ne.2 (by omega)
  have e95 : (a == 95) = false := beq_eq_false_iff_ne.2 (by omega)
  have n215 : (a != 215) = true := by rw [bne_iff_ne]; omega
  have n247 : (a != 247) = true := by rw [bne_iff_ne]; omega
  go_enter Tryz.func75, Tryz.ntmps75
  go_wp2
  go_ret
  rw [HV.out]
  exact ⟨rfl, rfl⟩
set_option maxHeartbeats 400000 in
theorem implClass_w20 (a : Int) (w : World) (l : 12544 ≤ a) (u : a ≤ 19967) : Calls Tryz.prog 75 #[.int .i64 a] w fun e w' => e = .returned (.int .i64 (clsZ a)) ∧ w' = w := by
  have HV : Hid (clsZ a = 0) := by show _ = _; unfold clsZ; repeat (first | rw [if_pos (by omega)] | rw [if_neg (by omega)])
  have e215 : (a == 215) = false := beq_eq_false_iff_ne.2 (by omega)
  have e247 : (a == 247) = false := beq_eq_false_iff_ne.2 (by omega)
  have e39 : (a == 39) = false := beq_eq_false_iff_ne.2 (by omega)
  have e95 : (a == 95) = false := beq_eq_false_iff_ne.2 (by omega)
  have n215 : (a != 215) = true := by rw [bne_iff_ne]; omega
  have n247 : (a != 247) = true := by rw [bne_iff_ne]; omega
  go_enter Tryz.func75, Tryz.ntmps75
  go_wp2
  go_ret
  rw [HV.out]
  exact ⟨rfl, rfl⟩
set_option maxHeartbeats 400000 in
theorem implClass_w21 (a : Int) (w : World) (l : 19968 ≤ a) (u : a ≤ 40959) : Calls Tryz.prog 75 #[.int .i64 a] w fun e w' => e = .returned (.int .i64 (clsZ a)) ∧ w' = w := by
  have HV : Hid (clsZ a = 4) := by show _ = _; unfold clsZ; repeat (first | rw [if_pos (by omega)] | rw [if_neg (by omega)])
  have e215 : (a == 215) = false := beq_eq_false_iff_ne.2 (by omega)
  have e247 : (a == 247) = false := beq_eq_false_iff_ne.2 (by omega)
  have e39 : (a == 39) = false := beq_eq_false_iff_ne.2 (by omega)
  have e95 : (a == 95) = false := beq_eq_false_iff_ne.2 (by omega)
  have n215 : (a != 215) = true := by rw [bne_iff_ne]; omega
  have n247 : (a != 247) = true := by rw [bne_iff_ne]; omega
  go_enter Tryz.func75, Tryz.ntmps75
  go_wp2
  go_ret
  rw [HV.out]
  exact ⟨rfl, rfl⟩
set_option maxHeartbeats 400000 in
theorem implClass_w22 (a : Int) (w : World) (l : 40960 ≤ a) : Calls Tryz.prog 75 #[.int .i64 a] w fun e w' => e = .returned (.int .i64 (clsZ a)) ∧ w' = w := by
  have HV : Hid (clsZ a = 0) := by show _ = _; unfold clsZ; repeat (first | rw [if_pos (by omega)] | rw [if_neg (by omega)])
  have e215 : (a == 215) = false := beq_eq_false_iff_ne.2 (by omega)
  have e247 : (a == 247) = false := beq_eq_false_iff_ne.2 (by omega)
  have e39 : (a == 39) = false := beq_eq_false_iff_ne.2 (by omega)
  have e95 : (a == 95) = false := beq_eq_false_iff_ne.2 (by omega)
  have n215 : (a != 215) = true := by rw [bne_iff_ne]; omega
  have n247 : (a != 247) = true := by rw [bne_iff_ne]; omega
  go_enter Tryz.func75, Tryz.ntmps75
  go_wp2
  go_ret
  rw [HV.out]
  exact ⟨rfl, rfl⟩
theorem implClass_any (a : Int) (w : World) : Calls Tryz.prog 75 #[.int .i64 a] w fun e w' => e = .returned (.int .i64 (clsZ a)) ∧ w' = w := by
  by_cases c0 : a < 39
  · exact implClass_w0 a w (by omega)
  by_cases c1 : a < 40
  · obtain rfl : a = 39 := by omega
    exact implClass_w1 w
  by_cases c2 : a < 48
  · exact implClass_w2 a w (by omega) (by omega)
  by_cases c3 : a < 58
  · exact implClass_w3 a w (by omega) (by omega)
  by_cases c4 : a < 65
  · exact implClass_w4 a w (by omega) (by omega)
  by_cases c5 : a < 91
  · exact implClass_w5 a w (by omega) (by omega)
  by_cases c6 : a < 95
  · exact implClass_w6 a w (by omega) (by omega)
  by_cases c7 : a < 96
  · obtain rfl : a = 95 := by omega
    exact implClass_w7 w
  by_cases c8 : a < 97
  · obtain rfl : a = 96 := by omega
    exact implClass_w8 w
  by_cases c9 : a < 123
  · exact implClass_w9 a w (by omega) (by omega)
  by_cases c10 : a < 192
  · exact implClass_w10 a w (by omega) (by omega)
  by_cases c11 : a < 215
  · exact implClass_w11 a w (by omega) (by omega)
  by_cases c12 : a < 216
  · obtain rfl : a = 215 := by omega
    exact implClass_w12 w
  by_cases c13 : a < 247
  · exact implClass_w13 a w (by omega) (by omega)
  by_cases c14 : a < 248
  · obtain rfl : a = 247 := by omega
    exact implClass_w14 w
  by_cases c15 : a < 592
  · exact implClass_w15 a w (by omega) (by omega)
  by_cases c16 : a < 880
  · exact implClass_w16 a w (by omega) (by omega)
  by_cases c17 : a < 1280
  · exact implClass_w17 a w (by omega) (by omega)
  by_cases c18 : a < 12352
  · exact implClass_w18 a w (by omega) (by omega)
  by_cases c19 : a < 12544
  · exact implClass_w19 a w (by omega) (by omega)
  by_cases c20 : a < 19968
  · exact implClass_w20 a w (by omega) (by omega)
  by_cases c21 : a < 40960
  · exact implClass_w21 a w (by omega) (by omega)
  exact implClass_w22 a w (by omega)
end Go.Proofs.YtionicjnoogpjaaGreatDoor

namespace Go.Proofs.YtionicjnoogpjaaGreatDoor
open Go Go.RowKit
set_option linter.unusedVariables false

theorem extract_bytes (s : ByteArray) (p : Nat) (h : p ≤ s.size) : (s.extract p s.size).data.toList = s.data.toList.drop p := by
  rw [Lib.extract_to_end]
theorem decode_extract (s : ByteArray) (p t : Nat) (h : p ≤ s.size) : Utf8.decode (s.extract p s.size) t = Utf8.decode s (p + t) := by
  rw [← Lib.decodeL_drop, ← Lib.decodeL_drop, extract_bytes s p h, List.drop_drop]
theorem extract_size (s : ByteArray) (p : Nat) (h : p ≤ s.size) : (s.extract p s.size).size = s.size - p := by
  rw [← data_len, extract_bytes s p h, List.length_drop, data_len]
/-- Where the walk along a run stands. -/
def RunAt (s : ByteArray) (E P e : Nat) : Prop :=
  (e = P ∧ E = P + blen ((Rs s P).take (runK (Rs s P)))) ∨
  (e < P ∧ (headInn (Rs s P) = true → E = P + blen ((Rs s P).take (runK (Rs s P)))) ∧ (headInn (Rs s P) = false → E = e))
theorem RunAt_end (s : ByteArray) (E P e : Nat) (h : RunAt s E P e) (hp : ¬ P < s.size) : E = e := by
  rcases h with ⟨rfl, h⟩ | ⟨_, _, h⟩
  · rw [Rs_end s _ hp] at h; simpa [blen_nil] using h
  · exact h (by rw [Rs_end s P hp]; rfl)
theorem RunAt_inn (s : ByteArray) (E P e : Nat) (h : RunAt s E P e) (hp : P < s.size) (hg : ¬ bad s P) (hi : innB ((Utf8.decode s P).1 : Int) = true) : RunAt s E (P + (Utf8.decode s P).2) (P + (Utf8.decode s P).2) := by
  have hE : E = P + blen ((Rs s P).take (runK (Rs s P))) := by
    rcases h with ⟨_, h⟩ | ⟨_, h, _⟩
    · exact h
    · exact h (by rw [Rs_step s P hp]; exact hi)
  rw [Rs_step s P hp, runK_inn _ _ hi, List.take_succ_cons, blen_cons, rune_width s P hp hg] at hE
  exact Or.inl ⟨rfl, by omega⟩
theorem RunAt_mark (s : ByteArray) (E P : Nat) (h : RunAt s E P P) (hp : P < s.size) (hg : ¬ bad s P) (hi : innB ((Utf8.decode s P).1 : Int) = false) (hm : (clsZ ((Utf8.decode s P).1 : Int) == 3) = true) : RunAt s E (P + (Utf8.decode s P).2) P := by
  have hw := width_le s P hp
  have hE : E = P + blen ((Rs s P).take (runK (Rs s P))) := by
    rcases h with ⟨_, h⟩ | ⟨h, _⟩
    · exact h
    · omega
  rw [Rs_step s P hp] at hE
  refine Or.inr ⟨by omega, fun hh => ?_, fun hh => ?_⟩
  · rw [runK_mark _ _ hi hm hh, List.take_succ_cons, blen_cons, rune_width s P hp hg] at hE
    omega
  · rw [runK_stop _ _ hi (Or.inr hh)] at hE
    simpa [blen_nil] using hE
theorem RunAt_stop (s : ByteArray) (E P e : Nat) (h : RunAt s E P e) (hp : P < s.size) (hi : innB ((Utf8.decode s P).1 : Int) = false) (hm : (clsZ ((Utf8.decode s P).1 : Int) == 3) = false ∨ ¬ P = e) : E = e := by
  rcases h with ⟨rfl, h⟩ | ⟨_, _, h⟩
  · rcases hm with hm | hm
    · rw [Rs_step s _ hp, runK_stop _ _ hi (Or.inl hm)] at h
      simpa [blen_nil] using h
    · exact absurd rfl hm
  · exact h (by rw [Rs_step s P hp]; exact hi)
set_option maxHeartbeats 2000000 in
set_option maxRecDepth 100000 in
theorem runEnd_any (s : ByteArray) (p : Nat) (w : World) (hs : s.size ≤ 65536) (hp : p < s.size) (hv : vFrom s p = true) :
    Calls Tryz.prog 77 #[.string s, .int .i64 p] w fun e w' => e = .returned (.int .i64 ((p + blen ((Rs s p).take (runK (Rs s p))) : Nat) : Int)) ∧ Below w.heap.size w w' := by
  obtain ⟨E, hE⟩ : ∃ E, E = p + blen ((Rs s p).take (runK (Rs s p))) := ⟨_, rfl⟩
  have HE := hidd hE
  have hle : E ≤ s.size := by rw [hE]; exact Rs_take_le s _ p (by omega) hv
  have HS0 : Hid (RunAt s E (p + 0) p) := Or.inl ⟨rfl, hE⟩
  have HV0 := hidd hv
  have hus := extract_size s p (by omega)
  have Hdec := hidd (fun t => decode_extract s p t (by omega))
  clear hE hv
  go_enter Tryz.func77, Tryz.ntmps77
  go_wp2
  go_step3
  go_wp2
  go_step3
  go_wp2
  have hit0 := hidd (World.iter_heap w (s.extract p s.size) 0)
  have hb0 : Below w.heap.size w (w.iter (s.extract p s.size) 0) := (Below.refl _ _).alloc (Nat.le_refl _) _
  generalize s.extract p s.size = u at *
  generalize w.iter u 0 = w1 at hit0 hb0 ⊢
  go_loopw [5] (fun v wr => ∃ (t e : Nat), p + t ≤ s.size ∧ e ≤ s.size ∧ v = .int .i64 (e : Int) ∧ wr.heap[w.heap.size]? = some (.stringIter u t) ∧ Below w.heap.size w wr ∧ vFrom s (p + t) = true ∧ RunAt s E (p + t) e) (fun _ wr => u.size - wr.iterPos w.heap.size)
  case atStart => exact ⟨0, p, by omega, by omega, rfl, hit0.out, hb0, HV0.out, HS0.out⟩
  case round =>
    obtain ⟨t, e, hpt, hes, rfl, hit, hbel, hv, hR⟩ := hrel
    clear hit0 hb0
    have hIlt : w.heap.size < wr.heap.size := (Array.getElem?_eq_some_iff.1 hit).1
    by_cases hlt : p + t < s.size
    · have htu : t < u.size := by omega
      have hnx : ∀ ty, (Instr.next (.pointer (some ⟨w.heap.size, 0, none⟩)) true ty).run Tryz.prog wr = _ := fun ty => Lib.run_next_any_at wr w.heap.size u t ty hit htu
      have hw := width_le s (p + t) hlt
      have hr := rune_le s (p + t)
      have hg := good_of s (p + t) hlt hv
      have Hrl := hidd (runeLen_eq _ (rune_chr s (p + t) hg))
      have Hrw := hidd (rune_width s (p + t) hlt hg)
      have Hv2 : Hid (vFrom s (p + t + (Utf8.decode s (p + t)).2) = true) := by show _ = _; rw [vFrom_good s (p + t) hlt hg]; exact hv
      have HRi := hidd (RunAt_inn s E (p + t) e hR hlt hg)
      have HRm := hidd (fun (h : p + t = e) => RunAt_mark s E (p + t) (by rw [← h] at hR; exact hR) hlt hg)
      have HRs := hidd (RunAt_stop s E (p + t) e hR hlt)
      have hit2 := hidd (Lib.iterAt_heap wr w.heap.size u t (t + (Utf8.decode u t).2) hit)
      have hbel2 := hidd (Lib.below_iterAt hbel (k := w.heap.size) (Nat.le_refl _) u (t + (Utf8.decode u t).2))
      have Hpos := hidd (iterPos_of hit)
      rw [Hdec.out t] at hnx hit2 hbel2
      clear hR hg hv hbel
      generalize (Utf8.decode s (p + t)).1 = r at *
      generalize (Utf8.decode s (p + t)).2 = n at *
      generalize wr.iterAt w.heap.size u (t + n) = wi at *
      have hch := hidd (implClass_any (r : Int))
      by_cases hi : innB (r : Int) = true
      · have hcl := (inn_cls _).1 hi
        have HR2 := hidd (HRi.out hi)
        clear HRi HRm HRs
        generalize clsZ (r : Int) = c at *
        rcases hcl with rfl | rfl
        all_goals
          go_wp2_with fail
          refine (hch.out _).mono ?_
          rintro e' w2 ⟨rfl, rfl⟩
          go_wp2_with fail
          refine (Tryz.utf8_RuneLen _ _).mono ?_
          rintro e' w2 ⟨rfl, rfl⟩
          rw [Hrl.out, Hrw.out]
          go_wp2
          go_roundw
          case rel => exact ⟨t + n, p + t + n, by omega, by omega, by go_num, hit2.out, hbel2.out, by rw [← Nat.add_assoc]; exact Hv2.out, by rw [← Nat.add_assoc]; exact HR2.out⟩
          case measure => rw [iterPos_of hit2.out, Hpos.out]; omega
      · have hi' : innB (r : Int) = false := by simpa using hi
        have hcl := (inn_not _).1 hi'
        have hc1 : (clsZ (r : Int) == 1) = false := beq_eq_false_iff_ne.2 hcl.1
        have hc2 : (clsZ (r : Int) == 2) = false := beq_eq_false_iff_ne.2 hcl.2
        by_cases hm : (clsZ (r : Int) == 3) = true
        · by_cases hpe : p + t = e
          · have HR2 := hidd (HRm.out hpe hi' hm)
            have hpz : ((p : Int) + (t : Int) == (e : Int)) = true := beq_iff_eq.2 (by omega)
            have Hpe := hidd hpe
            clear HRi HRm HRs hi hi' hcl hpe
            generalize clsZ (r : Int) = c at *
            go_wp2_with fail
            refine (hch.out _).mono ?_
            rintro e' w2 ⟨rfl, rfl⟩
            go_wp2
            go_roundw
            case rel => exact ⟨t + n, e, by omega, by omega, rfl, hit2.out, hbel2.out, by rw [← Nat.add_assoc]; exact Hv2.out, by rw [← Nat.add_assoc, ← Hpe.out]; exact HR2.out⟩
            case measure => rw [iterPos_of hit2.out, Hpos.out]; omega
          · have HEe := hidd (HRs.out hi' (Or.inr hpe))
            have hpz : ((p : Int) + (t : Int) == (e : Int)) = false := beq_eq_false_iff_ne.2 (by omega)
            clear HRi HRm HRs hi hi' hcl hpe
            generalize clsZ (r : Int) = c at *
            go_wp2_with fail
            refine (hch.out _).mono ?_
            rintro e' w2 ⟨rfl, rfl⟩
            go_wp2
            rw [Exit.noGoto_ret]
            go_ret
            rw [← HE.out, HEe.out]
            exact ⟨rfl, hbel2.out⟩
        · have hm' : (clsZ (r : Int) == 3) = false := by simpa using hm
          have HEe := hidd (HRs.out hi' (Or.inl hm'))
          clear HRi HRm HRs hi hi' hcl hm
          generalize clsZ (r : Int) = c at *
          go_wp2_with fail
          refine (hch.out _).mono ?_
          rintro e' w2 ⟨rfl, rfl⟩
          go_wp2
          rw [Exit.noGoto_ret]
          go_ret
          rw [← HE.out, HEe.out]
          exact ⟨rfl, hbel2.out⟩
    · have htu : ¬ t < u.size := by omega
      have hnx : ∀ ty, (Instr.next (.pointer (some ⟨w.heap.size, 0, none⟩)) true ty).run Tryz.prog wr = _ := fun ty => Lib.run_next_end_at wr w.heap.size u t ty hit htu
      have HEe := hidd (RunAt_end s E (p + t) e hR hlt)
      clear hit hR hv
      go_wp2
      rw [Exit.noGoto_ret]
      go_ret
      rw [← HE.out, HEe.out]
      exact ⟨rfl, hbel⟩
end Go.Proofs.YtionicjnoogpjaaGreatDoor

namespace Go.Proofs.YtionicjnoogpjaaGreatDoor
open Go Go.RowKit
set_option linter.unusedVariables false

def Tabs (w : World) : Prop := Lib.Utf8Tabs (Tryz.laysValid_ren.g 3) (Tryz.laysValid_ren.g 4) w
theorem Tabs.below {w w' : World} (h : Tabs w) (hb : Below w.heap.size w w') : Tabs w' := Utf8Tabs_below h hb
theorem valid_any (s : ByteArray) (w : World) (hs : s.size ≤ 1048576) (hT : Tabs w) :
    Calls Tryz.prog 89 #[.string s] w fun e w' => e = .returned (.bool (validB s)) ∧ Below w.heap.size w w' :=
  Any.utf8_ValidString Tryz.laysValid s w (by omega) hT
end Go.Proofs.YtionicjnoogpjaaGreatDoor

namespace Go.Proofs.YtionicjnoogpjaaGreatDoor
open Go Go.RowKit
set_option linter.unusedVariables false

set_option maxHeartbeats 1000000 in
theorem textCode_any (s : ByteArray) (w : World) (hs : s.size ≤ 1048576) (hT : Tabs w) :
    Calls Tryz.prog 74 #[.string s] w fun e w' => e = .returned (.int .i64 (decCode s)) ∧ Below w.heap.size w w' := by
  have HT := hidd hT
  clear hT
  by_cases hlong : 65536 < s.size
  · have HC : Hid (decCode s = 2) := by show _ = _; rw [decCode, if_pos hlong]
    have hlz : (65536 : Int) < (s.size : Int) := by omega
    go_enter Tryz.func74, Tryz.ntmps74
    go_wp2
    go_ret
    rw [HC.out]
    exact ⟨rfl, Below.refl _ _⟩
  · have hlz : ¬ (65536 : Int) < (s.size : Int) := by omega
    by_cases hv : validB s = true
    · have HC : Hid (decCode s = 0) := by show _ = _; rw [decCode, if_neg hlong, if_pos hv]
      go_enter Tryz.func74, Tryz.ntmps74
      go_wp2_with fail
      refine (valid_any s _ hs HT.out).mono ?_
      rintro e w1 ⟨rfl, hb1⟩
      go_wp2
      go_ret
      rw [HC.out]
      exact ⟨rfl, hb1⟩
    · have hv' : validB s = false := by simpa using hv
      have HC : Hid (decCode s = 3) := by show _ = _; rw [decCode, if_neg hlong, if_neg hv]
      clear hv
      go_enter Tryz.func74, Tryz.ntmps74
      go_wp2_with fail
      refine (valid_any s _ hs HT.out).mono ?_
      rintro e w1 ⟨rfl, hb1⟩
      go_wp2
      go_ret
      rw [HC.out]
      exact ⟨rfl, hb1⟩
end Go.Proofs.YtionicjnoogpjaaGreatDoor
