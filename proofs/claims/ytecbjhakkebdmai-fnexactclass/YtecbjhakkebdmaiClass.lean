import Derived.Test.YtecbjhakkebdmaiRows
import Derived.WalkKit
import Derived.ProofKit
import Derived.OpenShut
namespace Go.Proofs.Ytecbjhakkebdmai.fnExactClass
open Go.ChangeShapes Go.WideShapes Go.ChangeAt Go.RowKit
set_option linter.unusedVariables false

theorem own : ownKnob Try.prog.godebug = none := by kernel_rfl

theorem way0 (a : Int) (w : World) (u : a ≤ 38) : Calls Try.prog 4 #[.int .i64 a] w fun e w' => e = .returned (.bool true) ∧ Grown w w' := by
  have e215 : (a == 215) = false := beq_eq_false_iff_ne.2 (by omega)
  have e247 : (a == 247) = false := beq_eq_false_iff_ne.2 (by omega)
  have e39 : (a == 39) = false := beq_eq_false_iff_ne.2 (by omega)
  have e95 : (a == 95) = false := beq_eq_false_iff_ne.2 (by omega)
  have n215 : (a != 215) = true := by rw [bne_iff_ne]; omega
  have n247 : (a != 247) = true := by rw [bne_iff_ne]; omega
  go_enter Try.func4, Try.ntmps4
  go_wp2
  go_ret
  exact ⟨rfl, by repeat (first | exact Grown.refl _ | apply Grown.drew | apply Grown.alloc)⟩

theorem way1 (w : World) : Calls Try.prog 4 #[.int .i64 39] w fun e w' => e = .returned (.bool true) ∧ Grown w w' := by
  go_enter Try.func4, Try.ntmps4
  go_wp2
  go_ret
  exact ⟨rfl, by repeat (first | exact Grown.refl _ | apply Grown.drew | apply Grown.alloc)⟩

theorem way2 (a : Int) (w : World) (l : 40 ≤ a) (u : a ≤ 47) : Calls Try.prog 4 #[.int .i64 a] w fun e w' => e = .returned (.bool true) ∧ Grown w w' := by
  have e215 : (a == 215) = false := beq_eq_false_iff_ne.2 (by omega)
  have e247 : (a == 247) = false := beq_eq_false_iff_ne.2 (by omega)
  have e39 : (a == 39) = false := beq_eq_false_iff_ne.2 (by omega)
  have e95 : (a == 95) = false := beq_eq_false_iff_ne.2 (by omega)
  have n215 : (a != 215) = true := by rw [bne_iff_ne]; omega
  have n247 : (a != 247) = true := by rw [bne_iff_ne]; omega
  go_enter Try.func4, Try.ntmps4
  go_wp2
  go_ret
  exact ⟨rfl, by repeat (first | exact Grown.refl _ | apply Grown.drew | apply Grown.alloc)⟩

theorem way3 (a : Int) (w : World) (l : 48 ≤ a) (u : a ≤ 57) : Calls Try.prog 4 #[.int .i64 a] w fun e w' => e = .returned (.bool true) ∧ Grown w w' := by
  have e215 : (a == 215) = false := beq_eq_false_iff_ne.2 (by omega)
  have e247 : (a == 247) = false := beq_eq_false_iff_ne.2 (by omega)
  have e39 : (a == 39) = false := beq_eq_false_iff_ne.2 (by omega)
  have e95 : (a == 95) = false := beq_eq_false_iff_ne.2 (by omega)
  have n215 : (a != 215) = true := by rw [bne_iff_ne]; omega
  have n247 : (a != 247) = true := by rw [bne_iff_ne]; omega
  go_enter Try.func4, Try.ntmps4
  go_wp2
  go_ret
  exact ⟨rfl, by repeat (first | exact Grown.refl _ | apply Grown.drew | apply Grown.alloc)⟩

theorem way4 (a : Int) (w : World) (l : 58 ≤ a) (u : a ≤ 64) : Calls Try.prog 4 #[.int .i64 a] w fun e w' => e = .returned (.bool true) ∧ Grown w w' := by
  have e215 : (a == 215) = false := beq_eq_false_iff_ne.2 (by omega)
  have e247 : (a == 247) = false := beq_eq_false_iff_ne.2 (by omega)
  have e39 : (a == 39) = false := beq_eq_false_iff_ne.2 (by omega)
  have e95 : (a == 95) = false := beq_eq_false_iff_ne.2 (by omega)
  have n215 : (a != 215) = true := by rw [bne_iff_ne]; omega
  have n247 : (a != 247) = true := by rw [bne_iff_ne]; omega
  go_enter Try.func4, Try.ntmps4
  go_wp2
  go_ret
  exact ⟨rfl, by repeat (first | exact Grown.refl _ | apply Grown.drew | apply Grown.alloc)⟩

theorem way5 (a : Int) (w : World) (l : 65 ≤ a) (u : a ≤ 90) : Calls Try.prog 4 #[.int .i64 a] w fun e w' => e = .returned (.bool true) ∧ Grown w w' := by
  have e215 : (a == 215) = false := beq_eq_false_iff_ne.2 (by omega)
  have e247 : (a == 247) = false := beq_eq_false_iff_ne.2 (by omega)
  have e39 : (a == 39) = false := beq_eq_false_iff_ne.2 (by omega)
  have e95 : (a == 95) = false := beq_eq_false_iff_ne.2 (by omega)
  have n215 : (a != 215) = true := by rw [bne_iff_ne]; omega
  have n247 : (a != 247) = true := by rw [bne_iff_ne]; omega
  go_enter Try.func4, Try.ntmps4
  go_wp2
  go_ret
  exact ⟨rfl, by repeat (first | exact Grown.refl _ | apply Grown.drew | apply Grown.alloc)⟩

theorem way6 (a : Int) (w : World) (l : 91 ≤ a) (u : a ≤ 94) : Calls Try.prog 4 #[.int .i64 a] w fun e w' => e = .returned (.bool true) ∧ Grown w w' := by
  have e215 : (a == 215) = false := beq_eq_false_iff_ne.2 (by omega)
  have e247 : (a == 247) = false := beq_eq_false_iff_ne.2 (by omega)
  have e39 : (a == 39) = false := beq_eq_false_iff_ne.2 (by omega)
  have e95 : (a == 95) = false := beq_eq_false_iff_ne.2 (by omega)
  have n215 : (a != 215) = true := by rw [bne_iff_ne]; omega
  have n247 : (a != 247) = true := by rw [bne_iff_ne]; omega
  go_enter Try.func4, Try.ntmps4
  go_wp2
  go_ret
  exact ⟨rfl, by repeat (first | exact Grown.refl _ | apply Grown.drew | apply Grown.alloc)⟩

theorem way7 (w : World) : Calls Try.prog 4 #[.int .i64 95] w fun e w' => e = .returned (.bool true) ∧ Grown w w' := by
  go_enter Try.func4, Try.ntmps4
  go_wp2
  go_ret
  exact ⟨rfl, by repeat (first | exact Grown.refl _ | apply Grown.drew | apply Grown.alloc)⟩

theorem way8 (w : World) : Calls Try.prog 4 #[.int .i64 96] w fun e w' => e = .returned (.bool true) ∧ Grown w w' := by
  go_enter Try.func4, Try.ntmps4
  go_wp2
  go_ret
  exact ⟨rfl, by repeat (first | exact Grown.refl _ | apply Grown.drew | apply Grown.alloc)⟩

theorem way9 (a : Int) (w : World) (l : 97 ≤ a) (u : a ≤ 122) : Calls Try.prog 4 #[.int .i64 a] w fun e w' => e = .returned (.bool true) ∧ Grown w w' := by
  have e215 : (a == 215) = false := beq_eq_false_iff_ne.2 (by omega)
  have e247 : (a == 247) = false := beq_eq_false_iff_ne.2 (by omega)
  have e39 : (a == 39) = false := beq_eq_false_iff_ne.2 (by omega)
  have e95 : (a == 95) = false := beq_eq_false_iff_ne.2 (by omega)
  have n215 : (a != 215) = true := by rw [bne_iff_ne]; omega
  have n247 : (a != 247) = true := by rw [bne_iff_ne]; omega
  go_enter Try.func4, Try.ntmps4
  go_wp2
  go_ret
  exact ⟨rfl, by repeat (first | exact Grown.refl _ | apply Grown.drew | apply Grown.alloc)⟩

theorem way10 (a : Int) (w : World) (l : 123 ≤ a) (u : a ≤ 191) : Calls Try.prog 4 #[.int .i64 a] w fun e w' => e = .returned (.bool true) ∧ Grown w w' := by
  have e215 : (a == 215) = false := beq_eq_false_iff_ne.2 (by omega)
  have e247 : (a == 247) = false := beq_eq_false_iff_ne.2 (by omega)
  have e39 : (a == 39) = false := beq_eq_false_iff_ne.2 (by omega)
  have e95 : (a == 95) = false := beq_eq_false_iff_ne.2 (by omega)
  have n215 : (a != 215) = true := by rw [bne_iff_ne]; omega
  have n247 : (a != 247) = true := by rw [bne_iff_ne]; omega
  go_enter Try.func4, Try.ntmps4
  go_wp2
  go_ret
  exact ⟨rfl, by repeat (first | exact Grown.refl _ | apply Grown.drew | apply Grown.alloc)⟩

theorem way11 (a : Int) (w : World) (l : 192 ≤ a) (u : a ≤ 214) : Calls Try.prog 4 #[.int .i64 a] w fun e w' => e = .returned (.bool true) ∧ Grown w w' := by
  have e215 : (a == 215) = false := beq_eq_false_iff_ne.2 (by omega)
  have e247 : (a == 247) = false := beq_eq_false_iff_ne.2 (by omega)
  have e39 : (a == 39) = false := beq_eq_false_iff_ne.2 (by omega)
  have e95 : (a == 95) = false := beq_eq_false_iff_ne.2 (by omega)
  have n215 : (a != 215) = true := by rw [bne_iff_ne]; omega
  have n247 : (a != 247) = true := by rw [bne_iff_ne]; omega
  go_enter Try.func4, Try.ntmps4
  go_wp2
  go_ret
  exact ⟨rfl, by repeat (first | exact Grown.refl _ | apply Grown.drew | apply Grown.alloc)⟩

theorem way12 (w : World) : Calls Try.prog 4 #[.int .i64 215] w fun e w' => e = .returned (.bool true) ∧ Grown w w' := by
  go_enter Try.func4, Try.ntmps4
  go_wp2
  go_ret
  exact ⟨rfl, by repeat (first | exact Grown.refl _ | apply Grown.drew | apply Grown.alloc)⟩

theorem way13 (a : Int) (w : World) (l : 216 ≤ a) (u : a ≤ 246) : Calls Try.prog 4 #[.int .i64 a] w fun e w' => e = .returned (.bool true) ∧ Grown w w' := by
  have e215 : (a == 215) = false := beq_eq_false_iff_ne.2 (by omega)
  have e247 : (a == 247) = false := beq_eq_false_iff_ne.2 (by omega)
  have e39 : (a == 39) = false := beq_eq_false_iff_ne.2 (by omega)
  have e95 : (a == 95) = false := beq_eq_false_iff_ne.2 (by omega)
  have n215 : (a != 215) = true := by rw [bne_iff_ne]; omega
  have n247 : (a != 247) = true := by rw [bne_iff_ne]; omega
  go_enter Try.func4, Try.ntmps4
  go_wp2
  go_ret
  exact ⟨rfl, by repeat (first | exact Grown.refl _ | apply Grown.drew | apply Grown.alloc)⟩

theorem way14 (w : World) : Calls Try.prog 4 #[.int .i64 247] w fun e w' => e = .returned (.bool true) ∧ Grown w w' := by
  go_enter Try.func4, Try.ntmps4
  go_wp2
  go_ret
  exact ⟨rfl, by repeat (first | exact Grown.refl _ | apply Grown.drew | apply Grown.alloc)⟩

theorem way15 (a : Int) (w : World) (l : 248 ≤ a) (u : a ≤ 591) : Calls Try.prog 4 #[.int .i64 a] w fun e w' => e = .returned (.bool true) ∧ Grown w w' := by
  have e215 : (a == 215) = false := beq_eq_false_iff_ne.2 (by omega)
  have e247 : (a == 247) = false := beq_eq_false_iff_ne.2 (by omega)
  have e39 : (a == 39) = false := beq_eq_false_iff_ne.2 (by omega)
  have e95 : (a == 95) = false := beq_eq_false_iff_ne.2 (by omega)
  have n215 : (a != 215) = true := by rw [bne_iff_ne]; omega
  have n247 : (a != 247) = true := by rw [bne_iff_ne]; omega
  go_enter Try.func4, Try.ntmps4
  go_wp2
  go_ret
  exact ⟨rfl, by repeat (first | exact Grown.refl _ | apply Grown.drew | apply Grown.alloc)⟩

theorem way16 (a : Int) (w : World) (l : 592 ≤ a) (u : a ≤ 879) : Calls Try.prog 4 #[.int .i64 a] w fun e w' => e = .returned (.bool true) ∧ Grown w w' := by
  have e215 : (a == 215) = false := beq_eq_false_iff_ne.2 (by omega)
  have e247 : (a == 247) = false := beq_eq_false_iff_ne.2 (by omega)
  have e39 : (a == 39) = false := beq_eq_false_iff_ne.2 (by omega)
  have e95 : (a == 95) = false := beq_eq_false_iff_ne.2 (by omega)
  have n215 : (a != 215) = true := by rw [bne_iff_ne]; omega
  have n247 : (a != 247) = true := by rw [bne_iff_ne]; omega
  go_enter Try.func4, Try.ntmps4
  go_wp2
  go_ret
  exact ⟨rfl, by repeat (first | exact Grown.refl _ | apply Grown.drew | apply Grown.alloc)⟩

theorem way17 (a : Int) (w : World) (l : 880 ≤ a) (u : a ≤ 1279) : Calls Try.prog 4 #[.int .i64 a] w fun e w' => e = .returned (.bool true) ∧ Grown w w' := by
  have e215 : (a == 215) = false := beq_eq_false_iff_ne.2 (by omega)
  have e247 : (a == 247) = false := beq_eq_false_iff_ne.2 (by omega)
  have e39 : (a == 39) = false := beq_eq_false_iff_ne.2 (by omega)
  have e95 : (a == 95) = false := beq_eq_false_iff_ne.2 (by omega)
  have n215 : (a != 215) = true := by rw [bne_iff_ne]; omega
  have n247 : (a != 247) = true := by rw [bne_iff_ne]; omega
  go_enter Try.func4, Try.ntmps4
  go_wp2
  go_ret
  exact ⟨rfl, by repeat (first | exact Grown.refl _ | apply Grown.drew | apply Grown.alloc)⟩

theorem way18 (a : Int) (w : World) (l : 1280 ≤ a) (u : a ≤ 12351) : Calls Try.prog 4 #[.int .i64 a] w fun e w' => e = .returned (.bool true) ∧ Grown w w' := by
  have e215 : (a == 215) = false := beq_eq_false_iff_ne.2 (by omega)
  have e247 : (a == 247) = false := beq_eq_false_iff_ne.2 (by omega)
  have e39 : (a == 39) = false := beq_eq_false_iff_ne.2 (by omega)
  have e95 : (a == 95) = false := beq_eq_false_iff_ne.2 (by omega)
  have n215 : (a != 215) = true := by rw [bne_iff_ne]; omega
  have n247 : (a != 247) = true := by rw [bne_iff_ne]; omega
  go_enter Try.func4, Try.ntmps4
  go_wp2
  go_ret
  exact ⟨rfl, by repeat (first | exact Grown.refl _ | apply Grown.drew | apply Grown.alloc)⟩

theorem way19 (a : Int) (w : World) (l : 12352 ≤ a) (u : a ≤ 12543) : Calls Try.prog 4 #[.int .i64 a] w fun e w' => e = .returned (.bool true) ∧ Grown w w' := by
  have e215 : (a == 215) = false := beq_eq_false_iff_ne.2 (by omega)
  have e247 : (a == 247) = false := beq_eq_false_iff_ne.2 (by omega)
  have e39 : (a == 39) = false := beq_eq_false_iff_ne.2 (by omega)
  have e95 : (a == 95) = false := beq_eq_false_iff_ne.2 (by omega)
  have n215 : (a != 215) = true := by rw [bne_iff_ne]; omega
  have n247 : (a != 247) = true := by rw [bne_iff_ne]; omega
  go_enter Try.func4, Try.ntmps4
  go_wp2
  go_ret
  exact ⟨rfl, by repeat (first | exact Grown.refl _ | apply Grown.drew | apply Grown.alloc)⟩

theorem way20 (a : Int) (w : World) (l : 12544 ≤ a) (u : a ≤ 19967) : Calls Try.prog 4 #[.int .i64 a] w fun e w' => e = .returned (.bool true) ∧ Grown w w' := by
  have e215 : (a == 215) = false := beq_eq_false_iff_ne.2 (by omega)
  have e247 : (a == 247) = false := beq_eq_false_iff_ne.2 (by omega)
  have e39 : (a == 39) = false := beq_eq_false_iff_ne.2 (by omega)
  have e95 : (a == 95) = false := beq_eq_false_iff_ne.2 (by omega)
  have n215 : (a != 215) = true := by rw [bne_iff_ne]; omega
  have n247 : (a != 247) = true := by rw [bne_iff_ne]; omega
  go_enter Try.func4, Try.ntmps4
  go_wp2
  go_ret
  exact ⟨rfl, by repeat (first | exact Grown.refl _ | apply Grown.drew | apply Grown.alloc)⟩

theorem way21 (a : Int) (w : World) (l : 19968 ≤ a) (u : a ≤ 40959) : Calls Try.prog 4 #[.int .i64 a] w fun e w' => e = .returned (.bool true) ∧ Grown w w' := by
  have e215 : (a == 215) = false := beq_eq_false_iff_ne.2 (by omega)
  have e247 : (a == 247) = false := beq_eq_false_iff_ne.2 (by omega)
  have e39 : (a == 39) = false := beq_eq_false_iff_ne.2 (by omega)
  have e95 : (a == 95) = false := beq_eq_false_iff_ne.2 (by omega)
  have n215 : (a != 215) = true := by rw [bne_iff_ne]; omega
  have n247 : (a != 247) = true := by rw [bne_iff_ne]; omega
  go_enter Try.func4, Try.ntmps4
  go_wp2
  go_ret
  exact ⟨rfl, by repeat (first | exact Grown.refl _ | apply Grown.drew | apply Grown.alloc)⟩

theorem way22 (a : Int) (w : World) (l : 40960 ≤ a) : Calls Try.prog 4 #[.int .i64 a] w fun e w' => e = .returned (.bool true) ∧ Grown w w' := by
  have e215 : (a == 215) = false := beq_eq_false_iff_ne.2 (by omega)
  have e247 : (a == 247) = false := beq_eq_false_iff_ne.2 (by omega)
  have e39 : (a == 39) = false := beq_eq_false_iff_ne.2 (by omega)
  have e95 : (a == 95) = false := beq_eq_false_iff_ne.2 (by omega)
  have n215 : (a != 215) = true := by rw [bne_iff_ne]; omega
  have n247 : (a != 247) = true := by rw [bne_iff_ne]; omega
  go_enter Try.func4, Try.ntmps4
  go_wp2
  go_ret
  exact ⟨rfl, by repeat (first | exact Grown.refl _ | apply Grown.drew | apply Grown.alloc)⟩

theorem walk (a0 : Int) (w0 : (Lit.int .i64 a0).wf = true) (w : World) :
    Calls Try.prog 4 #[.int .i64 a0] w fun e w' => e = .returned (.bool true) ∧ Grown w w' := by
  by_cases c0 : a0 < 39
  · exact way0 a0 w (by omega)
  by_cases c1 : a0 < 40
  · obtain rfl : a0 = 39 := by omega
    exact way1 w
  by_cases c2 : a0 < 48
  · exact way2 a0 w (by omega) (by omega)
  by_cases c3 : a0 < 58
  · exact way3 a0 w (by omega) (by omega)
  by_cases c4 : a0 < 65
  · exact way4 a0 w (by omega) (by omega)
  by_cases c5 : a0 < 91
  · exact way5 a0 w (by omega) (by omega)
  by_cases c6 : a0 < 95
  · exact way6 a0 w (by omega) (by omega)
  by_cases c7 : a0 < 96
  · obtain rfl : a0 = 95 := by omega
    exact way7 w
  by_cases c8 : a0 < 97
  · obtain rfl : a0 = 96 := by omega
    exact way8 w
  by_cases c9 : a0 < 123
  · exact way9 a0 w (by omega) (by omega)
  by_cases c10 : a0 < 192
  · exact way10 a0 w (by omega) (by omega)
  by_cases c11 : a0 < 215
  · exact way11 a0 w (by omega) (by omega)
  by_cases c12 : a0 < 216
  · obtain rfl : a0 = 215 := by omega
    exact way12 w
  by_cases c13 : a0 < 247
  · exact way13 a0 w (by omega) (by omega)
  by_cases c14 : a0 < 248
  · obtain rfl : a0 = 247 := by omega
    exact way14 w
  by_cases c15 : a0 < 592
  · exact way15 a0 w (by omega) (by omega)
  by_cases c16 : a0 < 880
  · exact way16 a0 w (by omega) (by omega)
  by_cases c17 : a0 < 1280
  · exact way17 a0 w (by omega) (by omega)
  by_cases c18 : a0 < 12352
  · exact way18 a0 w (by omega) (by omega)
  by_cases c19 : a0 < 12544
  · exact way19 a0 w (by omega) (by omega)
  by_cases c20 : a0 < 19968
  · exact way20 a0 w (by omega) (by omega)
  by_cases c21 : a0 < 40960
  · exact way21 a0 w (by omega) (by omega)
  exact way22 a0 w (by omega)

set_option maxRecDepth 100000 in
theorem lifted (os : Os) (started : os.Started) (H : Type) (enc : TypeId × Value → H) :
    ReturnsInHanded {} Try.checked os 4 .any (Rows.fnExactClassSpec.pre6 enc Try.prog Try.f4 Rows.fnExactClassRow.domain false) (Rows.fnExactClassSpec.post enc Try.prog Try.f4 false true false false) := by
  refine returnsInHanded_of_change (C := Try.checked) own started (by kernel_rfl) Try.func4
    (ChangeSpec.witness6 (enc := enc) (C := Try.checked) false ⟨#[], #[.int .i64 0], []⟩ 8 (by kernel_rfl) (by kernel_rfl) (by kernel_rfl) (by kernel_rfl)) ?_
  intro W base args ds gs before hval0 hW hcnd _
  have hval : ∀ (j : Nat) t v, Try.f4.params[j]? = some t → args[j]? = some v → Value.okWide Try.prog W .any base t v := hval0
  have hW' := hW
  obtain ⟨p, q, hA0, hV, rfl, hfz, hnd⟩ := hW
  have hA : DataW.TrodAll enc Try.prog W 0 (fun _ => true) true Try.f4.params.toList args.toList ds p := hA0
  rw [Try.params4] at hA hval
  obtain ⟨v0, vs0, d0, ds0, p0, q0, hargs, rfl, rfl, h0, r0⟩ := trodAll_cons hA
  obtain ⟨rfl, rfl, rfl⟩ := trodAll_nil r0
  obtain rfl : args = #[v0] := by cases args; simp_all
  obtain ⟨rfl, rfl⟩ := trodVars_none hV
  obtain ⟨a0, rfl, rfl, rfl, w0⟩ := open_int Try.underlying3 (hval 0 3 v0 rfl rfl) h0
  clear hA0 hval0
  simp only [List.append_nil] at hW'
  refine (walk a0 w0 W).mono fun e W' ⟨he, hg⟩ => ?_
  subst he
  exact ⟨_, rfl, post_of_same (pa := []) (pv := []) hW' (fun _ _ _ => (trodAll_cons_mk (shut_bool Try.underlying4 _) trodAll_mk0)) (fun sp _ => (trodAll_cons_mk (shut_int Try.underlying3 w0) trodAll_mk0)) (fun _ _ => rfl) rfl
    (hg.frame _) hg.2.1 (ok_one (by kernel_rfl) rfl (okWide_bool_mk Try.underlying4 _))⟩

theorem over : Rows.fnExactClassRow.holds Try.pinned (OpenSpec.ofChange Rows.fnExactClassSpec) :=
  OpenClaim.holds_of_wide 4 Try.f4 rfl rfl rfl rfl rfl rfl rfl ⟨rfl, rfl, rfl, rfl, rfl⟩ rfl rfl rfl rfl rfl (by kernel_rfl) Try.func4 (by kernel_rfl)
    (of_decide_eq_true (by kernel_rfl)) (by unfold Func.isWrapper; first | (rw [if_pos (by decide +kernel)]; kernel_rfl) | (rw [if_neg (by decide +kernel)]; exact ⟨rfl, rfl⟩))
    (fun os started H enc _ => lifted os started H enc)

theorem proved : Rows.FnExactClassSaid :=
  over
end Go.Proofs.Ytecbjhakkebdmai.fnExactClass

namespace Go.Proofs.Ytecbjhakkebdmai
theorem fnExactClass_holds : Rows.FnExactClassSaid := fnExactClass.proved
#print axioms fnExactClass_holds
end Go.Proofs.Ytecbjhakkebdmai
