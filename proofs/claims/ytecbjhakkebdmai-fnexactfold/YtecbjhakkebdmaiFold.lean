import Derived.Test.YtecbjhakkebdmaiRows
import Derived.WalkKit
import Derived.ProofKit
import Derived.OpenShut
namespace Go.Proofs.Ytecbjhakkebdmai.fnExactFold
open Go.ChangeShapes Go.WideShapes Go.ChangeAt Go.RowKit
set_option linter.unusedVariables false

theorem own : ownKnob Try.prog.godebug = none := by kernel_rfl

theorem way0 (a : Int) (w : World) (u : a ≤ 64) : Calls Try.prog 5 #[.int .i64 a] w fun e w' => e = .returned (.bool true) ∧ Grown w w' := by
  have e215 : (a == 215) = false := beq_eq_false_iff_ne.2 (by omega)
  have e930 : (a == 930) = false := beq_eq_false_iff_ne.2 (by omega)
  have e231 : (a == 231) = false := beq_eq_false_iff_ne.2 (by omega)
  have e241 : (a == 241) = false := beq_eq_false_iff_ne.2 (by omega)
  have e248 : (a == 248) = false := beq_eq_false_iff_ne.2 (by omega)
  have e253 : (a == 253) = false := beq_eq_false_iff_ne.2 (by omega)
  have e255 : (a == 255) = false := beq_eq_false_iff_ne.2 (by omega)
  have n215 : (a != 215) = true := by rw [bne_iff_ne]; omega
  have n930 : (a != 930) = true := by rw [bne_iff_ne]; omega
  go_enter Try.func5, Try.ntmps5
  go_wp2
  go_ret
  exact ⟨rfl, by repeat (first | exact Grown.refl _ | apply Grown.drew | apply Grown.alloc)⟩

theorem way1 (a : Int) (w : World) (l : 65 ≤ a) (u : a ≤ 90) : Calls Try.prog 5 #[.int .i64 a] w fun e w' => e = .returned (.bool true) ∧ Grown w w' := by
  have e215 : (a == 215) = false := beq_eq_false_iff_ne.2 (by omega)
  have e930 : (a == 930) = false := beq_eq_false_iff_ne.2 (by omega)
  have e231 : (a == 231) = false := beq_eq_false_iff_ne.2 (by omega)
  have e241 : (a == 241) = false := beq_eq_false_iff_ne.2 (by omega)
  have e248 : (a == 248) = false := beq_eq_false_iff_ne.2 (by omega)
  have e253 : (a == 253) = false := beq_eq_false_iff_ne.2 (by omega)
  have e255 : (a == 255) = false := beq_eq_false_iff_ne.2 (by omega)
  have n215 : (a != 215) = true := by rw [bne_iff_ne]; omega
  have n930 : (a != 930) = true := by rw [bne_iff_ne]; omega
  have s231 : (a + 32 == 231) = false := beq_eq_false_iff_ne.2 (by omega)
  have s241 : (a + 32 == 241) = false := beq_eq_false_iff_ne.2 (by omega)
  have s248 : (a + 32 == 248) = false := beq_eq_false_iff_ne.2 (by omega)
  have s253 : (a + 32 == 253) = false := beq_eq_false_iff_ne.2 (by omega)
  have s255 : (a + 32 == 255) = false := beq_eq_false_iff_ne.2 (by omega)
  go_enter Try.func5, Try.ntmps5
  go_wp2
  go_ret
  exact ⟨rfl, by repeat (first | exact Grown.refl _ | apply Grown.drew | apply Grown.alloc)⟩

theorem way2 (a : Int) (w : World) (l : 91 ≤ a) (u : a ≤ 191) : Calls Try.prog 5 #[.int .i64 a] w fun e w' => e = .returned (.bool true) ∧ Grown w w' := by
  have e215 : (a == 215) = false := beq_eq_false_iff_ne.2 (by omega)
  have e930 : (a == 930) = false := beq_eq_false_iff_ne.2 (by omega)
  have e231 : (a == 231) = false := beq_eq_false_iff_ne.2 (by omega)
  have e241 : (a == 241) = false := beq_eq_false_iff_ne.2 (by omega)
  have e248 : (a == 248) = false := beq_eq_false_iff_ne.2 (by omega)
  have e253 : (a == 253) = false := beq_eq_false_iff_ne.2 (by omega)
  have e255 : (a == 255) = false := beq_eq_false_iff_ne.2 (by omega)
  have n215 : (a != 215) = true := by rw [bne_iff_ne]; omega
  have n930 : (a != 930) = true := by rw [bne_iff_ne]; omega
  go_enter Try.func5, Try.ntmps5
  go_wp2
  go_ret
  exact ⟨rfl, by repeat (first | exact Grown.refl _ | apply Grown.drew | apply Grown.alloc)⟩

theorem way3 (a : Int) (w : World) (l : 192 ≤ a) (u : a ≤ 197) : Calls Try.prog 5 #[.int .i64 a] w fun e w' => e = .returned (.bool true) ∧ Grown w w' := by
  have e215 : (a == 215) = false := beq_eq_false_iff_ne.2 (by omega)
  have e930 : (a == 930) = false := beq_eq_false_iff_ne.2 (by omega)
  have e231 : (a == 231) = false := beq_eq_false_iff_ne.2 (by omega)
  have e241 : (a == 241) = false := beq_eq_false_iff_ne.2 (by omega)
  have e248 : (a == 248) = false := beq_eq_false_iff_ne.2 (by omega)
  have e253 : (a == 253) = false := beq_eq_false_iff_ne.2 (by omega)
  have e255 : (a == 255) = false := beq_eq_false_iff_ne.2 (by omega)
  have n215 : (a != 215) = true := by rw [bne_iff_ne]; omega
  have n930 : (a != 930) = true := by rw [bne_iff_ne]; omega
  have s231 : (a + 32 == 231) = false := beq_eq_false_iff_ne.2 (by omega)
  have s241 : (a + 32 == 241) = false := beq_eq_false_iff_ne.2 (by omega)
  have s248 : (a + 32 == 248) = false := beq_eq_false_iff_ne.2 (by omega)
  have s253 : (a + 32 == 253) = false := beq_eq_false_iff_ne.2 (by omega)
  have s255 : (a + 32 == 255) = false := beq_eq_false_iff_ne.2 (by omega)
  go_enter Try.func5, Try.ntmps5
  go_wp2
  go_ret
  exact ⟨rfl, by repeat (first | exact Grown.refl _ | apply Grown.drew | apply Grown.alloc)⟩

theorem way4 (w : World) : Calls Try.prog 5 #[.int .i64 198] w fun e w' => e = .returned (.bool true) ∧ Grown w w' := by
  go_enter Try.func5, Try.ntmps5
  go_wp2
  go_ret
  exact ⟨rfl, by repeat (first | exact Grown.refl _ | apply Grown.drew | apply Grown.alloc)⟩

theorem way5 (w : World) : Calls Try.prog 5 #[.int .i64 199] w fun e w' => e = .returned (.bool true) ∧ Grown w w' := by
  go_enter Try.func5, Try.ntmps5
  go_wp2
  go_ret
  exact ⟨rfl, by repeat (first | exact Grown.refl _ | apply Grown.drew | apply Grown.alloc)⟩

theorem way6 (a : Int) (w : World) (l : 200 ≤ a) (u : a ≤ 203) : Calls Try.prog 5 #[.int .i64 a] w fun e w' => e = .returned (.bool true) ∧ Grown w w' := by
  have e215 : (a == 215) = false := beq_eq_false_iff_ne.2 (by omega)
  have e930 : (a == 930) = false := beq_eq_false_iff_ne.2 (by omega)
  have e231 : (a == 231) = false := beq_eq_false_iff_ne.2 (by omega)
  have e241 : (a == 241) = false := beq_eq_false_iff_ne.2 (by omega)
  have e248 : (a == 248) = false := beq_eq_false_iff_ne.2 (by omega)
  have e253 : (a == 253) = false := beq_eq_false_iff_ne.2 (by omega)
  have e255 : (a == 255) = false := beq_eq_false_iff_ne.2 (by omega)
  have n215 : (a != 215) = true := by rw [bne_iff_ne]; omega
  have n930 : (a != 930) = true := by rw [bne_iff_ne]; omega
  have s231 : (a + 32 == 231) = false := beq_eq_false_iff_ne.2 (by omega)
  have s241 : (a + 32 == 241) = false := beq_eq_false_iff_ne.2 (by omega)
  have s248 : (a + 32 == 248) = false := beq_eq_false_iff_ne.2 (by omega)
  have s253 : (a + 32 == 253) = false := beq_eq_false_iff_ne.2 (by omega)
  have s255 : (a + 32 == 255) = false := beq_eq_false_iff_ne.2 (by omega)
  go_enter Try.func5, Try.ntmps5
  go_wp2
  go_ret
  exact ⟨rfl, by repeat (first | exact Grown.refl _ | apply Grown.drew | apply Grown.alloc)⟩

theorem way7 (a : Int) (w : World) (l : 204 ≤ a) (u : a ≤ 207) : Calls Try.prog 5 #[.int .i64 a] w fun e w' => e = .returned (.bool true) ∧ Grown w w' := by
  have e215 : (a == 215) = false := beq_eq_false_iff_ne.2 (by omega)
  have e930 : (a == 930) = false := beq_eq_false_iff_ne.2 (by omega)
  have e231 : (a == 231) = false := beq_eq_false_iff_ne.2 (by omega)
  have e241 : (a == 241) = false := beq_eq_false_iff_ne.2 (by omega)
  have e248 : (a == 248) = false := beq_eq_false_iff_ne.2 (by omega)
  have e253 : (a == 253) = false := beq_eq_false_iff_ne.2 (by omega)
  have e255 : (a == 255) = false := beq_eq_false_iff_ne.2 (by omega)
  have n215 : (a != 215) = true := by rw [bne_iff_ne]; omega
  have n930 : (a != 930) = true := by rw [bne_iff_ne]; omega
  have s231 : (a + 32 == 231) = false := beq_eq_false_iff_ne.2 (by omega)
  have s241 : (a + 32 == 241) = false := beq_eq_false_iff_ne.2 (by omega)
  have s248 : (a + 32 == 248) = false := beq_eq_false_iff_ne.2 (by omega)
  have s253 : (a + 32 == 253) = false := beq_eq_false_iff_ne.2 (by omega)
  have s255 : (a + 32 == 255) = false := beq_eq_false_iff_ne.2 (by omega)
  go_enter Try.func5, Try.ntmps5
  go_wp2
  go_ret
  exact ⟨rfl, by repeat (first | exact Grown.refl _ | apply Grown.drew | apply Grown.alloc)⟩

theorem way8 (w : World) : Calls Try.prog 5 #[.int .i64 208] w fun e w' => e = .returned (.bool true) ∧ Grown w w' := by
  go_enter Try.func5, Try.ntmps5
  go_wp2
  go_ret
  exact ⟨rfl, by repeat (first | exact Grown.refl _ | apply Grown.drew | apply Grown.alloc)⟩

theorem way9 (w : World) : Calls Try.prog 5 #[.int .i64 209] w fun e w' => e = .returned (.bool true) ∧ Grown w w' := by
  go_enter Try.func5, Try.ntmps5
  go_wp2
  go_ret
  exact ⟨rfl, by repeat (first | exact Grown.refl _ | apply Grown.drew | apply Grown.alloc)⟩

theorem way10 (a : Int) (w : World) (l : 210 ≤ a) (u : a ≤ 214) : Calls Try.prog 5 #[.int .i64 a] w fun e w' => e = .returned (.bool true) ∧ Grown w w' := by
  have e215 : (a == 215) = false := beq_eq_false_iff_ne.2 (by omega)
  have e930 : (a == 930) = false := beq_eq_false_iff_ne.2 (by omega)
  have e231 : (a == 231) = false := beq_eq_false_iff_ne.2 (by omega)
  have e241 : (a == 241) = false := beq_eq_false_iff_ne.2 (by omega)
  have e248 : (a == 248) = false := beq_eq_false_iff_ne.2 (by omega)
  have e253 : (a == 253) = false := beq_eq_false_iff_ne.2 (by omega)
  have e255 : (a == 255) = false := beq_eq_false_iff_ne.2 (by omega)
  have n215 : (a != 215) = true := by rw [bne_iff_ne]; omega
  have n930 : (a != 930) = true := by rw [bne_iff_ne]; omega
  have s231 : (a + 32 == 231) = false := beq_eq_false_iff_ne.2 (by omega)
  have s241 : (a + 32 == 241) = false := beq_eq_false_iff_ne.2 (by omega)
  have s248 : (a + 32 == 248) = false := beq_eq_false_iff_ne.2 (by omega)
  have s253 : (a + 32 == 253) = false := beq_eq_false_iff_ne.2 (by omega)
  have s255 : (a + 32 == 255) = false := beq_eq_false_iff_ne.2 (by omega)
  go_enter Try.func5, Try.ntmps5
  go_wp2
  go_ret
  exact ⟨rfl, by repeat (first | exact Grown.refl _ | apply Grown.drew | apply Grown.alloc)⟩

theorem way11 (w : World) : Calls Try.prog 5 #[.int .i64 215] w fun e w' => e = .returned (.bool true) ∧ Grown w w' := by
  go_enter Try.func5, Try.ntmps5
  go_wp2
  go_ret
  exact ⟨rfl, by repeat (first | exact Grown.refl _ | apply Grown.drew | apply Grown.alloc)⟩

theorem way12 (w : World) : Calls Try.prog 5 #[.int .i64 216] w fun e w' => e = .returned (.bool true) ∧ Grown w w' := by
  go_enter Try.func5, Try.ntmps5
  go_wp2
  go_ret
  exact ⟨rfl, by repeat (first | exact Grown.refl _ | apply Grown.drew | apply Grown.alloc)⟩

theorem way13 (a : Int) (w : World) (l : 217 ≤ a) (u : a ≤ 220) : Calls Try.prog 5 #[.int .i64 a] w fun e w' => e = .returned (.bool true) ∧ Grown w w' := by
  have e215 : (a == 215) = false := beq_eq_false_iff_ne.2 (by omega)
  have e930 : (a == 930) = false := beq_eq_false_iff_ne.2 (by omega)
  have e231 : (a == 231) = false := beq_eq_false_iff_ne.2 (by omega)
  have e241 : (a == 241) = false := beq_eq_false_iff_ne.2 (by omega)
  have e248 : (a == 248) = false := beq_eq_false_iff_ne.2 (by omega)
  have e253 : (a == 253) = false := beq_eq_false_iff_ne.2 (by omega)
  have e255 : (a == 255) = false := beq_eq_false_iff_ne.2 (by omega)
  have n215 : (a != 215) = true := by rw [bne_iff_ne]; omega
  have n930 : (a != 930) = true := by rw [bne_iff_ne]; omega
  have s231 : (a + 32 == 231) = false := beq_eq_false_iff_ne.2 (by omega)
  have s241 : (a + 32 == 241) = false := beq_eq_false_iff_ne.2 (by omega)
  have s248 : (a + 32 == 248) = false := beq_eq_false_iff_ne.2 (by omega)
  have s253 : (a + 32 == 253) = false := beq_eq_false_iff_ne.2 (by omega)
  have s255 : (a + 32 == 255) = false := beq_eq_false_iff_ne.2 (by omega)
  go_enter Try.func5, Try.ntmps5
  go_wp2
  go_ret
  exact ⟨rfl, by repeat (first | exact Grown.refl _ | apply Grown.drew | apply Grown.alloc)⟩

theorem way14 (w : World) : Calls Try.prog 5 #[.int .i64 221] w fun e w' => e = .returned (.bool true) ∧ Grown w w' := by
  go_enter Try.func5, Try.ntmps5
  go_wp2
  go_ret
  exact ⟨rfl, by repeat (first | exact Grown.refl _ | apply Grown.drew | apply Grown.alloc)⟩

theorem way15 (w : World) : Calls Try.prog 5 #[.int .i64 222] w fun e w' => e = .returned (.bool true) ∧ Grown w w' := by
  go_enter Try.func5, Try.ntmps5
  go_wp2
  go_ret
  exact ⟨rfl, by repeat (first | exact Grown.refl _ | apply Grown.drew | apply Grown.alloc)⟩

theorem way16 (w : World) : Calls Try.prog 5 #[.int .i64 223] w fun e w' => e = .returned (.bool true) ∧ Grown w w' := by
  go_enter Try.func5, Try.ntmps5
  go_wp2
  go_ret
  exact ⟨rfl, by repeat (first | exact Grown.refl _ | apply Grown.drew | apply Grown.alloc)⟩

theorem way17 (a : Int) (w : World) (l : 224 ≤ a) (u : a ≤ 229) : Calls Try.prog 5 #[.int .i64 a] w fun e w' => e = .returned (.bool true) ∧ Grown w w' := by
  have e215 : (a == 215) = false := beq_eq_false_iff_ne.2 (by omega)
  have e930 : (a == 930) = false := beq_eq_false_iff_ne.2 (by omega)
  have e231 : (a == 231) = false := beq_eq_false_iff_ne.2 (by omega)
  have e241 : (a == 241) = false := beq_eq_false_iff_ne.2 (by omega)
  have e248 : (a == 248) = false := beq_eq_false_iff_ne.2 (by omega)
  have e253 : (a == 253) = false := beq_eq_false_iff_ne.2 (by omega)
  have e255 : (a == 255) = false := beq_eq_false_iff_ne.2 (by omega)
  have n215 : (a != 215) = true := by rw [bne_iff_ne]; omega
  have n930 : (a != 930) = true := by rw [bne_iff_ne]; omega
  go_enter Try.func5, Try.ntmps5
  go_wp2
  go_ret
  exact ⟨rfl, by repeat (first | exact Grown.refl _ | apply Grown.drew | apply Grown.alloc)⟩

theorem way18 (w : World) : Calls Try.prog 5 #[.int .i64 230] w fun e w' => e = .returned (.bool true) ∧ Grown w w' := by
  go_enter Try.func5, Try.ntmps5
  go_wp2
  go_ret
  exact ⟨rfl, by repeat (first | exact Grown.refl _ | apply Grown.drew | apply Grown.alloc)⟩

theorem way19 (w : World) : Calls Try.prog 5 #[.int .i64 231] w fun e w' => e = .returned (.bool true) ∧ Grown w w' := by
  go_enter Try.func5, Try.ntmps5
  go_wp2
  go_ret
  exact ⟨rfl, by repeat (first | exact Grown.refl _ | apply Grown.drew | apply Grown.alloc)⟩

theorem way20 (a : Int) (w : World) (l : 232 ≤ a) (u : a ≤ 235) : Calls Try.prog 5 #[.int .i64 a] w fun e w' => e = .returned (.bool true) ∧ Grown w w' := by
  have e215 : (a == 215) = false := beq_eq_false_iff_ne.2 (by omega)
  have e930 : (a == 930) = false := beq_eq_false_iff_ne.2 (by omega)
  have e231 : (a == 231) = false := beq_eq_false_iff_ne.2 (by omega)
  have e241 : (a == 241) = false := beq_eq_false_iff_ne.2 (by omega)
  have e248 : (a == 248) = false := beq_eq_false_iff_ne.2 (by omega)
  have e253 : (a == 253) = false := beq_eq_false_iff_ne.2 (by omega)
  have e255 : (a == 255) = false := beq_eq_false_iff_ne.2 (by omega)
  have n215 : (a != 215) = true := by rw [bne_iff_ne]; omega
  have n930 : (a != 930) = true := by rw [bne_iff_ne]; omega
  go_enter Try.func5, Try.ntmps5
  go_wp2
  go_ret
  exact ⟨rfl, by repeat (first | exact Grown.refl _ | apply Grown.drew | apply Grown.alloc)⟩

theorem way21 (a : Int) (w : World) (l : 236 ≤ a) (u : a ≤ 239) : Calls Try.prog 5 #[.int .i64 a] w fun e w' => e = .returned (.bool true) ∧ Grown w w' := by
  have e215 : (a == 215) = false := beq_eq_false_iff_ne.2 (by omega)
  have e930 : (a == 930) = false := beq_eq_false_iff_ne.2 (by omega)
  have e231 : (a == 231) = false := beq_eq_false_iff_ne.2 (by omega)
  have e241 : (a == 241) = false := beq_eq_false_iff_ne.2 (by omega)
  have e248 : (a == 248) = false := beq_eq_false_iff_ne.2 (by omega)
  have e253 : (a == 253) = false := beq_eq_false_iff_ne.2 (by omega)
  have e255 : (a == 255) = false := beq_eq_false_iff_ne.2 (by omega)
  have n215 : (a != 215) = true := by rw [bne_iff_ne]; omega
  have n930 : (a != 930) = true := by rw [bne_iff_ne]; omega
  go_enter Try.func5, Try.ntmps5
  go_wp2
  go_ret
  exact ⟨rfl, by repeat (first | exact Grown.refl _ | apply Grown.drew | apply Grown.alloc)⟩

theorem way22 (w : World) : Calls Try.prog 5 #[.int .i64 240] w fun e w' => e = .returned (.bool true) ∧ Grown w w' := by
  go_enter Try.func5, Try.ntmps5
  go_wp2
  go_ret
  exact ⟨rfl, by repeat (first | exact Grown.refl _ | apply Grown.drew | apply Grown.alloc)⟩

theorem way23 (w : World) : Calls Try.prog 5 #[.int .i64 241] w fun e w' => e = .returned (.bool true) ∧ Grown w w' := by
  go_enter Try.func5, Try.ntmps5
  go_wp2
  go_ret
  exact ⟨rfl, by repeat (first | exact Grown.refl _ | apply Grown.drew | apply Grown.alloc)⟩

theorem way24 (a : Int) (w : World) (l : 242 ≤ a) (u : a ≤ 246) : Calls Try.prog 5 #[.int .i64 a] w fun e w' => e = .returned (.bool true) ∧ Grown w w' := by
  have e215 : (a == 215) = false := beq_eq_false_iff_ne.2 (by omega)
  have e930 : (a == 930) = false := beq_eq_false_iff_ne.2 (by omega)
  have e231 : (a == 231) = false := beq_eq_false_iff_ne.2 (by omega)
  have e241 : (a == 241) = false := beq_eq_false_iff_ne.2 (by omega)
  have e248 : (a == 248) = false := beq_eq_false_iff_ne.2 (by omega)
  have e253 : (a == 253) = false := beq_eq_false_iff_ne.2 (by omega)
  have e255 : (a == 255) = false := beq_eq_false_iff_ne.2 (by omega)
  have n215 : (a != 215) = true := by rw [bne_iff_ne]; omega
  have n930 : (a != 930) = true := by rw [bne_iff_ne]; omega
  go_enter Try.func5, Try.ntmps5
  go_wp2
  go_ret
  exact ⟨rfl, by repeat (first | exact Grown.refl _ | apply Grown.drew | apply Grown.alloc)⟩

theorem way25 (w : World) : Calls Try.prog 5 #[.int .i64 247] w fun e w' => e = .returned (.bool true) ∧ Grown w w' := by
  go_enter Try.func5, Try.ntmps5
  go_wp2
  go_ret
  exact ⟨rfl, by repeat (first | exact Grown.refl _ | apply Grown.drew | apply Grown.alloc)⟩

theorem way26 (w : World) : Calls Try.prog 5 #[.int .i64 248] w fun e w' => e = .returned (.bool true) ∧ Grown w w' := by
  go_enter Try.func5, Try.ntmps5
  go_wp2
  go_ret
  exact ⟨rfl, by repeat (first | exact Grown.refl _ | apply Grown.drew | apply Grown.alloc)⟩

theorem way27 (a : Int) (w : World) (l : 249 ≤ a) (u : a ≤ 252) : Calls Try.prog 5 #[.int .i64 a] w fun e w' => e = .returned (.bool true) ∧ Grown w w' := by
  have e215 : (a == 215) = false := beq_eq_false_iff_ne.2 (by omega)
  have e930 : (a == 930) = false := beq_eq_false_iff_ne.2 (by omega)
  have e231 : (a == 231) = false := beq_eq_false_iff_ne.2 (by omega)
  have e241 : (a == 241) = false := beq_eq_false_iff_ne.2 (by omega)
  have e248 : (a == 248) = false := beq_eq_false_iff_ne.2 (by omega)
  have e253 : (a == 253) = false := beq_eq_false_iff_ne.2 (by omega)
  have e255 : (a == 255) = false := beq_eq_false_iff_ne.2 (by omega)
  have n215 : (a != 215) = true := by rw [bne_iff_ne]; omega
  have n930 : (a != 930) = true := by rw [bne_iff_ne]; omega
  go_enter Try.func5, Try.ntmps5
  go_wp2
  go_ret
  exact ⟨rfl, by repeat (first | exact Grown.refl _ | apply Grown.drew | apply Grown.alloc)⟩

theorem way28 (w : World) : Calls Try.prog 5 #[.int .i64 253] w fun e w' => e = .returned (.bool true) ∧ Grown w w' := by
  go_enter Try.func5, Try.ntmps5
  go_wp2
  go_ret
  exact ⟨rfl, by repeat (first | exact Grown.refl _ | apply Grown.drew | apply Grown.alloc)⟩

theorem way29 (w : World) : Calls Try.prog 5 #[.int .i64 254] w fun e w' => e = .returned (.bool true) ∧ Grown w w' := by
  go_enter Try.func5, Try.ntmps5
  go_wp2
  go_ret
  exact ⟨rfl, by repeat (first | exact Grown.refl _ | apply Grown.drew | apply Grown.alloc)⟩

theorem way30 (w : World) : Calls Try.prog 5 #[.int .i64 255] w fun e w' => e = .returned (.bool true) ∧ Grown w w' := by
  go_enter Try.func5, Try.ntmps5
  go_wp2
  go_ret
  exact ⟨rfl, by repeat (first | exact Grown.refl _ | apply Grown.drew | apply Grown.alloc)⟩

theorem way31 (a : Int) (w : World) (l : 256 ≤ a) (u : a ≤ 912) : Calls Try.prog 5 #[.int .i64 a] w fun e w' => e = .returned (.bool true) ∧ Grown w w' := by
  have e215 : (a == 215) = false := beq_eq_false_iff_ne.2 (by omega)
  have e930 : (a == 930) = false := beq_eq_false_iff_ne.2 (by omega)
  have e231 : (a == 231) = false := beq_eq_false_iff_ne.2 (by omega)
  have e241 : (a == 241) = false := beq_eq_false_iff_ne.2 (by omega)
  have e248 : (a == 248) = false := beq_eq_false_iff_ne.2 (by omega)
  have e253 : (a == 253) = false := beq_eq_false_iff_ne.2 (by omega)
  have e255 : (a == 255) = false := beq_eq_false_iff_ne.2 (by omega)
  have n215 : (a != 215) = true := by rw [bne_iff_ne]; omega
  have n930 : (a != 930) = true := by rw [bne_iff_ne]; omega
  go_enter Try.func5, Try.ntmps5
  go_wp2
  go_ret
  exact ⟨rfl, by repeat (first | exact Grown.refl _ | apply Grown.drew | apply Grown.alloc)⟩

theorem way32 (a : Int) (w : World) (l : 913 ≤ a) (u : a ≤ 929) : Calls Try.prog 5 #[.int .i64 a] w fun e w' => e = .returned (.bool true) ∧ Grown w w' := by
  have e215 : (a == 215) = false := beq_eq_false_iff_ne.2 (by omega)
  have e930 : (a == 930) = false := beq_eq_false_iff_ne.2 (by omega)
  have e231 : (a == 231) = false := beq_eq_false_iff_ne.2 (by omega)
  have e241 : (a == 241) = false := beq_eq_false_iff_ne.2 (by omega)
  have e248 : (a == 248) = false := beq_eq_false_iff_ne.2 (by omega)
  have e253 : (a == 253) = false := beq_eq_false_iff_ne.2 (by omega)
  have e255 : (a == 255) = false := beq_eq_false_iff_ne.2 (by omega)
  have n215 : (a != 215) = true := by rw [bne_iff_ne]; omega
  have n930 : (a != 930) = true := by rw [bne_iff_ne]; omega
  have s231 : (a + 32 == 231) = false := beq_eq_false_iff_ne.2 (by omega)
  have s241 : (a + 32 == 241) = false := beq_eq_false_iff_ne.2 (by omega)
  have s248 : (a + 32 == 248) = false := beq_eq_false_iff_ne.2 (by omega)
  have s253 : (a + 32 == 253) = false := beq_eq_false_iff_ne.2 (by omega)
  have s255 : (a + 32 == 255) = false := beq_eq_false_iff_ne.2 (by omega)
  go_enter Try.func5, Try.ntmps5
  go_wp2
  go_ret
  exact ⟨rfl, by repeat (first | exact Grown.refl _ | apply Grown.drew | apply Grown.alloc)⟩

theorem way33 (w : World) : Calls Try.prog 5 #[.int .i64 930] w fun e w' => e = .returned (.bool true) ∧ Grown w w' := by
  go_enter Try.func5, Try.ntmps5
  go_wp2
  go_ret
  exact ⟨rfl, by repeat (first | exact Grown.refl _ | apply Grown.drew | apply Grown.alloc)⟩

theorem way34 (a : Int) (w : World) (l : 931 ≤ a) (u : a ≤ 939) : Calls Try.prog 5 #[.int .i64 a] w fun e w' => e = .returned (.bool true) ∧ Grown w w' := by
  have e215 : (a == 215) = false := beq_eq_false_iff_ne.2 (by omega)
  have e930 : (a == 930) = false := beq_eq_false_iff_ne.2 (by omega)
  have e231 : (a == 231) = false := beq_eq_false_iff_ne.2 (by omega)
  have e241 : (a == 241) = false := beq_eq_false_iff_ne.2 (by omega)
  have e248 : (a == 248) = false := beq_eq_false_iff_ne.2 (by omega)
  have e253 : (a == 253) = false := beq_eq_false_iff_ne.2 (by omega)
  have e255 : (a == 255) = false := beq_eq_false_iff_ne.2 (by omega)
  have n215 : (a != 215) = true := by rw [bne_iff_ne]; omega
  have n930 : (a != 930) = true := by rw [bne_iff_ne]; omega
  have s231 : (a + 32 == 231) = false := beq_eq_false_iff_ne.2 (by omega)
  have s241 : (a + 32 == 241) = false := beq_eq_false_iff_ne.2 (by omega)
  have s248 : (a + 32 == 248) = false := beq_eq_false_iff_ne.2 (by omega)
  have s253 : (a + 32 == 253) = false := beq_eq_false_iff_ne.2 (by omega)
  have s255 : (a + 32 == 255) = false := beq_eq_false_iff_ne.2 (by omega)
  go_enter Try.func5, Try.ntmps5
  go_wp2
  go_ret
  exact ⟨rfl, by repeat (first | exact Grown.refl _ | apply Grown.drew | apply Grown.alloc)⟩

theorem way35 (a : Int) (w : World) (l : 940 ≤ a) (u : a ≤ 1023) : Calls Try.prog 5 #[.int .i64 a] w fun e w' => e = .returned (.bool true) ∧ Grown w w' := by
  have e215 : (a == 215) = false := beq_eq_false_iff_ne.2 (by omega)
  have e930 : (a == 930) = false := beq_eq_false_iff_ne.2 (by omega)
  have e231 : (a == 231) = false := beq_eq_false_iff_ne.2 (by omega)
  have e241 : (a == 241) = false := beq_eq_false_iff_ne.2 (by omega)
  have e248 : (a == 248) = false := beq_eq_false_iff_ne.2 (by omega)
  have e253 : (a == 253) = false := beq_eq_false_iff_ne.2 (by omega)
  have e255 : (a == 255) = false := beq_eq_false_iff_ne.2 (by omega)
  have n215 : (a != 215) = true := by rw [bne_iff_ne]; omega
  have n930 : (a != 930) = true := by rw [bne_iff_ne]; omega
  go_enter Try.func5, Try.ntmps5
  go_wp2
  go_ret
  exact ⟨rfl, by repeat (first | exact Grown.refl _ | apply Grown.drew | apply Grown.alloc)⟩

theorem way36 (a : Int) (w : World) (l : 1024 ≤ a) (u : a ≤ 1039) : Calls Try.prog 5 #[.int .i64 a] w fun e w' => e = .returned (.bool true) ∧ Grown w w' := by
  have e215 : (a == 215) = false := beq_eq_false_iff_ne.2 (by omega)
  have e930 : (a == 930) = false := beq_eq_false_iff_ne.2 (by omega)
  have e231 : (a == 231) = false := beq_eq_false_iff_ne.2 (by omega)
  have e241 : (a == 241) = false := beq_eq_false_iff_ne.2 (by omega)
  have e248 : (a == 248) = false := beq_eq_false_iff_ne.2 (by omega)
  have e253 : (a == 253) = false := beq_eq_false_iff_ne.2 (by omega)
  have e255 : (a == 255) = false := beq_eq_false_iff_ne.2 (by omega)
  have n215 : (a != 215) = true := by rw [bne_iff_ne]; omega
  have n930 : (a != 930) = true := by rw [bne_iff_ne]; omega
  have s231 : (a + 80 == 231) = false := beq_eq_false_iff_ne.2 (by omega)
  have s241 : (a + 80 == 241) = false := beq_eq_false_iff_ne.2 (by omega)
  have s248 : (a + 80 == 248) = false := beq_eq_false_iff_ne.2 (by omega)
  have s253 : (a + 80 == 253) = false := beq_eq_false_iff_ne.2 (by omega)
  have s255 : (a + 80 == 255) = false := beq_eq_false_iff_ne.2 (by omega)
  go_enter Try.func5, Try.ntmps5
  go_wp2
  go_ret
  exact ⟨rfl, by repeat (first | exact Grown.refl _ | apply Grown.drew | apply Grown.alloc)⟩

theorem way37 (a : Int) (w : World) (l : 1040 ≤ a) (u : a ≤ 1071) : Calls Try.prog 5 #[.int .i64 a] w fun e w' => e = .returned (.bool true) ∧ Grown w w' := by
  have e215 : (a == 215) = false := beq_eq_false_iff_ne.2 (by omega)
  have e930 : (a == 930) = false := beq_eq_false_iff_ne.2 (by omega)
  have e231 : (a == 231) = false := beq_eq_false_iff_ne.2 (by omega)
  have e241 : (a == 241) = false := beq_eq_false_iff_ne.2 (by omega)
  have e248 : (a == 248) = false := beq_eq_false_iff_ne.2 (by omega)
  have e253 : (a == 253) = false := beq_eq_false_iff_ne.2 (by omega)
  have e255 : (a == 255) = false := beq_eq_false_iff_ne.2 (by omega)
  have n215 : (a != 215) = true := by rw [bne_iff_ne]; omega
  have n930 : (a != 930) = true := by rw [bne_iff_ne]; omega
  have s231 : (a + 32 == 231) = false := beq_eq_false_iff_ne.2 (by omega)
  have s241 : (a + 32 == 241) = false := beq_eq_false_iff_ne.2 (by omega)
  have s248 : (a + 32 == 248) = false := beq_eq_false_iff_ne.2 (by omega)
  have s253 : (a + 32 == 253) = false := beq_eq_false_iff_ne.2 (by omega)
  have s255 : (a + 32 == 255) = false := beq_eq_false_iff_ne.2 (by omega)
  go_enter Try.func5, Try.ntmps5
  go_wp2
  go_ret
  exact ⟨rfl, by repeat (first | exact Grown.refl _ | apply Grown.drew | apply Grown.alloc)⟩

theorem way38 (a : Int) (w : World) (l : 1072 ≤ a) : Calls Try.prog 5 #[.int .i64 a] w fun e w' => e = .returned (.bool true) ∧ Grown w w' := by
  have e215 : (a == 215) = false := beq_eq_false_iff_ne.2 (by omega)
  have e930 : (a == 930) = false := beq_eq_false_iff_ne.2 (by omega)
  have e231 : (a == 231) = false := beq_eq_false_iff_ne.2 (by omega)
  have e241 : (a == 241) = false := beq_eq_false_iff_ne.2 (by omega)
  have e248 : (a == 248) = false := beq_eq_false_iff_ne.2 (by omega)
  have e253 : (a == 253) = false := beq_eq_false_iff_ne.2 (by omega)
  have e255 : (a == 255) = false := beq_eq_false_iff_ne.2 (by omega)
  have n215 : (a != 215) = true := by rw [bne_iff_ne]; omega
  have n930 : (a != 930) = true := by rw [bne_iff_ne]; omega
  go_enter Try.func5, Try.ntmps5
  go_wp2
  go_ret
  exact ⟨rfl, by repeat (first | exact Grown.refl _ | apply Grown.drew | apply Grown.alloc)⟩

theorem walk (a0 : Int) (w0 : (Lit.int .i64 a0).wf = true) (w : World) :
    Calls Try.prog 5 #[.int .i64 a0] w fun e w' => e = .returned (.bool true) ∧ Grown w w' := by
  by_cases c0 : a0 < 65
  · exact way0 a0 w (by omega)
  by_cases c1 : a0 < 91
  · exact way1 a0 w (by omega) (by omega)
  by_cases c2 : a0 < 192
  · exact way2 a0 w (by omega) (by omega)
  by_cases c3 : a0 < 198
  · exact way3 a0 w (by omega) (by omega)
  by_cases c4 : a0 < 199
  · obtain rfl : a0 = 198 := by omega
    exact way4 w
  by_cases c5 : a0 < 200
  · obtain rfl : a0 = 199 := by omega
    exact way5 w
  by_cases c6 : a0 < 204
  · exact way6 a0 w (by omega) (by omega)
  by_cases c7 : a0 < 208
  · exact way7 a0 w (by omega) (by omega)
  by_cases c8 : a0 < 209
  · obtain rfl : a0 = 208 := by omega
    exact way8 w
  by_cases c9 : a0 < 210
  · obtain rfl : a0 = 209 := by omega
    exact way9 w
  by_cases c10 : a0 < 215
  · exact way10 a0 w (by omega) (by omega)
  by_cases c11 : a0 < 216
  · obtain rfl : a0 = 215 := by omega
    exact way11 w
  by_cases c12 : a0 < 217
  · obtain rfl : a0 = 216 := by omega
    exact way12 w
  by_cases c13 : a0 < 221
  · exact way13 a0 w (by omega) (by omega)
  by_cases c14 : a0 < 222
  · obtain rfl : a0 = 221 := by omega
    exact way14 w
  by_cases c15 : a0 < 223
  · obtain rfl : a0 = 222 := by omega
    exact way15 w
  by_cases c16 : a0 < 224
  · obtain rfl : a0 = 223 := by omega
    exact way16 w
  by_cases c17 : a0 < 230
  · exact way17 a0 w (by omega) (by omega)
  by_cases c18 : a0 < 231
  · obtain rfl : a0 = 230 := by omega
    exact way18 w
  by_cases c19 : a0 < 232
  · obtain rfl : a0 = 231 := by omega
    exact way19 w
  by_cases c20 : a0 < 236
  · exact way20 a0 w (by omega) (by omega)
  by_cases c21 : a0 < 240
  · exact way21 a0 w (by omega) (by omega)
  by_cases c22 : a0 < 241
  · obtain rfl : a0 = 240 := by omega
    exact way22 w
  by_cases c23 : a0 < 242
  · obtain rfl : a0 = 241 := by omega
    exact way23 w
  by_cases c24 : a0 < 247
  · exact way24 a0 w (by omega) (by omega)
  by_cases c25 : a0 < 248
  · obtain rfl : a0 = 247 := by omega
    exact way25 w
  by_cases c26 : a0 < 249
  · obtain rfl : a0 = 248 := by omega
    exact way26 w
  by_cases c27 : a0 < 253
  · exact way27 a0 w (by omega) (by omega)
  by_cases c28 : a0 < 254
  · obtain rfl : a0 = 253 := by omega
    exact way28 w
  by_cases c29 : a0 < 255
  · obtain rfl : a0 = 254 := by omega
    exact way29 w
  by_cases c30 : a0 < 256
  · obtain rfl : a0 = 255 := by omega
    exact way30 w
  by_cases c31 : a0 < 913
  · exact way31 a0 w (by omega) (by omega)
  by_cases c32 : a0 < 930
  · exact way32 a0 w (by omega) (by omega)
  by_cases c33 : a0 < 931
  · obtain rfl : a0 = 930 := by omega
    exact way33 w
  by_cases c34 : a0 < 940
  · exact way34 a0 w (by omega) (by omega)
  by_cases c35 : a0 < 1024
  · exact way35 a0 w (by omega) (by omega)
  by_cases c36 : a0 < 1040
  · exact way36 a0 w (by omega) (by omega)
  by_cases c37 : a0 < 1072
  · exact way37 a0 w (by omega) (by omega)
  exact way38 a0 w (by omega)

set_option maxRecDepth 100000 in
theorem lifted (os : Os) (started : os.Started) (H : Type) (enc : TypeId × Value → H) :
    ReturnsInHanded {} Try.checked os 5 .any (Rows.fnExactFoldSpec.pre6 enc Try.prog Try.f5 Rows.fnExactFoldRow.domain false) (Rows.fnExactFoldSpec.post enc Try.prog Try.f5 false true false false) := by
  refine returnsInHanded_of_change (C := Try.checked) own started (by kernel_rfl) Try.func5
    (ChangeSpec.witness6 (enc := enc) (C := Try.checked) false ⟨#[], #[.int .i64 0], []⟩ 8 (by kernel_rfl) (by kernel_rfl) (by kernel_rfl) (by kernel_rfl)) ?_
  intro W base args ds gs before hval0 hW hcnd _
  have hval : ∀ (j : Nat) t v, Try.f5.params[j]? = some t → args[j]? = some v → Value.okWide Try.prog W .any base t v := hval0
  have hW' := hW
  obtain ⟨p, q, hA0, hV, rfl, hfz, hnd⟩ := hW
  have hA : DataW.TrodAll enc Try.prog W 0 (fun _ => true) true Try.f5.params.toList args.toList ds p := hA0
  rw [Try.params5] at hA hval
  obtain ⟨v0, vs0, d0, ds0, p0, q0, hargs, rfl, rfl, h0, r0⟩ := trodAll_cons hA
  obtain ⟨rfl, rfl, rfl⟩ := trodAll_nil r0
  obtain rfl : args = #[v0] := by cases args; simp_all
  obtain ⟨rfl, rfl⟩ := trodVars_none hV
  obtain ⟨a0, rfl, rfl, rfl, w0⟩ := open_int Try.underlying3 (hval 0 3 v0 rfl rfl) h0
  clear hA0 hval0
  simp only [List.append_nil] at hW'
  refine (walk a0 w0 W).mono fun e W' ⟨he, hg⟩ => ?_
  subst he
  exact ⟨_, rfl, post_of_same (pa := []) (pv := []) hW' (fun _ _ _ => (trodAll_cons_mk (shut_bool Try.underlying4 _) trodAll_mk0)) (fun sp _ => (trodAll_cons_mk (shut_int Try.underlying3 w0) trodAll_mk0)) (fun _ _ => rfl) rfl
    (hg.frame _) hg.2.1 (ok_one (by kernel_rfl) rfl (okWide_bool_mk Try.underlying4 _))⟩

theorem over : Rows.fnExactFoldRow.holds Try.pinned (OpenSpec.ofChange Rows.fnExactFoldSpec) :=
  OpenClaim.holds_of_wide 5 Try.f5 rfl rfl rfl rfl rfl rfl rfl ⟨rfl, rfl, rfl, rfl, rfl⟩ rfl rfl rfl rfl rfl (by kernel_rfl) Try.func5 (by kernel_rfl)
    (of_decide_eq_true (by kernel_rfl)) (by unfold Func.isWrapper; first | (rw [if_pos (by decide +kernel)]; kernel_rfl) | (rw [if_neg (by decide +kernel)]; exact ⟨rfl, rfl⟩))
    (fun os started H enc _ => lifted os started H enc)

theorem proved : Rows.FnExactFoldSaid :=
  over
end Go.Proofs.Ytecbjhakkebdmai.fnExactFold

namespace Go.Proofs.Ytecbjhakkebdmai
theorem fnExactFold_holds : Rows.FnExactFoldSaid := fnExactFold.proved
#print axioms fnExactFold_holds
end Go.Proofs.Ytecbjhakkebdmai
