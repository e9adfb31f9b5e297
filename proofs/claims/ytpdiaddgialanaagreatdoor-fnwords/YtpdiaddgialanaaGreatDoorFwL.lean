import Derived.Test.YtpdiaddgialanaaGreatDoorHpA
import Derived.Test.YtpdiaddgialanaaGreatDoorRgB
import Derived.Test.YtpdiaddgialanaaGreatDoorTkW
import Derived.Test.YtpdiaddgialanaaGreatDoorBtA
import Derived.Test.YtpdiaddgialanaaGreatDoorStemP
import Derived.BigRegion
import Derived.Laws.ResultCell
import Derived.Laws.AppendOwn
namespace Go.Proofs.YtpdiaddgialanaaGreatDoor
open Go Go.RowKit
set_option linter.unusedVariables false
set_option linter.unusedSimpArgs false
set_option maxRecDepth 100000

/-! What a twig has below it. -/
theorem taTm (f tx : ByteArray) (w : World) : (Instr.typeAssert (.iface 192 (.agg #[.string f, .string tx])) 69 106 true).run Tryz.prog w = .ok (.tuple #[.agg #[.slice none 0 0, .int .i64 0], .bool false]) w := by kernel_rfl
theorem taBl (a : Option Addr) (n c : Nat) (m : Int) (w : World) : (Instr.typeAssert (.iface 106 (.agg #[.slice a n c, .int .i64 m])) 69 106 true).run Tryz.prog w = .ok (.tuple #[.agg #[.slice a n c, .int .i64 m], .bool true]) w := by kernel_rfl
set_option maxHeartbeats 4000000 in
theorem kids_term (r o : Int) (f tx : ByteArray) (w : World) : Calls Tryz.prog 76 #[.agg #[.int .i64 r, .int .i64 o, .iface 192 (.agg #[.string f, .string tx])]] w fun e w' => e = .returned (.slice none 0 0) ∧ Below w.heap.size w w' := by
  have HB : Hid (Below w.heap.size w ((w.alloc (.cells #[.int .i64 r, .int .i64 o, .iface 192 (.agg #[.string f, .string tx])] 71)).alloc (.cells #[.slice none 0 0, .int .i64 0] 106))) := ((Below.refl _ _).alloc (Nat.le_refl _) _).alloc (by simp) _
  have m1 := taTm
  have m2 := taBl
  go_enter Tryz.func76, Tryz.ntmps76
  go_wp2
  go_ret
  exact ⟨rfl, HB.out⟩
set_option maxHeartbeats 4000000 in
theorem kids_bool (r o m : Int) (a : Option Addr) (n c : Nat) (w : World) : Calls Tryz.prog 76 #[.agg #[.int .i64 r, .int .i64 o, .iface 106 (.agg #[.slice a n c, .int .i64 m])]] w fun e w' => e = .returned (.slice a n c) ∧ Below w.heap.size w w' := by
  have HB : Hid (Below w.heap.size w ((w.alloc (.cells #[.int .i64 r, .int .i64 o, .iface 106 (.agg #[.slice a n c, .int .i64 m])] 71)).alloc (.cells #[.slice a n c, .int .i64 m] 106))) := ((Below.refl _ _).alloc (Nat.le_refl _) _).alloc (by simp) _
  have m1 := taTm
  have m2 := taBl
  go_enter Tryz.func76, Tryz.ntmps76
  go_wp2
  go_ret
  exact ⟨rfl, HB.out⟩
end Go.Proofs.YtpdiaddgialanaaGreatDoor
