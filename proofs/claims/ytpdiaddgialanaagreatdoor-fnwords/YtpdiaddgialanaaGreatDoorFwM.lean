import Derived.Test.YtpdiaddgialanaaGreatDoorFwL
namespace Go.Proofs.YtpdiaddgialanaaGreatDoor
open Go Go.RowKit
set_option linter.unusedVariables false
set_option linter.unusedSimpArgs false
set_option maxRecDepth 100000

/-! How deep a twig is. -/
set_option maxHeartbeats 4000000 in
theorem depth_term (r o : Int) (f tx : ByteArray) (w : World) : Calls Tryz.prog 57 #[.agg #[.int .i64 r, .int .i64 o, .iface 192 (.agg #[.string f, .string tx])]] w fun e w' => e = .returned (.int .i64 1) ∧ Below w.heap.size w w' := by
  have HB : Hid (Below w.heap.size w (w.alloc (.cells #[.int .i64 r, .int .i64 o, .iface 192 (.agg #[.string f, .string tx])] 71))) := (Below.refl _ _).alloc (Nat.le_refl _) _
  go_enter Tryz.func57, Tryz.ntmps57
  go_wp2_with fail
  refine (kids_term r o f tx _).mono ?_
  rintro e w1 ⟨rfl, hb⟩
  have HB1 := hidd (HB.out.trans (hb.mono HB.out.size))
  clear hb HB
  go_wp2_with fail
  refine wp_loop_rounds 1 ?_
  rw [rounds_succ]
  go_wp2
  go_ret
  exact ⟨rfl, HB1.out⟩
end Go.Proofs.YtpdiaddgialanaaGreatDoor
