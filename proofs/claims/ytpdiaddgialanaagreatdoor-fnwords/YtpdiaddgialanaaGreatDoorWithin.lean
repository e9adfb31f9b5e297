import Derived.Test.YtpdiaddgialanaaGreatDoorProg
import Derived.Test.YtpdiaddgialanaaGreatDoorAid
import Derived.WalkLawsBesides
namespace Go.Proofs.YtpdiaddgialanaaGreatDoor
open Go Go.RowKit
set_option linter.unusedVariables false

set_option maxHeartbeats 400000 in
theorem within_any (r lo hi : Int) (w : World) : Calls Tryz.prog 36 #[.int .i64 r, .int .i64 lo, .int .i64 hi] w fun e w' => e = .returned (.bool (decide (lo ≤ r) && decide (r ≤ hi))) ∧ w' = w := by
  by_cases h : lo ≤ r
  · have HB : Hid (decide (lo ≤ r) = true) := decide_eq_true h
    go_enter Tryz.func36, Tryz.ntmps36
    go_wp2
    go_ret
    rw [HB.out, Bool.true_and]
    exact ⟨rfl, rfl⟩
  · have HB : Hid (decide (lo ≤ r) = false) := decide_eq_false h
    go_enter Tryz.func36, Tryz.ntmps36
    go_wp2
    go_ret
    rw [HB.out, Bool.false_and]
    exact ⟨rfl, rfl⟩

end Go.Proofs.YtpdiaddgialanaaGreatDoor
