import Derived.Test.YteedakkclppipajDoorFoldA
import Derived.Test.YteedakkclppipajDoorFoldB
namespace Go.Proofs.YteedakkclppipajDoor
open Go Go.RowKit
set_option maxHeartbeats 400000 in
theorem implFold_any (a : Int) (w : World) : Calls Tryd.prog 22 #[.int .i64 a] w fun e w' => e = .returned (.int .i64 (foldZ a)) ∧ w' = w := by
  unfold foldZ
  go_enter Tryd.func22, Tryd.ntmps22
  go_wp2_with fail
  refine (small_any _ _).mono ?_
  rintro e w1 ⟨rfl, rfl⟩
  go_wp2_with fail
  refine (accent_any _ _).mono ?_
  rintro e w1 ⟨rfl, rfl⟩
  go_wp2
  go_ret
  exact ⟨rfl, rfl⟩
end Go.Proofs.YteedakkclppipajDoor
