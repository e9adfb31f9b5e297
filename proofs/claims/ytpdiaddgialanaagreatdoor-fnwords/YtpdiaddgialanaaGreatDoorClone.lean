import Derived.Test.YtpdiaddgialanaaGreatDoorShelf
import Derived.Test.YtpdiaddgialanaaGreatDoorAid
import Derived.WalkLawsBesides
namespace Go.Proofs.YtpdiaddgialanaaGreatDoor
open Go Go.RowKit
set_option linter.unusedVariables false

theorem clone_any (s : ByteArray) (w : World) (hs : s.size ≤ 65536) :
    Calls Tryz.prog 100 #[.string s] w fun e w' => e = .returned (.string s) ∧ Below w.heap.size w w' := by
  go_enter Tryz.func100, Tryz.ntmps100
  go_wp2_with fail
  refine (Tryz.stringslite_Clone s _ (by omega)).mono ?_
  rintro e w1 ⟨rfl, hb⟩
  go_wp2
  go_ret
  exact ⟨rfl, hb⟩

end Go.Proofs.YtpdiaddgialanaaGreatDoor
