import Derived.Test.YtpdiaddgialanaaGreatDoorProg
import Derived.Test.YtpdiaddgialanaaGreatDoorShelf
import Derived.Test.YtpdiaddgialanaaGreatDoorAid
import Derived.Test.YtpdiaddgialanaaGreatDoorRunes
import Derived.WalkLawsBesides
namespace Go.Proofs.YtpdiaddgialanaaGreatDoor
open Go Go.RowKit
set_option linter.unusedVariables false

def Tabs (w : World) : Prop := Lib.Utf8Tabs (Tryz.laysValid_ren.g 3) (Tryz.laysValid_ren.g 4) w
theorem Tabs.below {w w' : World} (h : Tabs w) (hb : Below w.heap.size w w') : Tabs w' := Utf8Tabs_below h hb

theorem valid_any (s : ByteArray) (w : World) (hs : s.size ≤ 1048576) (hT : Tabs w) :
    Calls Tryz.prog 53 #[.string s] w fun e w' => e = .returned (.bool (validB s)) ∧ Below w.heap.size w w' :=
  Any.utf8_ValidString Tryz.laysValid s w (by omega) hT

end Go.Proofs.YtpdiaddgialanaaGreatDoor
