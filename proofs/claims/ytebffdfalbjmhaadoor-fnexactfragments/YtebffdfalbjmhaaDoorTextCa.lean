import Derived.Test.YtebffdfalbjmhaaDoorProg
import Derived.Test.YtebffdfalbjmhaaDoorShelf
import Derived.Test.YtebffdfalbjmhaaDoorAid
import Derived.Test.YtebffdfalbjmhaaDoorRunes
import Derived.WalkLawsBesides
namespace Go.Proofs.YtebffdfalbjmhaaDoor
open Go Go.RowKit
set_option linter.unusedVariables false

def Tabs (w : World) : Prop := Lib.Utf8Tabs (Tryd.laysValid_ren.g 3) (Tryd.laysValid_ren.g 4) w
theorem Tabs.below {w w' : World} (h : Tabs w) (hb : Below w.heap.size w w') : Tabs w' := Utf8Tabs_below h hb

theorem valid_any (s : ByteArray) (w : World) (hs : s.size ≤ 1048576) (hT : Tabs w) :
    Calls Tryd.prog 20 #[.string s] w fun e w' => e = .returned (.bool (validB s)) ∧ Below w.heap.size w w' :=
  Any.utf8_ValidString Tryd.laysValid s w (by omega) hT

end Go.Proofs.YtebffdfalbjmhaaDoor
