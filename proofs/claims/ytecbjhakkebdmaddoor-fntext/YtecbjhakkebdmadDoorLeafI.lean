import Derived.Test.YtecbjhakkebdmadDoorProg
import Derived.Test.YtecbjhakkebdmadDoorPlain
import Derived.WalkKit
import Derived.WalkLawsBesides
import Derived.BigQuiet
namespace Go.Proofs.YtecbjhakkebdmadDoor
open Go Go.RowKit

set_option maxHeartbeats 400000 in
theorem isCharacter_any (r : Int) (w : World) : Calls Tryd.prog 20 #[.int .i64 r] w fun e w' => e = .returned (.bool (chr r)) ∧ w' = w := by
  by_cases h1 : 0 ≤ r
  · by_cases h2 : r ≤ 1114111
    · by_cases h3 : 55296 ≤ r
      · by_cases h4 : r ≤ 57343
        · have H : Hid (chr r = false) := by show _ = _; rw [chr_not]; omega
          go_enter Tryd.func20, Tryd.ntmps20
          go_wp2
          go_ret
          rw [H.out]
          exact ⟨rfl, rfl⟩
        · have H : Hid (chr r = true) := by show _ = _; rw [chr_iff]; omega
          go_enter Tryd.func20, Tryd.ntmps20
          go_wp2
          go_ret
          rw [H.out]
          exact ⟨rfl, rfl⟩
      · have H : Hid (chr r = true) := by show _ = _; rw [chr_iff]; omega
        go_enter Tryd.func20, Tryd.ntmps20
        go_wp2
        go_ret
        rw [H.out]
        exact ⟨rfl, rfl⟩
    · have H : Hid (chr r = false) := by show _ = _; rw [chr_not]; omega
      go_enter Tryd.func20, Tryd.ntmps20
      go_wp2
      go_ret
      rw [H.out]
      exact ⟨rfl, rfl⟩
  · have H : Hid (chr r = false) := by show _ = _; rw [chr_not]; omega
    go_enter Tryd.func20, Tryd.ntmps20
    go_wp2
    go_ret
    rw [H.out]
    exact ⟨rfl, rfl⟩
end Go.Proofs.YtecbjhakkebdmadDoor
