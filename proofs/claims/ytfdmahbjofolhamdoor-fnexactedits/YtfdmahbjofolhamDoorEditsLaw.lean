import Derived.Test.YtfdmahbjofolhamDoorEdK
namespace Go.Proofs.YtfdmahbjofolhamDoor
open Go Go.RowKit
set_option linter.unusedVariables false

set_option maxHeartbeats 2000000 in
theorem editsLaw_any (s t : ByteArray) (w : World) (hT : Tabs w) :
    Calls Tryd.prog 6 #[.string s, .string t] w fun e w' => e = .returned (.bool true) ∧ Below w.heap.size w w' := by
  have HT := hidd hT
  clear hT
  by_cases h1 : 1048576 < s.size
  · have hz : (1048576 : Int) < (s.size : Int) := by omega
    go_enter Tryd.func6, Tryd.ntmps6
    go_wp2
    go_ret
    exact ⟨rfl, Below.refl _ _⟩
  have hz1 : ¬ (1048576 : Int) < (s.size : Int) := by omega
  by_cases h2 : 1048576 < t.size
  · have hz : (1048576 : Int) < (t.size : Int) := by omega
    go_enter Tryd.func6, Tryd.ntmps6
    go_wp2
    go_ret
    exact ⟨rfl, Below.refl _ _⟩
  have hz2 : ¬ (1048576 : Int) < (t.size : Int) := by omega
  go_enter Tryd.func6, Tryd.ntmps6
  go_wp2_with fail
  refine (specEdits_any s t _ (by omega) (by omega)).mono ?_
  rintro e w1 ⟨rfl, hb1⟩
  have HB1 := hidd hb1
  clear hb1
  go_wp2_with fail
  refine (implEdits_any s t _ (by omega) (by omega) (HT.out.below HB1.out)).mono ?_
  rintro e w2 ⟨rfl, hb2⟩
  have HB2 := hidd (HB1.out.trans (hb2.mono HB1.out.size))
  clear hb2
  have q1 : (edVal s t != edVal s t) = false := by simp
  have q2 : (edCode s t != edCode s t) = false := by simp
  generalize edVal s t = x at *
  generalize edCode s t = y at *
  go_wp2
  go_ret
  exact ⟨rfl, HB2.out⟩
end Go.Proofs.YtfdmahbjofolhamDoor
