import Derived.Test.YtfdmahbjofolhamDoorLkG
namespace Go.Proofs.YtfdmahbjofolhamDoor
open Go Go.RowKit
set_option linter.unusedVariables false
set_option maxRecDepth 100000

set_option maxHeartbeats 2000000 in
theorem likeLaw_any (s t : ByteArray) (w : World) (hT : Tabs w) :
    Calls Tryd.prog 5 #[.string s, .string t] w fun e w' => e = .returned (.bool true) ∧ Below w.heap.size w w' := by
  have HT := hidd hT
  clear hT
  by_cases h1 : 1048576 < s.size
  · have hz : (1048576 : Int) < (s.size : Int) := by omega
    go_enter Tryd.func5, Tryd.ntmps5
    go_wp2
    go_ret
    exact ⟨rfl, Below.refl _ _⟩
  have hz1 : ¬ (1048576 : Int) < (s.size : Int) := by omega
  by_cases h2 : 1048576 < t.size
  · have hz : (1048576 : Int) < (t.size : Int) := by omega
    go_enter Tryd.func5, Tryd.ntmps5
    go_wp2
    go_ret
    exact ⟨rfl, Below.refl _ _⟩
  have hz2 : ¬ (1048576 : Int) < (t.size : Int) := by omega
  go_enter Tryd.func5, Tryd.ntmps5
  go_wp2_with fail
  refine (specLike_any s t _ (by omega) (by omega)).mono ?_
  rintro e w1 ⟨rfl, hb1⟩
  have HB1 := hidd hb1
  clear hb1
  go_wp2_with fail
  refine (implLike_any s t _ (by omega) (by omega) (HT.out.below HB1.out)).mono ?_
  rintro e w2 ⟨rfl, hb2⟩
  have HB2 := hidd (HB1.out.trans (hb2.mono HB1.out.size))
  clear hb2
  have q1 : (lkVal s t != lkVal s t) = false := by simp
  have q2 : (txCode [s, t] != txCode [s, t]) = false := by simp
  generalize lkVal s t = x at *
  generalize txCode [s, t] = y at *
  go_wp2
  go_ret
  exact ⟨rfl, HB2.out⟩
end Go.Proofs.YtfdmahbjofolhamDoor
