import Derived.Test.YtnekdkafhoacoaaDoorProg
import Derived.Test.YtnekdkafhoacoaaDoorAid
import Derived.Test.YtnekdkafhoacoaaDoorGramP
import Derived.WalkLawsBesides
namespace Go.Proofs.YtnekdkafhoacoaaDoor
open Go Go.RowKit
set_option linter.unusedVariables false

theorem gOK_iff (lo hi : Int) : gOK lo hi = true ↔ (1 ≤ lo ∧ lo ≤ hi ∧ hi ≤ 8) := by simp [gOK]
set_option maxHeartbeats 400000 in
theorem gramSizes_any (lo hi : Int) (w : World) : Calls Tryd.prog 54 #[.int .i64 lo, .int .i64 hi] w fun e w' => e = .returned (.bool (gOK lo hi)) ∧ w' = w := by
  have HG : Hid (gOK lo hi = (decide (1 ≤ lo) && decide (lo ≤ hi) && decide (hi ≤ 8))) := by
    show _ = _
    rw [Bool.eq_iff_iff, gOK_iff]
    simp [and_assoc]
  by_cases h1 : 1 ≤ lo
  · by_cases h2 : lo ≤ hi
    · have HB : Hid ((decide (1 ≤ lo) && decide (lo ≤ hi)) = true) := by show _ = _; rw [decide_eq_true h1, decide_eq_true h2]; rfl
      go_enter Tryd.func54, Tryd.ntmps54
      go_wp2
      go_ret
      rw [HG.out, HB.out, Bool.true_and]
      exact ⟨rfl, rfl⟩
    · have h2b : decide (lo ≤ hi) = false := decide_eq_false h2
      have HB : Hid ((decide (1 ≤ lo) && decide (lo ≤ hi)) = false) := by show _ = _; rw [h2b, Bool.and_false]
      go_enter Tryd.func54, Tryd.ntmps54
      go_wp2
      go_ret
      rw [HG.out, HB.out, Bool.false_and]
      exact ⟨rfl, rfl⟩
  · have h1b : decide (1 ≤ lo) = false := decide_eq_false h1
    have HB : Hid ((decide (1 ≤ lo) && decide (lo ≤ hi)) = false) := by show _ = _; rw [h1b, Bool.false_and]
    go_enter Tryd.func54, Tryd.ntmps54
    go_wp2
    go_ret
    rw [HG.out, HB.out, Bool.false_and]
    exact ⟨rfl, rfl⟩

end Go.Proofs.YtnekdkafhoacoaaDoor
