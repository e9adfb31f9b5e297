import Derived.Test.YtjmfkgbpgbpgnaaStL
namespace Go.Proofs.Ytjmfkgbpgbpgnaa
open Go Go.RowKit
set_option linter.unusedVariables false

set_option maxHeartbeats 1000000 in
theorem strengthLaw_any (f l n t : Int) (w : World) :
    Calls Try.prog 5 #[.int .i64 f, .int .i64 l, .int .i64 n, .int .i64 t] w fun e w' => e = .returned (.bool true) ∧ Below w.heap.size w w' := by
  go_enter Try.func5, Try.ntmps5
  go_wp2_with fail
  refine (specStrength_any f l n t _).mono ?_
  rintro e w1 ⟨rfl, rfl⟩
  go_wp2_with fail
  refine (implStrength_any f l n t _).mono ?_
  rintro e w1 ⟨rfl, rfl⟩
  generalize strengthZ f l n t = x
  go_wp2
  go_ret
  exact ⟨rfl, Below.refl _ _⟩
end Go.Proofs.Ytjmfkgbpgbpgnaa
