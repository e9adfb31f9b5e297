import Derived.Test.YtjmfkgbpgbpgnaaWgL
import Derived.Test.YtjmfkgbpgbpgnaaLen
namespace Go.Proofs.Ytjmfkgbpgbpgnaa
open Go Go.RowKit
set_option linter.unusedVariables false

theorem lenC : LenC := fun x w h0 h1 => Try.bits_Len64 x w h0 h1
set_option maxHeartbeats 1000000 in
theorem log2Law_any (z : Int) (w : World) :
    Calls Try.prog 3 #[.int .i64 z] w fun e w' => e = .returned (.bool true) ∧ Below w.heap.size w w' := by
  go_enter Try.func3, Try.ntmps3
  go_wp2_with fail
  refine (specLog2_any z _).mono ?_
  rintro e w1 ⟨rfl, rfl⟩
  go_wp2_with fail
  refine (implLog2_any lenC z _).mono ?_
  rintro e w1 ⟨rfl, rfl⟩
  generalize log2Z z = x
  go_wp2
  go_ret
  exact ⟨rfl, Below.refl _ _⟩
set_option maxHeartbeats 1000000 in
theorem weightLaw_any (n m : Int) (w : World) :
    Calls Try.prog 4 #[.int .i64 n, .int .i64 m] w fun e w' => e = .returned (.bool true) ∧ Below w.heap.size w w' := by
  go_enter Try.func4, Try.ntmps4
  go_wp2_with fail
  refine (specWeight_any n m _).mono ?_
  rintro e w1 ⟨rfl, rfl⟩
  go_wp2_with fail
  refine (implWeight_any lenC n m _).mono ?_
  rintro e w1 ⟨rfl, rfl⟩
  generalize weightZ n m = x
  go_wp2
  go_ret
  exact ⟨rfl, Below.refl _ _⟩
end Go.Proofs.Ytjmfkgbpgbpgnaa
