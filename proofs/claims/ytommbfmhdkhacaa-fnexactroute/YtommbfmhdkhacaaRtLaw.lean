import Derived.Test.YtommbfmhdkhacaaRtA
namespace Go.Proofs.Ytommbfmhdkhacaa
open Go Go.RowKit
set_option linter.unusedVariables false

set_option maxHeartbeats 2000000 in
set_option maxRecDepth 100000 in
theorem routeLaw_any (t : ByteArray) (n : Int) (w : World) :
    Calls Try.prog 4 #[.string t, .int .i64 n] w fun e w' => e = .returned (.bool true) ∧ Below w.heap.size w w' := by
  by_cases hlong : (t.size : Int) > 1048576
  · go_enter Try.func4, Try.ntmps4
    go_wp2_with fail
    go_ret
    exact ⟨rfl, Below.refl _ _⟩
  · go_enter Try.func4, Try.ntmps4
    go_wp2_with fail
    refine (specRoute_any t n _).mono ?_
    rintro e w1 ⟨rfl, hb1⟩
    have HB1 := hidd hb1
    clear hb1
    go_wp2_with fail
    refine (implRoute_any t n _).mono ?_
    rintro e w2 ⟨rfl, hb2⟩
    have HB2 := hidd (HB1.out.trans (hb2.mono HB1.out.size))
    clear hb2
    generalize routeZ t n = z at *
    go_wp2_with fail
    go_ret
    exact ⟨rfl, HB2.out⟩
end Go.Proofs.Ytommbfmhdkhacaa
