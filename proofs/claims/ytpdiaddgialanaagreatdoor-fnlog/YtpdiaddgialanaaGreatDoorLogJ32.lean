import Derived.Test.YtpdiaddgialanaaGreatDoorLogJ31
namespace Go.Proofs.YtpdiaddgialanaaGreatDoor
open Go Go.RowKit
set_option linter.unusedVariables false
set_option maxRecDepth 100000

set_option maxHeartbeats 4000000 in
theorem logLaw_any {u : TypeId} {pv : Value} (ao : Option Addr) (n cap : Nat) (bo : Option Addr) (m cab : Nat) (w : World) (hn : n ≤ maxLen) (hc : CodeIn w ao n) (hcap : n ≤ cap) (hnil : ao = none → cap = 0) (hm : m ≤ maxLen) (hcb : CodeIn w bo m) (hE : ErrC w u pv) :
    Calls Tryz.prog 3 #[.slice ao n cap, .slice bo m cab] w fun e w' => e = .returned (.bool true) ∧ Below w.heap.size w w' := by
  by_cases h1 : n ≤ 1048576
  · by_cases h2 : m ≤ 1048576
    · exact logLoop_any ao n cap bo m cab w h1 hc hcap hnil h2 hcb hE
    · have hnz : ¬ (n : Int) > 1048576 := by omega
      have hmz : (m : Int) > 1048576 := by omega
      clear hc hcb hE hcap hnil
      go_enter Tryz.func3, Tryz.ntmps3
      go_wp2
      go_ret
      exact ⟨rfl, Below.refl _ _⟩
  · have hnz : (n : Int) > 1048576 := by omega
    clear hc hcb hE hcap hnil
    go_enter Tryz.func3, Tryz.ntmps3
    go_wp2
    go_ret
    exact ⟨rfl, Below.refl _ _⟩
end Go.Proofs.YtpdiaddgialanaaGreatDoor
