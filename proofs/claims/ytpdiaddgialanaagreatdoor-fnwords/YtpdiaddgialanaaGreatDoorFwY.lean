import Derived.Test.YtpdiaddgialanaaGreatDoorFwX
namespace Go.Proofs.YtpdiaddgialanaaGreatDoor
open Go Go.RowKit
set_option linter.unusedVariables false
set_option maxRecDepth 100000

set_option maxHeartbeats 4000000 in
theorem wordsLaw_any (ao : Option Addr) (n cap : Nat) (bo : Option Addr) (m cab : Nat) (w : World) (hn : n ≤ maxLen) (hc : CodeIn w ao n) (hm : m ≤ maxLen) (hcb : CodeIn w bo m) (hT : Tabs w) :
    Calls Tryz.prog 4 #[.slice ao n cap, .slice bo m cab] w fun e w' => e = .returned (.bool true) ∧ Below w.heap.size w w' := by
  by_cases h1 : n ≤ 1048576
  · by_cases h2 : m ≤ 1048576
    · exact words_loop ao n cap bo m cab w h1 hc h2 hcb hT
    · have hnz : ¬ (n : Int) > 1048576 := by omega
      have hmz : (m : Int) > 1048576 := by omega
      clear hc hcb hT
      go_enter Tryz.func4, Tryz.ntmps4
      go_wp2
      go_ret
      exact ⟨rfl, Below.refl _ _⟩
  · have hnz : (n : Int) > 1048576 := by omega
    clear hc hcb hT
    go_enter Tryz.func4, Tryz.ntmps4
    go_wp2
    go_ret
    exact ⟨rfl, Below.refl _ _⟩
end Go.Proofs.YtpdiaddgialanaaGreatDoor
