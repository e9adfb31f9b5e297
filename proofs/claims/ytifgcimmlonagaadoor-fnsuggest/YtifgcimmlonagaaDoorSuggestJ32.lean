import Derived.Test.YtifgcimmlonagaaDoorSuggestJ31
namespace Go.Proofs.YtifgcimmlonagaaDoor
open Go Go.RowKit

theorem sgFnLaw_any (ao : Option Addr) (n cap : Nat) (w : World) (hm : n ≤ maxLen) (hc : CodeIn w ao n) (hT : Tabs w) :
    Calls Tryd.prog 3 #[.slice ao n cap] w fun e w' => e = .returned (.bool true) ∧ Below w.heap.size w w' := by
  have _ := hm
  exact sgFn_any ao n cap w hc hT
end Go.Proofs.YtifgcimmlonagaaDoor
