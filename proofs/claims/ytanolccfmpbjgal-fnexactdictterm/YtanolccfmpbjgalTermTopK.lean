import Derived.Test.YtanolccfmpbjgalDictOKJ03
import Derived.Test.YtanolccfmpbjgalTermLawK
import Derived.Test.YtanolccfmpbjgalDictOKJ15
namespace Go.Proofs.Ytanolccfmpbjgal
open Go Go.RowKit
set_option linter.unusedVariables false
theorem termLaw (c : Int) (a : Option Addr) (cap : Nat) (S : List St) (n : Int) (w : World) (hn : S.length ≤ 9223372036854775807) (hA : ∀ i, (arcsAt S i).length ≤ 9223372036854775807) (hS : HoldS w a S) :
    Calls Try.prog 5 #[.agg #[.int .i64 c, .slice a S.length cap], .int .i64 n] w fun e w' => e = .returned (.bool true) ∧ Below w.heap.size w w' :=
  termLaw_any (specTerm_any make_any) (implTerm_any (dictOK_any endingsOf_any)) c a cap S n w hn hA hS
end Go.Proofs.Ytanolccfmpbjgal
