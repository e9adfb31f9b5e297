import Derived.Test.YtanolccfmpbjgalDictOKJ03
import Derived.Test.YtanolccfmpbjgalBytesLawK
import Derived.Test.YtanolccfmpbjgalDictOKJ15
namespace Go.Proofs.Ytanolccfmpbjgal
open Go Go.RowKit
set_option linter.unusedVariables false
theorem bytesLaw (c : Int) (a : Option Addr) (cap : Nat) (S : List St) (w : World) (hn : S.length ≤ 9223372036854775807) (hA : ∀ i, (arcsAt S i).length ≤ 9223372036854775807) (hS : HoldS w a S) :
    Calls Try.prog 7 #[.agg #[.int .i64 c, .slice a S.length cap]] w fun e w' => e = .returned (.bool true) ∧ Below w.heap.size w w' :=
  bytesLaw_any (specBytes_any make_any) (implBytes_any (dictOK_any endingsOf_any)) c a cap S w hn hA hS
end Go.Proofs.Ytanolccfmpbjgal
