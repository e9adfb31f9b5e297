import Derived.Test.YtanolccfmpbjgalDictOKJ03
import Derived.Test.YtanolccfmpbjgalFindLawK
import Derived.Test.YtanolccfmpbjgalDictOKJ15
namespace Go.Proofs.Ytanolccfmpbjgal
open Go Go.RowKit
set_option linter.unusedVariables false
theorem findLaw (c : Int) (a : Option Addr) (cap : Nat) (S : List St) (s : ByteArray) (w : World) (hn : S.length ≤ 9223372036854775807) (hA : ∀ i, (arcsAt S i).length ≤ 9223372036854775807) (hS : HoldS w a S) :
    Calls Try.prog 4 #[.agg #[.int .i64 c, .slice a S.length cap], .string s] w fun e w' => e = .returned (.bool true) ∧ Below w.heap.size w w' :=
  findLaw_any (specFind_any make_any) (implFind_any (dictOK_any endingsOf_any)) c a cap S s.data.toList w hn hA hS
end Go.Proofs.Ytanolccfmpbjgal
