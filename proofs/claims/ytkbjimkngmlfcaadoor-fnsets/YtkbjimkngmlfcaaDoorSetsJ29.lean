import Derived.Test.YtkbjimkngmlfcaaDoorSetsJ27
import Derived.Test.YtkbjimkngmlfcaaDoorSetsJ28
namespace Go.Proofs.YtkbjimkngmlfcaaDoor
open Go Go.RowKit
set_option linter.unusedVariables false
set_option linter.unusedSimpArgs false
set_option maxRecDepth 100000
theorem U4:iI:=fun vl vf vn ls ak aB w h1 h2=>RN vl vf vn ls ak aB w h1 h2
theorem setsLaw_any(ao:Option Addr)(n cap:Nat)(EX:Option Addr)(n2 cap2:Nat)(w:World)(hn:n≤maxLen)(hc:CodeIn w ao n)(hn2:n2≤maxLen)(hc2:CodeIn w EX n2)(hcap2:n2≤cap2)(Pn:EX=none→cap2=0)(hT:wK w) :Calls Tryd.prog 3 #[.slice ao n cap,.slice EX n2 cap2] w fun e w'=>e= .returned (.bool true)∧Below w.heap.size w w':=JX U4 ao n cap EX n2 cap2 w hn hc hn2 hc2 hcap2 Pn hT
end Go.Proofs.YtkbjimkngmlfcaaDoor
