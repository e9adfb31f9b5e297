/-
  NARROWER THAN 'FOR EVERY INPUT', by the rows' own cells (each row's printed sentence says how): FnExactPhone: laid · FnExactGrams: laid · FnExactAnalyzerOK: laid.
  DERIVED. THE GIVEN ROWS OF THIS SEAT. 3 by the template 'for every input the law returns true; each argument reads behind the call as it read before'; 0 by the template 'total and deterministic' (their statements: YteedakkclppipajDoorTotals.lean).
  GIVEN WITH THE SEED: the statements are not yours to turn. If you find one false, say at which input.
  Laid BY PROGRAM, IN A SANDBOX (cutbox-rows.mjs): the forced cells as the released guide's own fill.sh prints them over the translation 51e689cc87c014c8… (all of the seat's roots in one cut). By AI agents, Wed Nov 11 2026. No macro, syntax, notation, axiom, sorry.
-/
import Derived.Test.YteedakkclppipajDoorChecked
import GoSem.PinnedTables
import GoSem.Claim
import GoSem.ClaimJoined
import GoSem.ClaimMapViews
import Derived.JoinedTies
import Derived.KernelRfl
namespace Go.Proofs.YteedakkclppipajDoor
/- THE CELL 'sum', in the pinned program and in every row, IS THE sha256 OF THE DUMP (.gsa) THAT YteedakkclppipajDoorProg.lean LOADS. Nothing in Lean hashes anything: it is a label: what it is worth is what the hold of that sum in a sandbox is worth. -/
noncomputable def Tryd.pinned : Pinned := { name := "yteedakkclppipajdoor", sum := "51e689cc87c014c844dc323a6dc31e136647e3129cdf22809fd1e05fd9ff3607", checked := Tryd.checked }
namespace Rows
def none {H : Type} : Left H := { results := [], args := [] }

/- WHAT THE LISTED PACKAGE-LEVEL VARIABLES READ AS WHEN THE CALL BEGINS. Each datum BY PROGRAM (the guide's laid-datum.mjs) off the statement by which the dump's own 'gosem.cut.vars' lays the variable. In a bare row this is a premise. The card (YteedakkclppipajDoorCards.lean) ties it to the program's text. -/
def laid_unicode_utf8_acceptRanges {H : Type} : DataW H := .agg [.agg [.lit (.int .u8 128), .lit (.int .u8 191)], .agg [.lit (.int .u8 160), .lit (.int .u8 191)], .agg [.lit (.int .u8 128), .lit (.int .u8 159)], .agg [.lit (.int .u8 144), .lit (.int .u8 191)], .agg [.lit (.int .u8 128), .lit (.int .u8 143)], .agg [.lit (.int .u8 0), .lit (.int .u8 0)], .agg [.lit (.int .u8 0), .lit (.int .u8 0)], .agg [.lit (.int .u8 0), .lit (.int .u8 0)], .agg [.lit (.int .u8 0), .lit (.int .u8 0)], .agg [.lit (.int .u8 0), .lit (.int .u8 0)], .agg [.lit (.int .u8 0), .lit (.int .u8 0)], .agg [.lit (.int .u8 0), .lit (.int .u8 0)], .agg [.lit (.int .u8 0), .lit (.int .u8 0)], .agg [.lit (.int .u8 0), .lit (.int .u8 0)], .agg [.lit (.int .u8 0), .lit (.int .u8 0)], .agg [.lit (.int .u8 0), .lit (.int .u8 0)]]
/-- One of Go's own tables, pinned by name: the form's constant. -/
def laid_unicode_utf8_first : DataW Unit := Go.Pinned.utf8First

/-- 'laws.FnExactPhone': WHATEVER THE INPUT: true; the input reads as it did. -/
def fnExactPhoneSpec : ChangeSpec := { name := "fnExactPhone", fn := fun _ => fun
  | [d] => { results := [.lit (.bool true)], args := [d] }
  | _ => none }
def fnExactPhoneRow : OpenClaim := { program := "yteedakkclppipajdoor", sum := "51e689cc87c014c844dc323a6dc31e136647e3129cdf22809fd1e05fd9ff3607", func := "loop.example/g00018/laws.FnExactPhone", spec := "fnExactPhone", named := ["unicode/utf8.first", "unicode/utf8.acceptRanges"], apart := false, laid := [("unicode/utf8.acceptRanges", laid_unicode_utf8_acceptRanges), ("unicode/utf8.first", laid_unicode_utf8_first)] }
def FnExactPhoneSaid : Prop := fnExactPhoneRow.holds Tryd.pinned (OpenSpec.ofChange fnExactPhoneSpec)

/-- ITS FALSE NEIGHBOUR: 'it returns false'. Refute it at one input. -/
def fnExactPhoneWrong : ChangeSpec := { name := "fnExactPhone", fn := fun _ => fun
  | [d] => { results := [.lit (.bool false)], args := [d] }
  | _ => none }
def FnExactPhoneWrongFalsely : Prop := fnExactPhoneRow.holds Tryd.pinned (OpenSpec.ofChange fnExactPhoneWrong)

/-- 'laws.FnExactGrams': WHATEVER THE INPUT: true; the input reads as it did. -/
def fnExactGramsSpec : ChangeSpec := { name := "fnExactGrams", fn := fun _ => fun
  | [d1, d2, d3] => { results := [.lit (.bool true)], args := [d1, d2, d3] }
  | _ => none }
def fnExactGramsRow : OpenClaim := { program := "yteedakkclppipajdoor", sum := "51e689cc87c014c844dc323a6dc31e136647e3129cdf22809fd1e05fd9ff3607", func := "loop.example/g00018/laws.FnExactGrams", spec := "fnExactGrams", named := ["unicode/utf8.first", "unicode/utf8.acceptRanges"], apart := false, laid := [("unicode/utf8.acceptRanges", laid_unicode_utf8_acceptRanges), ("unicode/utf8.first", laid_unicode_utf8_first)] }
def FnExactGramsSaid : Prop := fnExactGramsRow.holds Tryd.pinned (OpenSpec.ofChange fnExactGramsSpec)

/-- ITS FALSE NEIGHBOUR: 'it returns false'. Refute it at one input. -/
def fnExactGramsWrong : ChangeSpec := { name := "fnExactGrams", fn := fun _ => fun
  | [d1, d2, d3] => { results := [.lit (.bool false)], args := [d1, d2, d3] }
  | _ => none }
def FnExactGramsWrongFalsely : Prop := fnExactGramsRow.holds Tryd.pinned (OpenSpec.ofChange fnExactGramsWrong)

/-- 'laws.FnExactAnalyzerOK': WHATEVER THE INPUT: true; the input reads as it did. -/
def fnExactAnalyzerOKSpec : ChangeSpec := { name := "fnExactAnalyzerOK", fn := fun _ => fun
  | [d] => { results := [.lit (.bool true)], args := [d] }
  | _ => none }
def fnExactAnalyzerOKRow : OpenClaim := { program := "yteedakkclppipajdoor", sum := "51e689cc87c014c844dc323a6dc31e136647e3129cdf22809fd1e05fd9ff3607", func := "loop.example/g00018/laws.FnExactAnalyzerOK", spec := "fnExactAnalyzerOK", named := ["unicode/utf8.first", "unicode/utf8.acceptRanges"], apart := false, laid := [("unicode/utf8.acceptRanges", laid_unicode_utf8_acceptRanges), ("unicode/utf8.first", laid_unicode_utf8_first)] }
def FnExactAnalyzerOKSaid : Prop := fnExactAnalyzerOKRow.holds Tryd.pinned (OpenSpec.ofChange fnExactAnalyzerOKSpec)

/-- ITS FALSE NEIGHBOUR: 'it returns false'. Refute it at one input. -/
def fnExactAnalyzerOKWrong : ChangeSpec := { name := "fnExactAnalyzerOK", fn := fun _ => fun
  | [d] => { results := [.lit (.bool false)], args := [d] }
  | _ => none }
def FnExactAnalyzerOKWrongFalsely : Prop := fnExactAnalyzerOKRow.holds Tryd.pinned (OpenSpec.ofChange fnExactAnalyzerOKWrong)

/- THE SECOND FORM. 'bulk': how many values and letters a reading holds, each counted each time it is reached (what is shared counts as often as it is met; a slice's spare places count too). A statement '..UptoSaid' is the law's where the arguments, and the package variables that the reading takes, are together of bulk at most 1048576: NARROWER than '..Said'. Prove '..Said' where nothing that the law and all that it calls make is longer than what came in: it says more and counts as full. Else prove '..UptoSaid'. A law counts once. -/
mutual
def uptoBulk {H : Type} : DataW H → Nat
  | .lit (.string bytes) => bytes.length + 1
  | .lit _ => 1
  | .nil => 1
  | .ptr d => uptoBulk d + 1
  | .slice elems spare => uptoBulkAll elems + uptoBulkAll spare + 1
  | .agg parts => uptoBulkAll parts + 1
  | .iface _ d => uptoBulk d + 1
  | .map entries => uptoBulkEntries entries + 1
  | .held _ => 1
def uptoBulkAll {H : Type} : List (DataW H) → Nat
  | [] => 0
  | d :: r => uptoBulk d + uptoBulkAll r
def uptoBulkEntries {H : Type} : List (Lit × DataW H) → Nat
  | [] => 0
  | x :: r => uptoBulkEntry x + uptoBulkEntries r
def uptoBulkEntry {H : Type} : Lit × DataW H → Nat
  | (.string bytes, d) => bytes.length + uptoBulk d + 1
  | (_, d) => uptoBulk d + 1
 end
def uptoSmall : (H : Type) → List (DataW H) → Bool := fun _ ds => decide (uptoBulkAll ds ≤ 1048576)
def OpenSpec.upto (s : _root_.Go.ChangeSpec) : _root_.Go.OpenSpec := { _root_.Go.OpenSpec.ofChange s with cond := some uptoSmall }

/-- 'laws.FnExactPhone', WHERE WHAT IT READS IS OF BULK AT MOST 1048576: true; the input reads as it did. -/
def fnExactPhoneUptoRow : OpenClaim := { program := "yteedakkclppipajdoor", sum := "51e689cc87c014c844dc323a6dc31e136647e3129cdf22809fd1e05fd9ff3607", func := "loop.example/g00018/laws.FnExactPhone", spec := "fnExactPhone", named := ["unicode/utf8.first", "unicode/utf8.acceptRanges"], apart := false, laid := [("unicode/utf8.acceptRanges", laid_unicode_utf8_acceptRanges), ("unicode/utf8.first", laid_unicode_utf8_first)], narrowed := true }
def FnExactPhoneUptoSaid : Prop := fnExactPhoneUptoRow.holds Tryd.pinned (OpenSpec.upto fnExactPhoneSpec)

/-- 'laws.FnExactGrams', WHERE WHAT IT READS IS OF BULK AT MOST 1048576: true; the input reads as it did. -/
def fnExactGramsUptoRow : OpenClaim := { program := "yteedakkclppipajdoor", sum := "51e689cc87c014c844dc323a6dc31e136647e3129cdf22809fd1e05fd9ff3607", func := "loop.example/g00018/laws.FnExactGrams", spec := "fnExactGrams", named := ["unicode/utf8.first", "unicode/utf8.acceptRanges"], apart := false, laid := [("unicode/utf8.acceptRanges", laid_unicode_utf8_acceptRanges), ("unicode/utf8.first", laid_unicode_utf8_first)], narrowed := true }
def FnExactGramsUptoSaid : Prop := fnExactGramsUptoRow.holds Tryd.pinned (OpenSpec.upto fnExactGramsSpec)

/-- 'laws.FnExactAnalyzerOK', WHERE WHAT IT READS IS OF BULK AT MOST 1048576: true; the input reads as it did. -/
def fnExactAnalyzerOKUptoRow : OpenClaim := { program := "yteedakkclppipajdoor", sum := "51e689cc87c014c844dc323a6dc31e136647e3129cdf22809fd1e05fd9ff3607", func := "loop.example/g00018/laws.FnExactAnalyzerOK", spec := "fnExactAnalyzerOK", named := ["unicode/utf8.first", "unicode/utf8.acceptRanges"], apart := false, laid := [("unicode/utf8.acceptRanges", laid_unicode_utf8_acceptRanges), ("unicode/utf8.first", laid_unicode_utf8_first)], narrowed := true }
def FnExactAnalyzerOKUptoSaid : Prop := fnExactAnalyzerOKUptoRow.holds Tryd.pinned (OpenSpec.upto fnExactAnalyzerOKSpec)

end Rows
end Go.Proofs.YteedakkclppipajDoor
