/-
  No cell of these rows narrows 'for every input' (looked for: loops, veiled, ifaces, maps, wideKeys, modest, calm, conditions, laid).
  DERIVED. THE GIVEN ROWS OF THIS SEAT. 4 by the template 'for every input the law returns true; each argument reads behind the call as it read before'; 0 by the template 'total and deterministic' (their statements: YtjmfkgbpgbpgnaaTotals.lean).
  GIVEN WITH THE SEED: the statements are not yours to turn. If you find one false, say at which input.
  Laid BY PROGRAM, IN A SANDBOX (cutbox-rows.mjs): the forced cells as the released guide's own fill.sh prints them over the translation 08f4901d850965d8… (all of the seat's roots in one cut). By AI agents, Wed Nov 11 2026. No macro, syntax, notation, axiom, sorry.
-/
import Derived.Test.YtjmfkgbpgbpgnaaChecked
import GoSem.Claim
import GoSem.ClaimJoined
import GoSem.ClaimMapViews
import Derived.JoinedTies
import Derived.KernelRfl
namespace Go.Proofs.Ytjmfkgbpgbpgnaa
/- THE CELL 'sum', in the pinned program and in every row, IS THE sha256 OF THE DUMP (.gsa) THAT YtjmfkgbpgbpgnaaProg.lean LOADS. Nothing in Lean hashes anything: it is a label: what it is worth is what the hold of that sum in a sandbox is worth. -/
noncomputable def Try.pinned : Pinned := { name := "ytjmfkgbpgbpgnaa", sum := "08f4901d850965d89a83087d15a565ea896a613eed5f389740ee2fa3f94ccf96", checked := Try.checked }
namespace Rows
def none {H : Type} : Left H := { results := [], args := [] }

/-- 'laws.FnExactLog2': WHATEVER THE INPUT: true; the input reads as it did. -/
def fnExactLog2Spec : ChangeSpec := { name := "fnExactLog2", fn := fun _ => fun
  | [d] => { results := [.lit (.bool true)], args := [d] }
  | _ => none }
def fnExactLog2Row : OpenClaim := { program := "ytjmfkgbpgbpgnaa", sum := "08f4901d850965d89a83087d15a565ea896a613eed5f389740ee2fa3f94ccf96", func := "loop.example/g00018/laws.FnExactLog2", spec := "fnExactLog2", apart := false }
def FnExactLog2Said : Prop := fnExactLog2Row.holds Try.pinned (OpenSpec.ofChange fnExactLog2Spec)

/-- ITS FALSE NEIGHBOUR: 'it returns false'. Refute it at one input. -/
def fnExactLog2Wrong : ChangeSpec := { name := "fnExactLog2", fn := fun _ => fun
  | [d] => { results := [.lit (.bool false)], args := [d] }
  | _ => none }
def FnExactLog2WrongFalsely : Prop := fnExactLog2Row.holds Try.pinned (OpenSpec.ofChange fnExactLog2Wrong)

/-- 'laws.FnExactWeight': WHATEVER THE INPUT: true; the input reads as it did. -/
def fnExactWeightSpec : ChangeSpec := { name := "fnExactWeight", fn := fun _ => fun
  | [d1, d2] => { results := [.lit (.bool true)], args := [d1, d2] }
  | _ => none }
def fnExactWeightRow : OpenClaim := { program := "ytjmfkgbpgbpgnaa", sum := "08f4901d850965d89a83087d15a565ea896a613eed5f389740ee2fa3f94ccf96", func := "loop.example/g00018/laws.FnExactWeight", spec := "fnExactWeight", apart := false }
def FnExactWeightSaid : Prop := fnExactWeightRow.holds Try.pinned (OpenSpec.ofChange fnExactWeightSpec)

/-- ITS FALSE NEIGHBOUR: 'it returns false'. Refute it at one input. -/
def fnExactWeightWrong : ChangeSpec := { name := "fnExactWeight", fn := fun _ => fun
  | [d1, d2] => { results := [.lit (.bool false)], args := [d1, d2] }
  | _ => none }
def FnExactWeightWrongFalsely : Prop := fnExactWeightRow.holds Try.pinned (OpenSpec.ofChange fnExactWeightWrong)

/-- 'laws.FnExactStrength': WHATEVER THE INPUT: true; the input reads as it did. -/
def fnExactStrengthSpec : ChangeSpec := { name := "fnExactStrength", fn := fun _ => fun
  | [d1, d2, d3, d4] => { results := [.lit (.bool true)], args := [d1, d2, d3, d4] }
  | _ => none }
def fnExactStrengthRow : OpenClaim := { program := "ytjmfkgbpgbpgnaa", sum := "08f4901d850965d89a83087d15a565ea896a613eed5f389740ee2fa3f94ccf96", func := "loop.example/g00018/laws.FnExactStrength", spec := "fnExactStrength", apart := false }
def FnExactStrengthSaid : Prop := fnExactStrengthRow.holds Try.pinned (OpenSpec.ofChange fnExactStrengthSpec)

/-- ITS FALSE NEIGHBOUR: 'it returns false'. Refute it at one input. -/
def fnExactStrengthWrong : ChangeSpec := { name := "fnExactStrength", fn := fun _ => fun
  | [d1, d2, d3, d4] => { results := [.lit (.bool false)], args := [d1, d2, d3, d4] }
  | _ => none }
def FnExactStrengthWrongFalsely : Prop := fnExactStrengthRow.holds Try.pinned (OpenSpec.ofChange fnExactStrengthWrong)

/-- 'laws.FnWeights': WHATEVER THE INPUT: true; the input reads as it did. -/
def fnWeightsSpec : ChangeSpec := { name := "fnWeights", fn := fun _ => fun
  | [d] => { results := [.lit (.bool true)], args := [d] }
  | _ => none }
def fnWeightsRow : OpenClaim := { program := "ytjmfkgbpgbpgnaa", sum := "08f4901d850965d89a83087d15a565ea896a613eed5f389740ee2fa3f94ccf96", func := "loop.example/g00018/laws.FnWeights", spec := "fnWeights", apart := false }
def FnWeightsSaid : Prop := fnWeightsRow.holds Try.pinned (OpenSpec.ofChange fnWeightsSpec)

/-- ITS FALSE NEIGHBOUR: 'it returns false'. Refute it at one input. -/
def fnWeightsWrong : ChangeSpec := { name := "fnWeights", fn := fun _ => fun
  | [d] => { results := [.lit (.bool false)], args := [d] }
  | _ => none }
def FnWeightsWrongFalsely : Prop := fnWeightsRow.holds Try.pinned (OpenSpec.ofChange fnWeightsWrong)

/- THE SECOND FORM. 'bulk': how many values and letters a reading holds, each counted each time it is reached (what is shared counts as often as it is met; a slice's spare places count too). A statement '..UptoSaid' is the law's where the arguments, and the package variables that the reading takes, are together of bulk at most 1048576: NARROWER than '..Said'. Prove '..Said' where nothing that the law and all that it calls make is longer than what came in: it says more and counts as full. Else prove '..UptoSaid'. A law counts once. -/
mutual
def uptoBulk {H : Type} : DataW H → Nat
  | .lit (.string bytes) => bytes.length + 1
  | .lit _ => 1
  | .nil => 1
  | .ptr d => uptoBulk d + 1
  | .slice elems spare => uptoBulkAll elems + uptoBulkAll spare + 1
  | .agg parts => uptoBulkAll parts + 1
  | .iface _ d => uptoBulk d + 1
  | .map entries => uptoBulkEntries entries + 1
  | .held _ => 1
def uptoBulkAll {H : Type} : List (DataW H) → Nat
  | [] => 0
  | d :: r => uptoBulk d + uptoBulkAll r
def uptoBulkEntries {H : Type} : List (Lit × DataW H) → Nat
  | [] => 0
  | x :: r => uptoBulkEntry x + uptoBulkEntries r
def uptoBulkEntry {H : Type} : Lit × DataW H → Nat
  | (.string bytes, d) => bytes.length + uptoBulk d + 1
  | (_, d) => uptoBulk d + 1
 end
def uptoSmall : (H : Type) → List (DataW H) → Bool := fun _ ds => decide (uptoBulkAll ds ≤ 1048576)
def OpenSpec.upto (s : _root_.Go.ChangeSpec) : _root_.Go.OpenSpec := { _root_.Go.OpenSpec.ofChange s with cond := some uptoSmall }

/-- 'laws.FnExactLog2', WHERE WHAT IT READS IS OF BULK AT MOST 1048576: true; the input reads as it did. -/
def fnExactLog2UptoRow : OpenClaim := { program := "ytjmfkgbpgbpgnaa", sum := "08f4901d850965d89a83087d15a565ea896a613eed5f389740ee2fa3f94ccf96", func := "loop.example/g00018/laws.FnExactLog2", spec := "fnExactLog2", apart := false, narrowed := true }
def FnExactLog2UptoSaid : Prop := fnExactLog2UptoRow.holds Try.pinned (OpenSpec.upto fnExactLog2Spec)

/-- 'laws.FnExactWeight', WHERE WHAT IT READS IS OF BULK AT MOST 1048576: true; the input reads as it did. -/
def fnExactWeightUptoRow : OpenClaim := { program := "ytjmfkgbpgbpgnaa", sum := "08f4901d850965d89a83087d15a565ea896a613eed5f389740ee2fa3f94ccf96", func := "loop.example/g00018/laws.FnExactWeight", spec := "fnExactWeight", apart := false, narrowed := true }
def FnExactWeightUptoSaid : Prop := fnExactWeightUptoRow.holds Try.pinned (OpenSpec.upto fnExactWeightSpec)

/-- 'laws.FnExactStrength', WHERE WHAT IT READS IS OF BULK AT MOST 1048576: true; the input reads as it did. -/
def fnExactStrengthUptoRow : OpenClaim := { program := "ytjmfkgbpgbpgnaa", sum := "08f4901d850965d89a83087d15a565ea896a613eed5f389740ee2fa3f94ccf96", func := "loop.example/g00018/laws.FnExactStrength", spec := "fnExactStrength", apart := false, narrowed := true }
def FnExactStrengthUptoSaid : Prop := fnExactStrengthUptoRow.holds Try.pinned (OpenSpec.upto fnExactStrengthSpec)

/-- 'laws.FnWeights', WHERE WHAT IT READS IS OF BULK AT MOST 1048576: true; the input reads as it did. -/
def fnWeightsUptoRow : OpenClaim := { program := "ytjmfkgbpgbpgnaa", sum := "08f4901d850965d89a83087d15a565ea896a613eed5f389740ee2fa3f94ccf96", func := "loop.example/g00018/laws.FnWeights", spec := "fnWeights", apart := false, narrowed := true }
def FnWeightsUptoSaid : Prop := fnWeightsUptoRow.holds Try.pinned (OpenSpec.upto fnWeightsSpec)

end Rows
end Go.Proofs.Ytjmfkgbpgbpgnaa
