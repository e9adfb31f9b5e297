/-
  No cell of these rows narrows 'for every input' (looked for: loops, veiled, ifaces, maps, wideKeys, modest, calm, conditions, laid).
  DERIVED. THE GIVEN ROWS OF THIS SEAT. 6 by the template 'for every input the law returns true; each argument reads behind the call as it read before'; 0 by the template 'total and deterministic' (their statements: YtibomnmgiimejakTotals.lean).
  GIVEN WITH THE SEED: the statements are not yours to turn. If you find one false, say at which input.
  Laid BY PROGRAM, IN A SANDBOX (cutbox-rows.mjs): the forced cells as the released guide's own fill.sh prints them over the translation e78e781e9b2b3851… (all of the seat's roots in one cut). By AI agents, Wed Nov 11 2026. No macro, syntax, notation, axiom, sorry.
-/
import Derived.Test.YtibomnmgiimejakChecked
import GoSem.Claim
import GoSem.ClaimJoined
import GoSem.ClaimMapViews
import Derived.JoinedTies
import Derived.KernelRfl
namespace Go.Proofs.Ytibomnmgiimejak
/- THE CELL 'sum', in the pinned program and in every row, IS THE sha256 OF THE DUMP (.gsa) THAT YtibomnmgiimejakProg.lean LOADS. Nothing in Lean hashes anything: it is a label: what it is worth is what the hold of that sum in a sandbox is worth. -/
noncomputable def Try.pinned : Pinned := { name := "ytibomnmgiimejak", sum := "e78e781e9b2b385122d348f45faf8150792624ac21ed54d442f21d1046f5982e", checked := Try.checked }
namespace Rows
def none {H : Type} : Left H := { results := [], args := [] }

/-- 'laws.FnExactPackInts': WHATEVER THE INPUT: true; the input reads as it did. -/
def fnExactPackIntsSpec : ChangeSpec := { name := "fnExactPackInts", fn := fun _ => fun
  | [d] => { results := [.lit (.bool true)], args := [d] }
  | _ => none }
def fnExactPackIntsRow : OpenClaim := { program := "ytibomnmgiimejak", sum := "e78e781e9b2b385122d348f45faf8150792624ac21ed54d442f21d1046f5982e", func := "loop.example/g00018/laws.FnExactPackInts", spec := "fnExactPackInts", unfollowed := true, recurses := true, plainKeys := false, apart := false }
def FnExactPackIntsSaid : Prop := fnExactPackIntsRow.holds Try.pinned (OpenSpec.ofChange fnExactPackIntsSpec)

/-- ITS FALSE NEIGHBOUR: 'it returns false'. Refute it at one input. -/
def fnExactPackIntsWrong : ChangeSpec := { name := "fnExactPackInts", fn := fun _ => fun
  | [d] => { results := [.lit (.bool false)], args := [d] }
  | _ => none }
def FnExactPackIntsWrongFalsely : Prop := fnExactPackIntsRow.holds Try.pinned (OpenSpec.ofChange fnExactPackIntsWrong)

/-- 'laws.FnExactUnpackInts': WHATEVER THE INPUT: true; the input reads as it did. -/
def fnExactUnpackIntsSpec : ChangeSpec := { name := "fnExactUnpackInts", fn := fun _ => fun
  | [d] => { results := [.lit (.bool true)], args := [d] }
  | _ => none }
def fnExactUnpackIntsRow : OpenClaim := { program := "ytibomnmgiimejak", sum := "e78e781e9b2b385122d348f45faf8150792624ac21ed54d442f21d1046f5982e", func := "loop.example/g00018/laws.FnExactUnpackInts", spec := "fnExactUnpackInts", recurses := true, plainKeys := false, apart := false }
def FnExactUnpackIntsSaid : Prop := fnExactUnpackIntsRow.holds Try.pinned (OpenSpec.ofChange fnExactUnpackIntsSpec)

/-- ITS FALSE NEIGHBOUR: 'it returns false'. Refute it at one input. -/
def fnExactUnpackIntsWrong : ChangeSpec := { name := "fnExactUnpackInts", fn := fun _ => fun
  | [d] => { results := [.lit (.bool false)], args := [d] }
  | _ => none }
def FnExactUnpackIntsWrongFalsely : Prop := fnExactUnpackIntsRow.holds Try.pinned (OpenSpec.ofChange fnExactUnpackIntsWrong)

/-- 'laws.FnExactPackRising': WHATEVER THE INPUT: true; the input reads as it did. -/
def fnExactPackRisingSpec : ChangeSpec := { name := "fnExactPackRising", fn := fun _ => fun
  | [d] => { results := [.lit (.bool true)], args := [d] }
  | _ => none }
def fnExactPackRisingRow : OpenClaim := { program := "ytibomnmgiimejak", sum := "e78e781e9b2b385122d348f45faf8150792624ac21ed54d442f21d1046f5982e", func := "loop.example/g00018/laws.FnExactPackRising", spec := "fnExactPackRising", unfollowed := true, recurses := true, plainKeys := false, apart := false }
def FnExactPackRisingSaid : Prop := fnExactPackRisingRow.holds Try.pinned (OpenSpec.ofChange fnExactPackRisingSpec)

/-- ITS FALSE NEIGHBOUR: 'it returns false'. Refute it at one input. -/
def fnExactPackRisingWrong : ChangeSpec := { name := "fnExactPackRising", fn := fun _ => fun
  | [d] => { results := [.lit (.bool false)], args := [d] }
  | _ => none }
def FnExactPackRisingWrongFalsely : Prop := fnExactPackRisingRow.holds Try.pinned (OpenSpec.ofChange fnExactPackRisingWrong)

/-- 'laws.FnExactUnpackRising': WHATEVER THE INPUT: true; the input reads as it did. -/
def fnExactUnpackRisingSpec : ChangeSpec := { name := "fnExactUnpackRising", fn := fun _ => fun
  | [d] => { results := [.lit (.bool true)], args := [d] }
  | _ => none }
def fnExactUnpackRisingRow : OpenClaim := { program := "ytibomnmgiimejak", sum := "e78e781e9b2b385122d348f45faf8150792624ac21ed54d442f21d1046f5982e", func := "loop.example/g00018/laws.FnExactUnpackRising", spec := "fnExactUnpackRising", recurses := true, plainKeys := false, apart := false }
def FnExactUnpackRisingSaid : Prop := fnExactUnpackRisingRow.holds Try.pinned (OpenSpec.ofChange fnExactUnpackRisingSpec)

/-- ITS FALSE NEIGHBOUR: 'it returns false'. Refute it at one input. -/
def fnExactUnpackRisingWrong : ChangeSpec := { name := "fnExactUnpackRising", fn := fun _ => fun
  | [d] => { results := [.lit (.bool false)], args := [d] }
  | _ => none }
def FnExactUnpackRisingWrongFalsely : Prop := fnExactUnpackRisingRow.holds Try.pinned (OpenSpec.ofChange fnExactUnpackRisingWrong)

/-- 'laws.FnExactSum32': WHATEVER THE INPUT: true; the input reads as it did. -/
def fnExactSum32Spec : ChangeSpec := { name := "fnExactSum32", fn := fun _ => fun
  | [d] => { results := [.lit (.bool true)], args := [d] }
  | _ => none }
def fnExactSum32Row : OpenClaim := { program := "ytibomnmgiimejak", sum := "e78e781e9b2b385122d348f45faf8150792624ac21ed54d442f21d1046f5982e", func := "loop.example/g00018/laws.FnExactSum32", spec := "fnExactSum32", plainKeys := false, apart := false }
def FnExactSum32Said : Prop := fnExactSum32Row.holds Try.pinned (OpenSpec.ofChange fnExactSum32Spec)

/-- ITS FALSE NEIGHBOUR: 'it returns false'. Refute it at one input. -/
def fnExactSum32Wrong : ChangeSpec := { name := "fnExactSum32", fn := fun _ => fun
  | [d] => { results := [.lit (.bool false)], args := [d] }
  | _ => none }
def FnExactSum32WrongFalsely : Prop := fnExactSum32Row.holds Try.pinned (OpenSpec.ofChange fnExactSum32Wrong)

/-- 'laws.FnExactBuildDict': WHATEVER THE INPUT: true; the input reads as it did. -/
def fnExactBuildDictSpec : ChangeSpec := { name := "fnExactBuildDict", fn := fun _ => fun
  | [d] => { results := [.lit (.bool true)], args := [d] }
  | _ => none }
def fnExactBuildDictRow : OpenClaim := { program := "ytibomnmgiimejak", sum := "e78e781e9b2b385122d348f45faf8150792624ac21ed54d442f21d1046f5982e", func := "loop.example/g00018/laws.FnExactBuildDict", spec := "fnExactBuildDict", unfollowed := true, recurses := true, plainKeys := false, apart := false }
def FnExactBuildDictSaid : Prop := fnExactBuildDictRow.holds Try.pinned (OpenSpec.ofChange fnExactBuildDictSpec)

/-- ITS FALSE NEIGHBOUR: 'it returns false'. Refute it at one input. -/
def fnExactBuildDictWrong : ChangeSpec := { name := "fnExactBuildDict", fn := fun _ => fun
  | [d] => { results := [.lit (.bool false)], args := [d] }
  | _ => none }
def FnExactBuildDictWrongFalsely : Prop := fnExactBuildDictRow.holds Try.pinned (OpenSpec.ofChange fnExactBuildDictWrong)

/- THE SECOND FORM. 'bulk': how many values and letters a reading holds, each counted each time it is reached (what is shared counts as often as it is met; a slice's spare places count too). A statement '..UptoSaid' is the law's where the arguments, and the package variables that the reading takes, are together of bulk at most 1048576: NARROWER than '..Said'. Prove '..Said' where nothing that the law and all that it calls make is longer than what came in: it says more and counts as full. Else prove '..UptoSaid'. A law counts once. -/
mutual
def uptoBulk {H : Type} : DataW H → Nat
  | .lit (.string bytes) => bytes.length + 1
  | .lit _ => 1
  | .nil => 1
  | .ptr d => uptoBulk d + 1
  | .slice elems spare => uptoBulkAll elems + uptoBulkAll spare + 1
  | .agg parts => uptoBulkAll parts + 1
  | .iface _ d => uptoBulk d + 1
  | .map entries => uptoBulkEntries entries + 1
  | .held _ => 1
def uptoBulkAll {H : Type} : List (DataW H) → Nat
  | [] => 0
  | d :: r => uptoBulk d + uptoBulkAll r
def uptoBulkEntries {H : Type} : List (Lit × DataW H) → Nat
  | [] => 0
  | x :: r => uptoBulkEntry x + uptoBulkEntries r
def uptoBulkEntry {H : Type} : Lit × DataW H → Nat
  | (.string bytes, d) => bytes.length + uptoBulk d + 1
  | (_, d) => uptoBulk d + 1
 end
def uptoSmall : (H : Type) → List (DataW H) → Bool := fun _ ds => decide (uptoBulkAll ds ≤ 1048576)
def OpenSpec.upto (s : _root_.Go.ChangeSpec) : _root_.Go.OpenSpec := { _root_.Go.OpenSpec.ofChange s with cond := some uptoSmall }

/-- 'laws.FnExactPackInts', WHERE WHAT IT READS IS OF BULK AT MOST 1048576: true; the input reads as it did. -/
def fnExactPackIntsUptoRow : OpenClaim := { program := "ytibomnmgiimejak", sum := "e78e781e9b2b385122d348f45faf8150792624ac21ed54d442f21d1046f5982e", func := "loop.example/g00018/laws.FnExactPackInts", spec := "fnExactPackInts", unfollowed := true, recurses := true, plainKeys := false, apart := false, narrowed := true }
def FnExactPackIntsUptoSaid : Prop := fnExactPackIntsUptoRow.holds Try.pinned (OpenSpec.upto fnExactPackIntsSpec)

/-- 'laws.FnExactUnpackInts', WHERE WHAT IT READS IS OF BULK AT MOST 1048576: true; the input reads as it did. -/
def fnExactUnpackIntsUptoRow : OpenClaim := { program := "ytibomnmgiimejak", sum := "e78e781e9b2b385122d348f45faf8150792624ac21ed54d442f21d1046f5982e", func := "loop.example/g00018/laws.FnExactUnpackInts", spec := "fnExactUnpackInts", recurses := true, plainKeys := false, apart := false, narrowed := true }
def FnExactUnpackIntsUptoSaid : Prop := fnExactUnpackIntsUptoRow.holds Try.pinned (OpenSpec.upto fnExactUnpackIntsSpec)

/-- 'laws.FnExactPackRising', WHERE WHAT IT READS IS OF BULK AT MOST 1048576: true; the input reads as it did. -/
def fnExactPackRisingUptoRow : OpenClaim := { program := "ytibomnmgiimejak", sum := "e78e781e9b2b385122d348f45faf8150792624ac21ed54d442f21d1046f5982e", func := "loop.example/g00018/laws.FnExactPackRising", spec := "fnExactPackRising", unfollowed := true, recurses := true, plainKeys := false, apart := false, narrowed := true }
def FnExactPackRisingUptoSaid : Prop := fnExactPackRisingUptoRow.holds Try.pinned (OpenSpec.upto fnExactPackRisingSpec)

/-- 'laws.FnExactUnpackRising', WHERE WHAT IT READS IS OF BULK AT MOST 1048576: true; the input reads as it did. -/
def fnExactUnpackRisingUptoRow : OpenClaim := { program := "ytibomnmgiimejak", sum := "e78e781e9b2b385122d348f45faf8150792624ac21ed54d442f21d1046f5982e", func := "loop.example/g00018/laws.FnExactUnpackRising", spec := "fnExactUnpackRising", recurses := true, plainKeys := false, apart := false, narrowed := true }
def FnExactUnpackRisingUptoSaid : Prop := fnExactUnpackRisingUptoRow.holds Try.pinned (OpenSpec.upto fnExactUnpackRisingSpec)

/-- 'laws.FnExactSum32', WHERE WHAT IT READS IS OF BULK AT MOST 1048576: true; the input reads as it did. -/
def fnExactSum32UptoRow : OpenClaim := { program := "ytibomnmgiimejak", sum := "e78e781e9b2b385122d348f45faf8150792624ac21ed54d442f21d1046f5982e", func := "loop.example/g00018/laws.FnExactSum32", spec := "fnExactSum32", plainKeys := false, apart := false, narrowed := true }
def FnExactSum32UptoSaid : Prop := fnExactSum32UptoRow.holds Try.pinned (OpenSpec.upto fnExactSum32Spec)

/-- 'laws.FnExactBuildDict', WHERE WHAT IT READS IS OF BULK AT MOST 1048576: true; the input reads as it did. -/
def fnExactBuildDictUptoRow : OpenClaim := { program := "ytibomnmgiimejak", sum := "e78e781e9b2b385122d348f45faf8150792624ac21ed54d442f21d1046f5982e", func := "loop.example/g00018/laws.FnExactBuildDict", spec := "fnExactBuildDict", unfollowed := true, recurses := true, plainKeys := false, apart := false, narrowed := true }
def FnExactBuildDictUptoSaid : Prop := fnExactBuildDictUptoRow.holds Try.pinned (OpenSpec.upto fnExactBuildDictSpec)

end Rows
end Go.Proofs.Ytibomnmgiimejak
