/-
  No cell of these rows narrows 'for every input' (looked for: loops, veiled, ifaces, maps, wideKeys, modest, calm, conditions, laid).
  DERIVED. THE GIVEN ROWS OF THIS SEAT. 4 by the template 'for every input the law returns true; each argument reads behind the call as it read before'; 0 by the template 'total and deterministic' (their statements: YtbkedgpligcicaaTotals.lean).
  GIVEN WITH THE SEED: the statements are not yours to turn. If you find one false, say at which input.
  Laid BY PROGRAM, IN A SANDBOX (cutbox-rows.mjs): the forced cells as the released guide's own fill.sh prints them over the translation 87456a2d6ce2d099… (all of the seat's roots in one cut). By AI agents, Wed Nov 11 2026. No macro, syntax, notation, axiom, sorry.
-/
import Derived.Test.YtbkedgpligcicaaChecked
import GoSem.Claim
import GoSem.ClaimJoined
import GoSem.ClaimMapViews
import Derived.JoinedTies
import Derived.KernelRfl
namespace Go.Proofs.Ytbkedgpligcicaa
/- THE CELL 'sum', in the pinned program and in every row, IS THE sha256 OF THE DUMP (.gsa) THAT YtbkedgpligcicaaProg.lean LOADS. Nothing in Lean hashes anything: it is a label: what it is worth is what the hold of that sum in a sandbox is worth. -/
noncomputable def Try.pinned : Pinned := { name := "ytbkedgpligcicaa", sum := "87456a2d6ce2d0993d7dce66ae7d3a9a7144a3582e1a6a34e1d9ecda031205f0", checked := Try.checked }
namespace Rows
def none {H : Type} : Left H := { results := [], args := [] }

/-- 'laws.FnDict': WHATEVER THE INPUT: true; the input reads as it did. -/
def fnDictSpec : ChangeSpec := { name := "fnDict", fn := fun _ => fun
  | [d] => { results := [.lit (.bool true)], args := [d] }
  | _ => none }
def fnDictRow : OpenClaim := { program := "ytbkedgpligcicaa", sum := "87456a2d6ce2d0993d7dce66ae7d3a9a7144a3582e1a6a34e1d9ecda031205f0", func := "loop.example/g00018/laws.FnDict", spec := "fnDict", unfollowed := true, recurses := true, plainKeys := false, apart := false }
def FnDictSaid : Prop := fnDictRow.holds Try.pinned (OpenSpec.ofChange fnDictSpec)

/-- ITS FALSE NEIGHBOUR: 'it returns false'. Refute it at one input. -/
def fnDictWrong : ChangeSpec := { name := "fnDict", fn := fun _ => fun
  | [d] => { results := [.lit (.bool false)], args := [d] }
  | _ => none }
def FnDictWrongFalsely : Prop := fnDictRow.holds Try.pinned (OpenSpec.ofChange fnDictWrong)

/-- 'laws.FnExactBuildDict': WHATEVER THE INPUT: true; the input reads as it did. -/
def fnExactBuildDictSpec : ChangeSpec := { name := "fnExactBuildDict", fn := fun _ => fun
  | [d] => { results := [.lit (.bool true)], args := [d] }
  | _ => none }
def fnExactBuildDictRow : OpenClaim := { program := "ytbkedgpligcicaa", sum := "87456a2d6ce2d0993d7dce66ae7d3a9a7144a3582e1a6a34e1d9ecda031205f0", func := "loop.example/g00018/laws.FnExactBuildDict", spec := "fnExactBuildDict", unfollowed := true, recurses := true, plainKeys := false, apart := false }
def FnExactBuildDictSaid : Prop := fnExactBuildDictRow.holds Try.pinned (OpenSpec.ofChange fnExactBuildDictSpec)

/-- ITS FALSE NEIGHBOUR: 'it returns false'. Refute it at one input. -/
def fnExactBuildDictWrong : ChangeSpec := { name := "fnExactBuildDict", fn := fun _ => fun
  | [d] => { results := [.lit (.bool false)], args := [d] }
  | _ => none }
def FnExactBuildDictWrongFalsely : Prop := fnExactBuildDictRow.holds Try.pinned (OpenSpec.ofChange fnExactBuildDictWrong)

/-- 'laws.FnExactDictRange': WHATEVER THE INPUT: true; the input reads as it did. -/
def fnExactDictRangeSpec : ChangeSpec := { name := "fnExactDictRange", fn := fun _ => fun
  | [d1, d2] => { results := [.lit (.bool true)], args := [d1, d2] }
  | _ => none }
def fnExactDictRangeRow : OpenClaim := { program := "ytbkedgpligcicaa", sum := "87456a2d6ce2d0993d7dce66ae7d3a9a7144a3582e1a6a34e1d9ecda031205f0", func := "loop.example/g00018/laws.FnExactDictRange", spec := "fnExactDictRange", unfollowed := true, recurses := true, plainKeys := false, apart := false }
def FnExactDictRangeSaid : Prop := fnExactDictRangeRow.holds Try.pinned (OpenSpec.ofChange fnExactDictRangeSpec)

/-- ITS FALSE NEIGHBOUR: 'it returns false'. Refute it at one input. -/
def fnExactDictRangeWrong : ChangeSpec := { name := "fnExactDictRange", fn := fun _ => fun
  | [d1, d2] => { results := [.lit (.bool false)], args := [d1, d2] }
  | _ => none }
def FnExactDictRangeWrongFalsely : Prop := fnExactDictRangeRow.holds Try.pinned (OpenSpec.ofChange fnExactDictRangeWrong)

/-- 'laws.FnExactReadDict': WHATEVER THE INPUT: true; the input reads as it did. -/
def fnExactReadDictSpec : ChangeSpec := { name := "fnExactReadDict", fn := fun _ => fun
  | [d] => { results := [.lit (.bool true)], args := [d] }
  | _ => none }
def fnExactReadDictRow : OpenClaim := { program := "ytbkedgpligcicaa", sum := "87456a2d6ce2d0993d7dce66ae7d3a9a7144a3582e1a6a34e1d9ecda031205f0", func := "loop.example/g00018/laws.FnExactReadDict", spec := "fnExactReadDict", unfollowed := true, recurses := true, plainKeys := false, apart := false }
def FnExactReadDictSaid : Prop := fnExactReadDictRow.holds Try.pinned (OpenSpec.ofChange fnExactReadDictSpec)

/-- ITS FALSE NEIGHBOUR: 'it returns false'. Refute it at one input. -/
def fnExactReadDictWrong : ChangeSpec := { name := "fnExactReadDict", fn := fun _ => fun
  | [d] => { results := [.lit (.bool false)], args := [d] }
  | _ => none }
def FnExactReadDictWrongFalsely : Prop := fnExactReadDictRow.holds Try.pinned (OpenSpec.ofChange fnExactReadDictWrong)

/- THE SECOND FORM. 'bulk': how many values and letters a reading holds, each counted each time it is reached (what is shared counts as often as it is met; a slice's spare places count too). A statement '..UptoSaid' is the law's where the arguments, and the package variables that the reading takes, are together of bulk at most 1048576: NARROWER than '..Said'. Prove '..Said' where nothing that the law and all that it calls make is longer than what came in: it says more and counts as full. Else prove '..UptoSaid'. A law counts once. -/
mutual
def uptoBulk {H : Type} : DataW H → Nat
  | .lit (.string bytes) => bytes.length + 1
  | .lit _ => 1
  | .nil => 1
  | .ptr d => uptoBulk d + 1
  | .slice elems spare => uptoBulkAll elems + uptoBulkAll spare + 1
  | .agg parts => uptoBulkAll parts + 1
  | .iface _ d => uptoBulk d + 1
  | .map entries => uptoBulkEntries entries + 1
  | .held _ => 1
def uptoBulkAll {H : Type} : List (DataW H) → Nat
  | [] => 0
  | d :: r => uptoBulk d + uptoBulkAll r
def uptoBulkEntries {H : Type} : List (Lit × DataW H) → Nat
  | [] => 0
  | x :: r => uptoBulkEntry x + uptoBulkEntries r
def uptoBulkEntry {H : Type} : Lit × DataW H → Nat
  | (.string bytes, d) => bytes.length + uptoBulk d + 1
  | (_, d) => uptoBulk d + 1
 end
def uptoSmall : (H : Type) → List (DataW H) → Bool := fun _ ds => decide (uptoBulkAll ds ≤ 1048576)
def OpenSpec.upto (s : _root_.Go.ChangeSpec) : _root_.Go.OpenSpec := { _root_.Go.OpenSpec.ofChange s with cond := some uptoSmall }

/-- 'laws.FnDict', WHERE WHAT IT READS IS OF BULK AT MOST 1048576: true; the input reads as it did. -/
def fnDictUptoRow : OpenClaim := { program := "ytbkedgpligcicaa", sum := "87456a2d6ce2d0993d7dce66ae7d3a9a7144a3582e1a6a34e1d9ecda031205f0", func := "loop.example/g00018/laws.FnDict", spec := "fnDict", unfollowed := true, recurses := true, plainKeys := false, apart := false, narrowed := true }
def FnDictUptoSaid : Prop := fnDictUptoRow.holds Try.pinned (OpenSpec.upto fnDictSpec)

/-- 'laws.FnExactBuildDict', WHERE WHAT IT READS IS OF BULK AT MOST 1048576: true; the input reads as it did. -/
def fnExactBuildDictUptoRow : OpenClaim := { program := "ytbkedgpligcicaa", sum := "87456a2d6ce2d0993d7dce66ae7d3a9a7144a3582e1a6a34e1d9ecda031205f0", func := "loop.example/g00018/laws.FnExactBuildDict", spec := "fnExactBuildDict", unfollowed := true, recurses := true, plainKeys := false, apart := false, narrowed := true }
def FnExactBuildDictUptoSaid : Prop := fnExactBuildDictUptoRow.holds Try.pinned (OpenSpec.upto fnExactBuildDictSpec)

/-- 'laws.FnExactDictRange', WHERE WHAT IT READS IS OF BULK AT MOST 1048576: true; the input reads as it did. -/
def fnExactDictRangeUptoRow : OpenClaim := { program := "ytbkedgpligcicaa", sum := "87456a2d6ce2d0993d7dce66ae7d3a9a7144a3582e1a6a34e1d9ecda031205f0", func := "loop.example/g00018/laws.FnExactDictRange", spec := "fnExactDictRange", unfollowed := true, recurses := true, plainKeys := false, apart := false, narrowed := true }
def FnExactDictRangeUptoSaid : Prop := fnExactDictRangeUptoRow.holds Try.pinned (OpenSpec.upto fnExactDictRangeSpec)

/-- 'laws.FnExactReadDict', WHERE WHAT IT READS IS OF BULK AT MOST 1048576: true; the input reads as it did. -/
def fnExactReadDictUptoRow : OpenClaim := { program := "ytbkedgpligcicaa", sum := "87456a2d6ce2d0993d7dce66ae7d3a9a7144a3582e1a6a34e1d9ecda031205f0", func := "loop.example/g00018/laws.FnExactReadDict", spec := "fnExactReadDict", unfollowed := true, recurses := true, plainKeys := false, apart := false, narrowed := true }
def FnExactReadDictUptoSaid : Prop := fnExactReadDictUptoRow.holds Try.pinned (OpenSpec.upto fnExactReadDictSpec)

end Rows
end Go.Proofs.Ytbkedgpligcicaa
