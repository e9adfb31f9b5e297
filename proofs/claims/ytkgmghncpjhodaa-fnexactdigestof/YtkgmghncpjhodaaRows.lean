/-
  No cell of these rows narrows 'for every input' (looked for: loops, veiled, ifaces, maps, wideKeys, modest, calm, conditions, laid).
  DERIVED. THE GIVEN ROWS OF THIS SEAT. 6 by the template 'for every input the law returns true; each argument reads behind the call as it read before'; 0 by the template 'total and deterministic' (their statements: YtkgmghncpjhodaaTotals.lean).
  GIVEN WITH THE SEED: the statements are not yours to turn. If you find one false, say at which input.
  Laid BY PROGRAM, IN A SANDBOX (cutbox-rows.mjs): the forced cells as the released guide's own fill.sh prints them over the translation afc0d7190ff25d4e… (all of the seat's roots in one cut). By AI agents, Wed Nov 11 2026. No macro, syntax, notation, axiom, sorry.
-/
import Derived.Test.YtkgmghncpjhodaaChecked
import GoSem.Claim
import GoSem.ClaimJoined
import GoSem.ClaimMapViews
import Derived.JoinedTies
import Derived.KernelRfl
namespace Go.Proofs.Ytkgmghncpjhodaa
/- THE CELL 'sum', in the pinned program and in every row, IS THE sha256 OF THE DUMP (.gsa) THAT YtkgmghncpjhodaaProg.lean LOADS. Nothing in Lean hashes anything: it is a label: what it is worth is what the hold of that sum in a sandbox is worth. -/
noncomputable def Try.pinned : Pinned := { name := "ytkgmghncpjhodaa", sum := "afc0d7190ff25d4e6ca6ae24504a087a8cb93f2d10d8147c38814ac632e2e569", checked := Try.checked }
namespace Rows
def none {H : Type} : Left H := { results := [], args := [] }

/-- 'laws.FnExactDigestOK': WHATEVER THE INPUT: true; the input reads as it did. -/
def fnExactDigestOKSpec : ChangeSpec := { name := "fnExactDigestOK", fn := fun _ => fun
  | [d] => { results := [.lit (.bool true)], args := [d] }
  | _ => none }
def fnExactDigestOKRow : OpenClaim := { program := "ytkgmghncpjhodaa", sum := "afc0d7190ff25d4e6ca6ae24504a087a8cb93f2d10d8147c38814ac632e2e569", func := "loop.example/g00018/laws.FnExactDigestOK", spec := "fnExactDigestOK", apart := false }
def FnExactDigestOKSaid : Prop := fnExactDigestOKRow.holds Try.pinned (OpenSpec.ofChange fnExactDigestOKSpec)

/-- ITS FALSE NEIGHBOUR: 'it returns false'. Refute it at one input. -/
def fnExactDigestOKWrong : ChangeSpec := { name := "fnExactDigestOK", fn := fun _ => fun
  | [d] => { results := [.lit (.bool false)], args := [d] }
  | _ => none }
def FnExactDigestOKWrongFalsely : Prop := fnExactDigestOKRow.holds Try.pinned (OpenSpec.ofChange fnExactDigestOKWrong)

/-- 'laws.FnExactDigestRank': WHATEVER THE INPUT: true; the input reads as it did. -/
def fnExactDigestRankSpec : ChangeSpec := { name := "fnExactDigestRank", fn := fun _ => fun
  | [d1, d2] => { results := [.lit (.bool true)], args := [d1, d2] }
  | _ => none }
def fnExactDigestRankRow : OpenClaim := { program := "ytkgmghncpjhodaa", sum := "afc0d7190ff25d4e6ca6ae24504a087a8cb93f2d10d8147c38814ac632e2e569", func := "loop.example/g00018/laws.FnExactDigestRank", spec := "fnExactDigestRank", unfollowed := true, recurses := true, apart := false }
def FnExactDigestRankSaid : Prop := fnExactDigestRankRow.holds Try.pinned (OpenSpec.ofChange fnExactDigestRankSpec)

/-- ITS FALSE NEIGHBOUR: 'it returns false'. Refute it at one input. -/
def fnExactDigestRankWrong : ChangeSpec := { name := "fnExactDigestRank", fn := fun _ => fun
  | [d1, d2] => { results := [.lit (.bool false)], args := [d1, d2] }
  | _ => none }
def FnExactDigestRankWrongFalsely : Prop := fnExactDigestRankRow.holds Try.pinned (OpenSpec.ofChange fnExactDigestRankWrong)

/-- 'laws.FnExactDigestAt': WHATEVER THE INPUT: true; the input reads as it did. -/
def fnExactDigestAtSpec : ChangeSpec := { name := "fnExactDigestAt", fn := fun _ => fun
  | [d1, d2] => { results := [.lit (.bool true)], args := [d1, d2] }
  | _ => none }
def fnExactDigestAtRow : OpenClaim := { program := "ytkgmghncpjhodaa", sum := "afc0d7190ff25d4e6ca6ae24504a087a8cb93f2d10d8147c38814ac632e2e569", func := "loop.example/g00018/laws.FnExactDigestAt", spec := "fnExactDigestAt", apart := false }
def FnExactDigestAtSaid : Prop := fnExactDigestAtRow.holds Try.pinned (OpenSpec.ofChange fnExactDigestAtSpec)

/-- ITS FALSE NEIGHBOUR: 'it returns false'. Refute it at one input. -/
def fnExactDigestAtWrong : ChangeSpec := { name := "fnExactDigestAt", fn := fun _ => fun
  | [d1, d2] => { results := [.lit (.bool false)], args := [d1, d2] }
  | _ => none }
def FnExactDigestAtWrongFalsely : Prop := fnExactDigestAtRow.holds Try.pinned (OpenSpec.ofChange fnExactDigestAtWrong)

/-- 'laws.FnExactDigestJoin': WHATEVER THE INPUT: true; the input reads as it did. -/
def fnExactDigestJoinSpec : ChangeSpec := { name := "fnExactDigestJoin", fn := fun _ => fun
  | [d1, d2] => { results := [.lit (.bool true)], args := [d1, d2] }
  | _ => none }
def fnExactDigestJoinRow : OpenClaim := { program := "ytkgmghncpjhodaa", sum := "afc0d7190ff25d4e6ca6ae24504a087a8cb93f2d10d8147c38814ac632e2e569", func := "loop.example/g00018/laws.FnExactDigestJoin", spec := "fnExactDigestJoin", recurses := true, apart := false }
def FnExactDigestJoinSaid : Prop := fnExactDigestJoinRow.holds Try.pinned (OpenSpec.ofChange fnExactDigestJoinSpec)

/-- ITS FALSE NEIGHBOUR: 'it returns false'. Refute it at one input. -/
def fnExactDigestJoinWrong : ChangeSpec := { name := "fnExactDigestJoin", fn := fun _ => fun
  | [d1, d2] => { results := [.lit (.bool false)], args := [d1, d2] }
  | _ => none }
def FnExactDigestJoinWrongFalsely : Prop := fnExactDigestJoinRow.holds Try.pinned (OpenSpec.ofChange fnExactDigestJoinWrong)

/-- 'laws.FnExactDigestOf': WHATEVER THE INPUT: true; the input reads as it did. -/
def fnExactDigestOfSpec : ChangeSpec := { name := "fnExactDigestOf", fn := fun _ => fun
  | [d1, d2] => { results := [.lit (.bool true)], args := [d1, d2] }
  | _ => none }
def fnExactDigestOfRow : OpenClaim := { program := "ytkgmghncpjhodaa", sum := "afc0d7190ff25d4e6ca6ae24504a087a8cb93f2d10d8147c38814ac632e2e569", func := "loop.example/g00018/laws.FnExactDigestOf", spec := "fnExactDigestOf", unfollowed := true, recurses := true, apart := false }
def FnExactDigestOfSaid : Prop := fnExactDigestOfRow.holds Try.pinned (OpenSpec.ofChange fnExactDigestOfSpec)

/-- ITS FALSE NEIGHBOUR: 'it returns false'. Refute it at one input. -/
def fnExactDigestOfWrong : ChangeSpec := { name := "fnExactDigestOf", fn := fun _ => fun
  | [d1, d2] => { results := [.lit (.bool false)], args := [d1, d2] }
  | _ => none }
def FnExactDigestOfWrongFalsely : Prop := fnExactDigestOfRow.holds Try.pinned (OpenSpec.ofChange fnExactDigestOfWrong)

/-- 'laws.FnDigest': WHATEVER THE INPUT: true; the input reads as it did. -/
def fnDigestSpec : ChangeSpec := { name := "fnDigest", fn := fun _ => fun
  | [d1, d2] => { results := [.lit (.bool true)], args := [d1, d2] }
  | _ => none }
def fnDigestRow : OpenClaim := { program := "ytkgmghncpjhodaa", sum := "afc0d7190ff25d4e6ca6ae24504a087a8cb93f2d10d8147c38814ac632e2e569", func := "loop.example/g00018/laws.FnDigest", spec := "fnDigest", unfollowed := true, recurses := true, apart := false }
def FnDigestSaid : Prop := fnDigestRow.holds Try.pinned (OpenSpec.ofChange fnDigestSpec)

/-- ITS FALSE NEIGHBOUR: 'it returns false'. Refute it at one input. -/
def fnDigestWrong : ChangeSpec := { name := "fnDigest", fn := fun _ => fun
  | [d1, d2] => { results := [.lit (.bool false)], args := [d1, d2] }
  | _ => none }
def FnDigestWrongFalsely : Prop := fnDigestRow.holds Try.pinned (OpenSpec.ofChange fnDigestWrong)

/- THE SECOND FORM. 'bulk': how many values and letters a reading holds, each counted each time it is reached (what is shared counts as often as it is met; a slice's spare places count too). A statement '..UptoSaid' is the law's where the arguments, and the package variables that the reading takes, are together of bulk at most 1048576: NARROWER than '..Said'. Prove '..Said' where nothing that the law and all that it calls make is longer than what came in: it says more and counts as full. Else prove '..UptoSaid'. A law counts once. -/
mutual
def uptoBulk {H : Type} : DataW H → Nat
  | .lit (.string bytes) => bytes.length + 1
  | .lit _ => 1
  | .nil => 1
  | .ptr d => uptoBulk d + 1
  | .slice elems spare => uptoBulkAll elems + uptoBulkAll spare + 1
  | .agg parts => uptoBulkAll parts + 1
  | .iface _ d => uptoBulk d + 1
  | .map entries => uptoBulkEntries entries + 1
  | .held _ => 1
def uptoBulkAll {H : Type} : List (DataW H) → Nat
  | [] => 0
  | d :: r => uptoBulk d + uptoBulkAll r
def uptoBulkEntries {H : Type} : List (Lit × DataW H) → Nat
  | [] => 0
  | x :: r => uptoBulkEntry x + uptoBulkEntries r
def uptoBulkEntry {H : Type} : Lit × DataW H → Nat
  | (.string bytes, d) => bytes.length + uptoBulk d + 1
  | (_, d) => uptoBulk d + 1
 end
def uptoSmall : (H : Type) → List (DataW H) → Bool := fun _ ds => decide (uptoBulkAll ds ≤ 1048576)
def OpenSpec.upto (s : _root_.Go.ChangeSpec) : _root_.Go.OpenSpec := { _root_.Go.OpenSpec.ofChange s with cond := some uptoSmall }

/-- 'laws.FnExactDigestOK', WHERE WHAT IT READS IS OF BULK AT MOST 1048576: true; the input reads as it did. -/
def fnExactDigestOKUptoRow : OpenClaim := { program := "ytkgmghncpjhodaa", sum := "afc0d7190ff25d4e6ca6ae24504a087a8cb93f2d10d8147c38814ac632e2e569", func := "loop.example/g00018/laws.FnExactDigestOK", spec := "fnExactDigestOK", apart := false, narrowed := true }
def FnExactDigestOKUptoSaid : Prop := fnExactDigestOKUptoRow.holds Try.pinned (OpenSpec.upto fnExactDigestOKSpec)

/-- 'laws.FnExactDigestRank', WHERE WHAT IT READS IS OF BULK AT MOST 1048576: true; the input reads as it did. -/
def fnExactDigestRankUptoRow : OpenClaim := { program := "ytkgmghncpjhodaa", sum := "afc0d7190ff25d4e6ca6ae24504a087a8cb93f2d10d8147c38814ac632e2e569", func := "loop.example/g00018/laws.FnExactDigestRank", spec := "fnExactDigestRank", unfollowed := true, recurses := true, apart := false, narrowed := true }
def FnExactDigestRankUptoSaid : Prop := fnExactDigestRankUptoRow.holds Try.pinned (OpenSpec.upto fnExactDigestRankSpec)

/-- 'laws.FnExactDigestAt', WHERE WHAT IT READS IS OF BULK AT MOST 1048576: true; the input reads as it did. -/
def fnExactDigestAtUptoRow : OpenClaim := { program := "ytkgmghncpjhodaa", sum := "afc0d7190ff25d4e6ca6ae24504a087a8cb93f2d10d8147c38814ac632e2e569", func := "loop.example/g00018/laws.FnExactDigestAt", spec := "fnExactDigestAt", apart := false, narrowed := true }
def FnExactDigestAtUptoSaid : Prop := fnExactDigestAtUptoRow.holds Try.pinned (OpenSpec.upto fnExactDigestAtSpec)

/-- 'laws.FnExactDigestJoin', WHERE WHAT IT READS IS OF BULK AT MOST 1048576: true; the input reads as it did. -/
def fnExactDigestJoinUptoRow : OpenClaim := { program := "ytkgmghncpjhodaa", sum := "afc0d7190ff25d4e6ca6ae24504a087a8cb93f2d10d8147c38814ac632e2e569", func := "loop.example/g00018/laws.FnExactDigestJoin", spec := "fnExactDigestJoin", recurses := true, apart := false, narrowed := true }
def FnExactDigestJoinUptoSaid : Prop := fnExactDigestJoinUptoRow.holds Try.pinned (OpenSpec.upto fnExactDigestJoinSpec)

/-- 'laws.FnExactDigestOf', WHERE WHAT IT READS IS OF BULK AT MOST 1048576: true; the input reads as it did. -/
def fnExactDigestOfUptoRow : OpenClaim := { program := "ytkgmghncpjhodaa", sum := "afc0d7190ff25d4e6ca6ae24504a087a8cb93f2d10d8147c38814ac632e2e569", func := "loop.example/g00018/laws.FnExactDigestOf", spec := "fnExactDigestOf", unfollowed := true, recurses := true, apart := false, narrowed := true }
def FnExactDigestOfUptoSaid : Prop := fnExactDigestOfUptoRow.holds Try.pinned (OpenSpec.upto fnExactDigestOfSpec)

/-- 'laws.FnDigest', WHERE WHAT IT READS IS OF BULK AT MOST 1048576: true; the input reads as it did. -/
def fnDigestUptoRow : OpenClaim := { program := "ytkgmghncpjhodaa", sum := "afc0d7190ff25d4e6ca6ae24504a087a8cb93f2d10d8147c38814ac632e2e569", func := "loop.example/g00018/laws.FnDigest", spec := "fnDigest", unfollowed := true, recurses := true, apart := false, narrowed := true }
def FnDigestUptoSaid : Prop := fnDigestUptoRow.holds Try.pinned (OpenSpec.upto fnDigestSpec)

end Rows
end Go.Proofs.Ytkgmghncpjhodaa
