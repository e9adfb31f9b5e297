import Derived.Test.YtefhmbnhhkgifaaDoP
import Derived.Test.YtefhmbnhhkgifaaRbI
namespace Go.Proofs.Ytefhmbnhhkgifaa
open Go
set_option linter.unusedVariables false

/-! Records, in plain words: a kind, a number, an id, a document. -/
abbrev Rc := Int × Int × List UInt8 × Dc
def seqOK (q : Int) : Bool := decide (1 ≤ q) && decide (q ≤ 4611686018427387903)
def rcOK (x : Rc) : Bool := seqOK x.2.1 && if x.1 = 1 then decide (x.2.2.1.length = 0) && idV x.2.2.2.1 && dcOK x.2.2.2
  else decide (x.1 = 2) && idV x.2.2.1 && decide (x.2.2.2.1.length = 0) && decide (x.2.2.2.2.length = 0)
def rcPart (x : Rc) : List UInt8 := UInt8.ofNat x.1.toNat :: (putL x.2.1.toNat ++ if x.1 = 1 then dcB x.2.2.2 else x.2.2.1)
def partB (p : List UInt8) : List UInt8 := putL p.length ++ p ++ four (sumL p)
/-- What RecordBytes tells. -/
def rcO (x : Rc) : List UInt8 × Int := if rcOK x then if 1048576 < (partB (rcPart x)).length then ([], 2) else (partB (rcPart x), 0) else ([], 1)
/-- How many bytes a document has at least. -/
def vlL (v : Vl) : Nat := v.1.length + v.2.1.length + v.2.2.length
def txSum (tx : List (List UInt8)) : Nat := (tx.map List.length).sum
def bodyV (V : List Vl) : Nat := (V.map fun v => txSum v.2.1).sum
theorem sum_take (ns : List Nat) {k : Nat} (hk : k < ns.length) : (ns.take (k + 1)).sum = (ns.take k).sum + ns.getD k 0 := by
  rw [List.take_add_one, List.sum_append]; simp [hk]
theorem txSum_take (tx : List (List UInt8)) {k : Nat} (hk : k < tx.length) : txSum (tx.take (k + 1)) = txSum (tx.take k) + (tx.getD k []).length := by
  unfold txSum
  rw [List.map_take, List.map_take, sum_take _ (by simpa using hk)]; simp [hk]
theorem bodyV_take (V : List Vl) {k : Nat} (hk : k < V.length) : bodyV (V.take (k + 1)) = bodyV (V.take k) + txSum (V.getD k vl0).2.1 := by
  unfold bodyV
  rw [List.map_take, List.map_take, sum_take _ (by simpa using hk)]; simp [hk]
theorem sum_take_le (ns : List Nat) (k : Nat) : (ns.take k).sum ≤ ns.sum := by
  have : (ns.take k).sum + (ns.drop k).sum = ns.sum := by rw [← List.sum_append, List.take_append_drop]
  omega
theorem txSum_take_le (tx : List (List UInt8)) (k : Nat) : txSum (tx.take k) ≤ txSum tx := by
  unfold txSum; rw [List.map_take]; exact sum_take_le _ _
theorem bodyV_take_le (V : List Vl) (k : Nat) : bodyV (V.take k) ≤ bodyV V := by
  unfold bodyV; rw [List.map_take]; exact sum_take_le _ _
def lsV (V : List Vl) : Nat := (V.map vlL).sum
def leV (V : List Vl) : Nat := bodyV V + lsV V
theorem lsV_take (V : List Vl) {k : Nat} (hk : k < V.length) : lsV (V.take (k + 1)) = lsV (V.take k) + vlL (V.getD k vl0) := by
  unfold lsV
  rw [List.map_take, List.map_take, sum_take _ (by simpa using hk)]; simp [hk]
theorem lsV_take_le (V : List Vl) (k : Nat) : lsV (V.take k) ≤ lsV V := by
  unfold lsV; rw [List.map_take]; exact sum_take_le _ _
theorem four_len (n : Nat) : (four n).length = 4 := rfl
theorem partB_len (p : List UInt8) (h : p.length ≤ 4611686018427387903) : p.length + 5 ≤ (partB p).length ∧ (partB p).length ≤ p.length + 13 := by
  have h1 := putL_length9 p.length (by omega)
  have h2 := putL_pos p.length
  simp only [partB, List.length_append, four_len]
  omega
end Go.Proofs.Ytefhmbnhhkgifaa
