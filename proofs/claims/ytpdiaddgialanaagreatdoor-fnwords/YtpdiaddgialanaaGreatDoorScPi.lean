import Derived.Test.YtpdiaddgialanaaGreatDoorStemP
namespace Go.Proofs.YtpdiaddgialanaaGreatDoor
open Go
set_option linter.unusedVariables false
/-! Names of fields, plain. -/
def smallC (c : UInt8) : Bool := decide (97 ≤ (c.toNat : Int)) && decide ((c.toNat : Int) ≤ 122)
def digC (c : UInt8) : Bool := decide (48 ≤ (c.toNat : Int)) && decide ((c.toNat : Int) ≤ 57)
def nmC (c : UInt8) : Bool := smallC c || digC c || decide ((c.toNat : Int) = 95)
def nmOK (n : List UInt8) : Bool := decide (1 ≤ n.length) && decide (n.length ≤ 30) && smallC (n.getD 0 0) && n.all nmC
theorem nmOK_no {n : List UInt8} {k : Nat} (hk : k < n.length) (h : nmC (n.getD k 0) = false) : nmOK n = false := by
  unfold nmOK
  have : n.all nmC = false := by
    rw [List.all_eq_false]
    refine ⟨n.getD k 0, ?_, by rw [h]; simp⟩
    rw [List.getD_eq_getElem?_getD, List.getElem?_eq_getElem hk, Option.getD_some]
    exact List.getElem_mem _
  rw [this]; simp
end Go.Proofs.YtpdiaddgialanaaGreatDoor
