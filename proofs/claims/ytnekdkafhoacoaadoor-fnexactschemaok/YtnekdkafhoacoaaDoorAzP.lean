import Derived.Test.YtnekdkafhoacoaaDoorGramP
namespace Go.Proofs.YtnekdkafhoacoaaDoor
open Go
set_option linter.unusedVariables false

/-- Texts that may stand in an analyser. -/
def tOK (t : List UInt8) : Bool := decide (1 ≤ t.length) && decide (t.length ≤ 64) && validB (bs t)
def yOK (y : List UInt8 × List UInt8) : Bool := tOK y.1 && tOK y.2 && !(y.1 == y.2)
def rOK (lo hi : Int) : Bool := (decide (lo = 0) && decide (hi = 0)) || gOK lo hi
def tsOK (l : List (List UInt8)) : Bool := l.all tOK
def ysOK (l : List (List UInt8 × List UInt8)) : Bool := l.all yOK
def azOK (stops : List (List UInt8)) (syns : List (List UInt8 × List UInt8)) (lo hi : Int) : Bool :=
  decide (stops.length ≤ 64) && decide (syns.length ≤ 64) && tsOK stops && ysOK syns && rOK lo hi
theorem tsOK_snoc (l : List (List UInt8)) (k : Nat) (h : k < l.length) : tsOK (l.take (k + 1)) = (tsOK (l.take k) && tOK (l.getD k [])) := by
  rw [tsOK, List.take_succ_eq_append_getElem h, List.all_append, List.getD_eq_getElem?_getD, List.getElem?_eq_getElem h]
  simp only [List.all_cons, List.all_nil, Bool.and_true, Option.getD_some]
  rfl
theorem ysOK_snoc (l : List (List UInt8 × List UInt8)) (k : Nat) (h : k < l.length) : ysOK (l.take (k + 1)) = (ysOK (l.take k) && yOK (l.getD k ([], []))) := by
  rw [ysOK, List.take_succ_eq_append_getElem h, List.all_append, List.getD_eq_getElem?_getD, List.getElem?_eq_getElem h]
  simp only [List.all_cons, List.all_nil, Bool.and_true, Option.getD_some]
  rfl
theorem tsOK_no {l : List (List UInt8)} {k : Nat} (h : k < l.length) (hn : tOK (l.getD k []) = false) : tsOK l = false := by
  rw [tsOK, List.all_eq_false]
  refine ⟨l.getD k [], ?_, by rw [hn]; simp⟩
  rw [List.getD_eq_getElem?_getD, List.getElem?_eq_getElem h, Option.getD_some]
  exact List.getElem_mem _
theorem ysOK_no {l : List (List UInt8 × List UInt8)} {k : Nat} (h : k < l.length) (hn : yOK (l.getD k ([], [])) = false) : ysOK l = false := by
  rw [ysOK, List.all_eq_false]
  refine ⟨l.getD k ([], []), ?_, by rw [hn]; simp⟩
  rw [List.getD_eq_getElem?_getD, List.getElem?_eq_getElem h, Option.getD_some]
  exact List.getElem_mem _
theorem all_full {α : Type} (l : List α) (k : Nat) (h : ¬ k < l.length) : l.take k = l := List.take_of_length_le (by omega)
end Go.Proofs.YtnekdkafhoacoaaDoor
