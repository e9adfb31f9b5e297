import Derived.Test.YtpdiaddgialanaaGreatDoorPlain
namespace Go.Proofs.YtpdiaddgialanaaGreatDoor
open Go
def ansCode (zs : List Int) : Int := if 65536 < zs.length then 2 else if zs.all chr = true then (if 65536 < (encs zs).length then 2 else 0) else 1
def ansText (zs : List Int) : List UInt8 := if 65536 < zs.length then [] else if zs.all chr = true then (if 65536 < (encs zs).length then [] else encs zs) else []

theorem all_take_succ (zs : List Int) (k : Nat) (h : k < zs.length) : (zs.take (k + 1)).all chr = ((zs.take k).all chr && chr (zs.getD k 0)) := by
  rw [take_snoc zs k h]; simp
theorem not_all (zs : List Int) (k : Nat) (h : k < zs.length) (hc : chr (zs.getD k 0) = false) : zs.all chr = false := by
  rw [List.all_eq_false]
  refine ⟨zs[k], List.getElem_mem h, ?_⟩
  have : zs.getD k 0 = zs[k] := by simp [h]
  rw [← this, hc]; simp
theorem all_at (zs : List Int) (h : zs.all chr = true) (t : Nat) (ht : t < zs.length) : chr (zs.getD t 0) = true := by
  have : zs.getD t 0 = zs[t] := by simp [ht]
  rw [this]
  exact List.all_eq_true.1 h _ (List.getElem_mem ht)
end Go.Proofs.YtpdiaddgialanaaGreatDoor
