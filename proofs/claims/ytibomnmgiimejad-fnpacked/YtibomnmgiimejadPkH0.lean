import Derived.Test.YtibomnmgiimejadPkOh
namespace Go.Proofs.Ytibomnmgiimejad
open Go Go.RowKit
set_option linter.unusedVariables false

/-- Where the blocks of a list begin. -/
def starts (at_ len : Nat) : List Nat := if at_ < len then at_ :: starts (at_ + 128) len else []
termination_by len - at_
decreasing_by omega
theorem starts_step (at_ len : Nat) (h : at_ < len) : starts at_ len = at_ :: starts (at_ + 128) len := by rw [starts, if_pos h]
theorem starts_end (at_ len : Nat) (h : ¬ at_ < len) : starts at_ len = [] := by rw [starts, if_neg h]
theorem starts_length (at_ len : Nat) : (starts at_ len).length * 128 ≤ len - at_ + 127 := by
  induction hn : len - at_ using Nat.strongRecOn generalizing at_ with
  | _ n ih =>
    by_cases h : at_ < len
    · rw [starts_step at_ len h, List.length_cons]
      have := ih (len - (at_ + 128)) (by omega) (at_ + 128) rfl
      omega
    · rw [starts_end at_ len h]; simp
theorem starts_pack (vs : List Nat) (at_ : Nat) : (starts at_ vs.length).flatMap (fun x => blockL ((vs.drop x).take 128)) = packGo (vs.drop at_) := by
  induction hn : vs.length - at_ using Nat.strongRecOn generalizing at_ with
  | _ n ih =>
    by_cases h : at_ < vs.length
    · rw [starts_step at_ _ h, List.flatMap_cons, ih (vs.length - (at_ + 128)) (by omega) (at_ + 128) rfl, packGo_step (vs.drop at_) (by rw [List.length_drop]; omega), List.drop_drop]
    · rw [starts_end at_ _ h, List.drop_of_length_le (by omega), packGo_nil]; rfl

/-- The two variables that the iterator has captured stay as they are. -/
def KpC (Bs Bn : Nat) (W W' : World) : Prop := W'.heap[Bs]? = W.heap[Bs]? ∧ W'.heap[Bn]? = W.heap[Bn]?
theorem KpC.refl (Bs Bn : Nat) (W : World) : KpC Bs Bn W W := ⟨rfl, rfl⟩
theorem KpC.trans {Bs Bn : Nat} {A B C : World} (h : KpC Bs Bn A B) (k : KpC Bs Bn B C) : KpC Bs Bn A C := ⟨k.1.trans h.1, k.2.trans h.2⟩
theorem cell_heap {W W' : World} {g : Nat} (h : W'.heap[g]? = W.heap[g]?) (k : Nat) : W'.cell? ⟨g, k, none⟩ = W.cell? ⟨g, k, none⟩ := by simp [World.cell?, h]

def chunkOf (b off len x : Nat) : Array Value := #[.slice (some ⟨b, off + x, none⟩) (min 128 (len - x)) (min 128 (len - x))]

end Go.Proofs.Ytibomnmgiimejad
