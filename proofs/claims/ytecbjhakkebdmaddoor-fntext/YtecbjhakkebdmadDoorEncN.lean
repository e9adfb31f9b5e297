import Derived.Test.YtecbjhakkebdmadDoorEncI
import Derived.Test.YtecbjhakkebdmadDoorOwn
namespace Go.Proofs.YtecbjhakkebdmadDoor
open Go Go.RowKit
set_option linter.unusedVariables false

set_option maxHeartbeats 1000000 in
theorem implEncode_nil (w : World) :
    Calls Tryd.prog 7 #[.slice none 0 0] w fun e w' => e = .returned (.tuple #[.string ⟨(ansText []).toArray⟩, .int .i64 (ansCode [])]) ∧ Below w.heap.size w w' := by
  have HT : Hid (ansText [] = []) := rfl
  have HC : Hid (ansCode [] = 0) := rfl
  go_enter Tryd.func7, Tryd.ntmps7
  go_wp2
  refine wp_loop_rounds 1 ?_
  rw [rounds_succ]
  go_wp2_with fail
  refine (Tryd.Builder_Grow_fresh w.heap.size w.heap.size 0 _ (Nat.le_refl _) (by exact heap_alloc_new _ _) (by simp) (by omega)).mono ?_
  rintro e w1 ⟨rfl, hB1, hb1⟩
  have hbel0 : Below w.heap.size w w1 := ((Below.refl _ _).alloc (Nat.le_refl _) _).trans hb1
  have hI0 : Lib.IsBuilderF 48 5 w.heap.size w.heap.size [] w1 := Lib.IsBuilderF.of (Or.inr hB1)
  clear hB1 hb1
  go_wp2
  refine wp_loop_rounds 1 ?_
  rw [rounds_succ]
  go_wp2_with fail
  refine (Tryd.Builder_String_any_k w.heap.size w.heap.size [] _ hI0 hbel0.size).mono ?_
  rintro e w2 ⟨rfl, _, b1, _⟩
  go_wp2
  go_ret2
  rw [HT.out, HC.out]
  exact ⟨rfl, hbel0.trans b1⟩

theorem implEncode_own (v : Value) (base : Nat) (zs : List Int) (w : World) (hn : zs.length ≤ 1048576) (h : w.ownsRow base 3 1 v zs.length (zs.map (Value.int .i64))) :
    Calls Tryd.prog 7 #[v] w fun e w' => e = .returned (.tuple #[.string ⟨(ansText zs).toArray⟩, .int .i64 (ansCode zs)]) ∧ Below w.heap.size w w' := by
  rcases own_cases h with ⟨rfl, hz⟩ | ⟨g, cap, rfl, hbg, hgl⟩
  · obtain rfl : zs = [] := List.eq_nil_of_length_eq_zero hz
    exact implEncode_nil w
  · exact implEncode_any g 0 zs.length cap zs w hn rfl hgl (own_cells h rfl)
end Go.Proofs.YtecbjhakkebdmadDoor
