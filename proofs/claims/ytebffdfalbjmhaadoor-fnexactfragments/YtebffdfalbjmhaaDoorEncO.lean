import Derived.Test.YtebffdfalbjmhaaDoorEncL
import Derived.Test.YtebffdfalbjmhaaDoorOwn
namespace Go.Proofs.YtebffdfalbjmhaaDoor
open Go Go.RowKit
set_option linter.unusedVariables false
set_option maxHeartbeats 400000 in
theorem encode_zero (ao : Option Addr) (cap : Nat) (w : World) :
    Calls Tryd.prog 11 #[.slice ao 0 cap] w fun e w' => e = .returned (.string ⟨#[]⟩) ∧ Below w.heap.size w w' := by
  have hcv : ∀ (w1 : World) (g : Nat), (convert 43 9 (.slice (some ⟨g, 0, none⟩) 0 0)).run Tryd.prog w1 = .ok (.string ⟨#[]⟩) w1 := fun w1 g =>
    run_convert_bytes_back w1 43 9 5 ⟨g, 0, none⟩ 0 [] Tryd.underlying43 Tryd.underlying5 Tryd.underlying9 fun j hj => absurd hj (by simp)
  go_enter Tryd.func11, Tryd.ntmps11
  go_wp2
  refine wp_loop_rounds 1 ?_
  rw [rounds_succ]
  go_wp2
  go_ret
  exact ⟨rfl, (Below.refl _ _).alloc (Nat.le_refl _) _⟩
theorem encode_own (base n : Nat) (v : Value) (zs : List Int) (w : World) (hn : n ≤ 65536) (hl : zs.length = n) (hok : ∀ r ∈ zs, chr r = true)
    (h : w.ownsRow base 3 1 v n (zs.map (Value.int .i64))) :
    Calls Tryd.prog 11 #[v] w fun e w' => e = .returned (.string ⟨(encs zs).toArray⟩) ∧ Below w.heap.size w w' := by
  rcases own_cases h with ⟨rfl, rfl⟩ | ⟨g, cap, rfl, _, hg⟩
  · obtain rfl : zs = [] := List.eq_nil_of_length_eq_zero hl
    exact encode_zero _ _ w
  · refine encode_some g 0 n cap zs w hn hl hg (own_cells h hl) (fun t ht => ?_)
    have hlt : t < zs.length := by omega
    have : zs.getD t 0 = zs[t] := by simp [hlt]
    rw [this]
    exact hok _ (List.getElem_mem hlt)
end Go.Proofs.YtebffdfalbjmhaaDoor
