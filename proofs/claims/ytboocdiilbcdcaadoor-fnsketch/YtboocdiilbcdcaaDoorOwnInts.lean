import Derived.Test.YtboocdiilbcdcaaDoorEqInts
import Derived.Test.YtboocdiilbcdcaaDoorMarkInts
import Derived.Test.YtboocdiilbcdcaaDoorOwn
namespace Go.Proofs.YtboocdiilbcdcaaDoor
open Go Go.RowKit
set_option linter.unusedVariables false

set_option maxHeartbeats 400000 in
theorem eqInts_zero (a1 a2 : Option Addr) (c1 c2 : Nat) (w : World) :
    Calls Tryd.prog 33 #[.slice a1 0 c1, .slice a2 0 c2] w fun e w' => e = .returned (.bool true) ∧ w' = w := by
  go_enter Tryd.func33, Tryd.ntmps33
  go_wp2
  refine wp_loop_rounds 1 ?_
  rw [rounds_succ]
  go_wp2
  go_ret
  exact ⟨rfl, rfl⟩
set_option maxHeartbeats 400000 in
theorem markInts_zero (a1 : Option Addr) (c1 : Nat) (c : Int) (w : World) :
    Calls Tryd.prog 35 #[.slice a1 0 c1, .int .i64 c] w fun e w' => e = .returned (.int .i64 c) ∧ w' = w := by
  go_enter Tryd.func35, Tryd.ntmps35
  go_wp2
  refine wp_loop_rounds 1 ?_
  rw [rounds_succ]
  go_wp2
  go_ret
  exact ⟨rfl, rfl⟩
set_option maxHeartbeats 400000 in
theorem heldInts_zero (a1 : Option Addr) (c1 : Nat) (c : Int) (w : World) :
    Calls Tryd.prog 36 #[.slice a1 0 c1, .int .i64 c] w fun e w' => e = .returned (.int .i64 c) ∧ w' = w := by
  go_enter Tryd.func36, Tryd.ntmps36
  go_wp2
  refine wp_loop_rounds 1 ?_
  rw [rounds_succ]
  go_wp2
  go_ret
  exact ⟨rfl, rfl⟩

theorem eqInts_own (b1 b2 n : Nat) (v1 v2 : Value) (zs : List Int) (w : World) (hn : n ≤ 1048576) (hl : zs.length = n)
    (h1 : w.ownsRow b1 3 1 v1 n (zs.map (Value.int .i64))) (h2 : w.ownsRow b2 3 1 v2 n (zs.map (Value.int .i64))) :
    Calls Tryd.prog 33 #[v1, v2] w fun e w' => e = .returned (.bool true) ∧ ∃ m, w' = w.drewN m := by
  rcases own_cases h1 with ⟨rfl, rfl⟩ | ⟨g1, c1, rfl, _, _⟩
  · rcases own_cases h2 with ⟨rfl, _⟩ | ⟨g2, c2, rfl, _, _⟩
    · exact (eqInts_zero _ _ _ _ w).mono fun e w' h => ⟨h.1, 0, h.2⟩
    · exact (eqInts_zero _ _ _ _ w).mono fun e w' h => ⟨h.1, 0, h.2⟩
  · rcases own_cases h2 with ⟨rfl, rfl⟩ | ⟨g2, c2, rfl, _, _⟩
    · exact (eqInts_zero _ _ _ _ w).mono fun e w' h => ⟨h.1, 0, h.2⟩
    · exact eqInts_same g1 0 c1 g2 0 c2 n zs w hn (own_cells h1 hl) (own_cells h2 hl)

theorem markInts_own (base n : Nat) (v : Value) (xs : List Value) (c : Int) (w : World) (hn : n ≤ 1048576) (h0 : 0 ≤ c) (h1 : c ≤ 1099511627776) (h : w.ownsRow base 3 1 v n xs) :
    Calls Tryd.prog 35 #[v, .int .i64 c] w fun e w' => e = .returned (.int .i64 (c + (n : Int))) ∧ w'.ownsRow base 3 1 v n (marks c n) ∧ w.grownBy w' v.ownBlock := by
  rcases own_cases h with ⟨rfl, rfl⟩ | ⟨g1, c1, rfl, _, _⟩
  · refine (markInts_zero _ _ c w).mono fun e w' h' => ?_
    obtain ⟨rfl, rfl⟩ := h'
    exact ⟨by simp, World.ownsRow_nil _ _ _ _, grown_refl _ _⟩
  · exact markInts_some base g1 n c1 xs c w hn h0 h1 h

theorem heldInts_own (base n : Nat) (v : Value) (c : Int) (w : World) (hn : n ≤ 1048576) (h0 : 0 ≤ c) (h1 : c ≤ 1099511627776) (h : w.ownsRow base 3 1 v n (marks c n)) :
    Calls Tryd.prog 36 #[v, .int .i64 c] w fun e w' => e = .returned (.int .i64 (c + (n : Int))) ∧ w' = w := by
  rcases own_cases h with ⟨rfl, rfl⟩ | ⟨g1, c1, rfl, _, _⟩
  · refine (heldInts_zero _ _ c w).mono fun e w' h' => ?_
    obtain ⟨rfl, rfl⟩ := h'
    exact ⟨by simp, rfl⟩
  · exact heldInts_some base g1 n c1 c w hn h0 h1 h

end Go.Proofs.YtboocdiilbcdcaaDoor
