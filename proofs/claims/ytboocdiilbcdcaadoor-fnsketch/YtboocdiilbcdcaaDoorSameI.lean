import Derived.Test.YtboocdiilbcdcaaDoorProg
import Derived.Test.YtboocdiilbcdcaaDoorPlain
import Derived.Test.YtboocdiilbcdcaaDoorAid
import Derived.Test.YtboocdiilbcdcaaDoorOwn
import Derived.WalkKit
import Derived.WalkLawsBesides
import Derived.BigQuiet
import Derived.Deep.QuietTactic
namespace Go.Proofs.YtboocdiilbcdcaaDoor
open Go Go.RowKit

set_option maxHeartbeats 400000 in
theorem sameInts_same (b1 o1 c1 b2 o2 c2 n : Nat) (zs : List Int) (w : World) (hn : n ≤ 1048576)
    (h1 : ∀ t, t < n → w.cell? ⟨b1, o1 + t, none⟩ = some (.int .i64 (zs.getD t 0))) (h2 : ∀ t, t < n → w.cell? ⟨b2, o2 + t, none⟩ = some (.int .i64 (zs.getD t 0))) :
    Calls Tryd.prog 8 #[.slice (some ⟨b1, o1, none⟩) n c1, .slice (some ⟨b2, o2, none⟩) n c2] w fun e w' => e = .returned (.bool true) ∧ ∃ m, w' = w.drewN m := by
  go_enter Tryd.func8, Tryd.ntmps8
  go_wp2
  go_loopw [5] (fun i wr => ∃ k : Nat, k ≤ n ∧ i = .int .i64 k ∧ ∃ m, wr = w.drewN m) (fun i _ => n - (intOf i).toNat)
  case atStart => exact ⟨0, Nat.zero_le _, rfl, 0, rfl⟩
  case round =>
    obtain ⟨k, hk, rfl, m, rfl⟩ := hrel
    by_cases hlt : k < n
    · have g1 := h1 k hlt
      have g2 := h2 k hlt
      clear h1 h2
      go_wp2
      go_quiet (fail)
      go_wp2
      go_roundw
      case rel => exact ⟨k + 1, by omega, by go_num, _, rfl⟩
      case measure => simp [intOf]; omega
    · go_wp2
      go_ret
      exact ⟨rfl, m, rfl⟩
set_option maxHeartbeats 400000 in
theorem sameInts_zero (a1 a2 : Option Addr) (c1 c2 : Nat) (w : World) :
    Calls Tryd.prog 8 #[.slice a1 0 c1, .slice a2 0 c2] w fun e w' => e = .returned (.bool true) ∧ w' = w := by
  go_enter Tryd.func8, Tryd.ntmps8
  go_wp2
  refine wp_loop_rounds 1 ?_
  rw [rounds_succ]
  go_wp2
  go_ret
  exact ⟨rfl, rfl⟩
theorem sameInts_own (b1 b2 n : Nat) (v1 v2 : Value) (zs : List Int) (w : World) (hn : n ≤ 1048576) (hl : zs.length = n)
    (h1 : w.ownsRow b1 3 1 v1 n (zs.map (Value.int .i64))) (h2 : w.ownsRow b2 3 1 v2 n (zs.map (Value.int .i64))) :
    Calls Tryd.prog 8 #[v1, v2] w fun e w' => e = .returned (.bool true) ∧ ∃ m, w' = w.drewN m := by
  rcases own_cases h1 with ⟨rfl, rfl⟩ | ⟨g1, c1, rfl, _, _⟩
  · rcases own_cases h2 with ⟨rfl, _⟩ | ⟨g2, c2, rfl, _, _⟩
    · exact (sameInts_zero _ _ _ _ w).mono fun e w' h => ⟨h.1, 0, h.2⟩
    · exact (sameInts_zero _ _ _ _ w).mono fun e w' h => ⟨h.1, 0, h.2⟩
  · rcases own_cases h2 with ⟨rfl, rfl⟩ | ⟨g2, c2, rfl, _, _⟩
    · exact (sameInts_zero _ _ _ _ w).mono fun e w' h => ⟨h.1, 0, h.2⟩
    · refine sameInts_same g1 0 c1 g2 0 c2 n zs w hn (fun t ht => ?_) (fun t ht => ?_)
      · rw [Nat.zero_add, h1.cellAt t (by omega)]; simp [show t < zs.length from by omega]
      · rw [Nat.zero_add, h2.cellAt t (by omega)]; simp [show t < zs.length from by omega]
end Go.Proofs.YtboocdiilbcdcaaDoor
