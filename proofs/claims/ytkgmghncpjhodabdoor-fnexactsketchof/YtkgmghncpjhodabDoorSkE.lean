import Derived.Test.YtkgmghncpjhodabDoorSkAd
import Derived.WalkLawsBesides
import Derived.BigQuiet
import Derived.Deep.QuietTactic
namespace Go.Proofs.YtkgmghncpjhodabDoor
open Go Go.RowKit
set_option linter.unusedVariables false
set_option linter.unusedSimpArgs false
set_option maxRecDepth 100000

/-! Rows of numbers in blocks of any type: the law's own words on them. -/
set_option maxHeartbeats 400000 in
theorem markIntsE_some (ty base g n cap : Nat) (xs : List Value) (c : Int) (w : World) (hn : n ≤ 1048576) (h0 : 0 ≤ c) (h1 : c ≤ 1099511627776) (hown : w.ownsRow base ty 1 (.slice (some ⟨g, 0, none⟩) n cap) n xs) :
    Calls Tryd.prog 26 #[.slice (some ⟨g, 0, none⟩) n cap, .int .i64 c] w fun e w' => e = .returned (.int .i64 (c + (n : Int))) ∧
      w'.ownsRow base ty 1 (.slice (some ⟨g, 0, none⟩) n cap) n (marks c n) ∧ w.grownBy w' (some g) := by
  have hl : xs.length = n := by have := hown.1; omega
  have HO := hidd hown
  clear hown
  go_enter Tryd.func26, Tryd.ntmps26
  go_wp2
  go_loopw [1, 5] (fun cv i wr => ∃ k : Nat, k ≤ n ∧ i = .int .i64 k ∧ cv = .int .i64 (c + (k : Int)) ∧ wr.ownsRow base ty 1 (.slice (some ⟨g, 0, none⟩) n cap) n (marks c k ++ xs.drop k) ∧ w.grownBy wr (some g)) (fun _ i _ => n - (intOf i).toNat)
  case atStart => exact ⟨0, Nat.zero_le _, rfl, by simp, by simpa [marks] using HO.out, grown_refl _ _⟩
  case round =>
    obtain ⟨k, hk, rfl, rfl, hown, hgr⟩ := hrel
    by_cases hlt : k < n
    · have f1 := hown.frozenAt k
      have hex : ∃ u, wr.cell? ⟨g, k, none⟩ = some u := by
        rw [hown.cellAt k (by omega)]
        have hlen : k < (marks c k ++ xs.drop k).length := by rw [List.length_append, marks_length, List.length_drop]; omega
        exact ⟨_, List.getElem?_eq_getElem hlen⟩
      obtain ⟨u, q1⟩ := hex
      have st := hidd (hown.stored k (.int .i64 (c + (k : Int))))
      clear hown
      go_wp2
      go_roundw
      case rel =>
        refine ⟨k + 1, by omega, by go_num, by go_num, ?_, grown_trans hgr st.out.2⟩
        have h := st.out.1
        rw [marks_set c k n xs hl hlt] at h
        exact h
      case measure => simp [intOf]; omega
    · have HK : Hid (k = n) := by show k = n; omega
      go_wp2
      go_ret
      obtain rfl := HK.out
      refine ⟨rfl, ?_, hgr⟩
      rw [List.drop_of_length_le (by omega), List.append_nil] at hown
      exact hown

set_option maxHeartbeats 400000 in
theorem heldIntsE_some (ty base g n cap : Nat) (c : Int) (w : World) (hn : n ≤ 1048576) (h0 : 0 ≤ c) (h1 : c ≤ 1099511627776) (hown : w.ownsRow base ty 1 (.slice (some ⟨g, 0, none⟩) n cap) n (marks c n)) :
    Calls Tryd.prog 27 #[.slice (some ⟨g, 0, none⟩) n cap, .int .i64 c] w fun e w' => e = .returned (.int .i64 (c + (n : Int))) ∧ w' = w := by
  have hc : Hid (∀ j, j < n → w.cell? ⟨g, j, none⟩ = some (.int .i64 (c + (j : Int)))) := fun j hj => by rw [hown.cellAt j (by omega)]; exact marks_at c n j hj
  clear hown
  go_enter Tryd.func27, Tryd.ntmps27
  go_wp2
  go_loop [1, 5] (fun cv i => ∃ k : Nat, k ≤ n ∧ i = .int .i64 k ∧ cv = .int .i64 (c + (k : Int))) (fun _ i => n - (intOf i).toNat)
  case atStart => exact ⟨0, Nat.zero_le _, rfl, by simp⟩
  case round =>
    obtain ⟨k, hk, rfl, rfl⟩ := hrel
    by_cases hlt : k < n
    · have q1 := hc.out k hlt
      go_wp2
      go_round
      case rel => exact ⟨k + 1, by omega, by go_num, by go_num⟩
      case measure => simp [intOf]; omega
    · have HK : Hid (k = n) := by show k = n; omega
      go_wp2
      go_ret
      rw [HK.out]
      exact ⟨rfl, rfl⟩
theorem eqIntsE_own (t1 t2 b1 b2 n : Nat) (v1 v2 : Value) (zs : List Int) (w : World) (hn : n ≤ 1048576) (hl : zs.length = n)
    (h1 : w.ownsRow b1 t1 1 v1 n (zs.map (Value.int .i64))) (h2 : w.ownsRow b2 t2 1 v2 n (zs.map (Value.int .i64))) :
    Calls Tryd.prog 24 #[v1, v2] w fun e w' => e = .returned (.bool true) ∧ ∃ m, w' = w.drewN m := by
  rcases own_cases h1 with ⟨rfl, rfl⟩ | ⟨g1, c1, rfl, _, _⟩
  · rcases own_cases h2 with ⟨rfl, _⟩ | ⟨g2, c2, rfl, _, _⟩
    · exact (eqInts_zero _ _ _ _ w).mono fun e w' h => ⟨h.1, 0, h.2⟩
    · exact (eqInts_zero _ _ _ _ w).mono fun e w' h => ⟨h.1, 0, h.2⟩
  · rcases own_cases h2 with ⟨rfl, rfl⟩ | ⟨g2, c2, rfl, _, _⟩
    · exact (eqInts_zero _ _ _ _ w).mono fun e w' h => ⟨h.1, 0, h.2⟩
    · exact eqInts_same g1 0 c1 g2 0 c2 n zs w hn (own_cells h1 hl) (own_cells h2 hl)

theorem markIntsE_own (ty base n : Nat) (v : Value) (xs : List Value) (c : Int) (w : World) (hn : n ≤ 1048576) (h0 : 0 ≤ c) (h1 : c ≤ 1099511627776) (h : w.ownsRow base ty 1 v n xs) :
    Calls Tryd.prog 26 #[v, .int .i64 c] w fun e w' => e = .returned (.int .i64 (c + (n : Int))) ∧ w'.ownsRow base ty 1 v n (marks c n) ∧ w.grownBy w' v.ownBlock := by
  rcases own_cases h with ⟨rfl, rfl⟩ | ⟨g1, c1, rfl, _, _⟩
  · refine (markInts_zero _ _ c w).mono fun e w' h' => ?_
    obtain ⟨rfl, rfl⟩ := h'
    exact ⟨by simp, World.ownsRow_nil _ _ _ _, grown_refl _ _⟩
  · exact markIntsE_some ty base g1 n c1 xs c w hn h0 h1 h

theorem heldIntsE_own (ty base n : Nat) (v : Value) (c : Int) (w : World) (hn : n ≤ 1048576) (h0 : 0 ≤ c) (h1 : c ≤ 1099511627776) (h : w.ownsRow base ty 1 v n (marks c n)) :
    Calls Tryd.prog 27 #[v, .int .i64 c] w fun e w' => e = .returned (.int .i64 (c + (n : Int))) ∧ w' = w := by
  rcases own_cases h with ⟨rfl, rfl⟩ | ⟨g1, c1, rfl, _, _⟩
  · refine (heldInts_zero _ _ c w).mono fun e w' h' => ?_
    obtain ⟨rfl, rfl⟩ := h'
    exact ⟨by simp, rfl⟩
  · exact heldIntsE_some ty base g1 n c1 c w hn h0 h1 h

set_option maxHeartbeats 2000000 in
theorem eqSketchE_same (t1 t2 b1 b2 : Nat) (v1 v2 : Value) (zs : List Int) (w : World) (hn : zs.length ≤ 1048576)
    (h1 : w.ownsRow b1 t1 1 v1 zs.length (zI zs)) (h2 : w.ownsRow b2 t2 1 v2 zs.length (zI zs)) :
    Calls Tryd.prog 9 #[.agg #[v1], .agg #[v2]] w fun e w' => e = .returned (.bool true) ∧ Below w.heap.size w w' := by
  obtain ⟨W, hW⟩ : ∃ W, (w.alloc (.cells #[v1] 26)).alloc (.cells #[v2] 26) = W := ⟨_, rfl⟩
  have hk := box_two w (.cells #[v1] 26) (.cells #[v2] 26)
  have HB : Hid (Below w.heap.size w W) := by
    show Below _ _ _
    rw [← hW]
    exact ((Below.refl _ _).alloc (Nat.le_refl _) _).alloc (by simp) _
  rw [hW] at hk
  have HC := hidd (eqIntsE_own t1 t2 b1 b2 zs.length v1 v2 zs W hn rfl (own_below h1 HB.out) (own_below h2 HB.out))
  have hv1 : ∃ a1 c1, v1 = .slice a1 zs.length c1 := by
    rcases own_cases h1 with ⟨rfl, h0⟩ | ⟨g, cap, rfl, _, _⟩
    · exact ⟨_, _, by rw [h0]⟩
    · exact ⟨_, _, rfl⟩
  have hv2 : ∃ a1 c1, v2 = .slice a1 zs.length c1 := by
    rcases own_cases h2 with ⟨rfl, h0⟩ | ⟨g, cap, rfl, _, _⟩
    · exact ⟨_, _, by rw [h0]⟩
    · exact ⟨_, _, rfl⟩
  clear h1 h2
  obtain ⟨a1, c1, rfl⟩ := hv1
  obtain ⟨a2, c2, rfl⟩ := hv2
  have x0 := blkc hk.1 0
  have y0 := blkc hk.2 0
  have HK := hidd hk
  clear hk
  simp only [List.getElem?_toArray, List.getElem?_cons_zero] at x0 y0
  go_enter Tryd.func9, Tryd.ntmps9
  go_upto_region 1 with fail
  try rw [hW]
  clear hW
  go_wp2_with fail
  refine HC.out.mono ?_
  rintro e w1 ⟨rfl, m, rfl⟩
  go_wp2_with fail
  go_ret
  exact ⟨rfl, below_drewN HB.out m⟩
set_option maxHeartbeats 1000000 in
theorem markSketchE_own (ty base n : Nat) (v : Value) (xs : List Value) (k : Int) (w : World) (hn : n ≤ 1048576) (hk0 : 0 ≤ k) (hk1 : k ≤ 1099511627776) (h : w.ownsRow base ty 1 v n xs) :
    Calls Tryd.prog 12 #[.agg #[v], .int .i64 k] w fun e w' => e = .returned (.int .i64 (k + (n : Int))) ∧ w'.ownsRow base ty 1 v n (marks k n) ∧ w.grownBy w' v.ownBlock := by
  have HC := hidd (markIntsE_own ty base n v xs k (w.alloc (.cells #[v] 26)) hn hk0 hk1 (h.alloc _))
  have HG : Hid (w.grownBy (w.alloc (.cells #[v] 26)) v.ownBlock) := ⟨rfl, rfl, rfl, by simp, fun i hi _ => Below.heap_alloc _ _ _ hi⟩
  have hv1 : ∃ a1 c1, v = .slice a1 n c1 := by
    rcases own_cases h with ⟨rfl, h0⟩ | ⟨g, cap, rfl, _, _⟩
    · exact ⟨_, _, by rw [h0]⟩
    · exact ⟨_, _, rfl⟩
  clear h
  obtain ⟨a1, c1, rfl⟩ := hv1
  go_enter Tryd.func12, Tryd.ntmps12
  go_wp2_with fail
  refine HC.out.mono ?_
  rintro e w1 ⟨rfl, h1, h2⟩
  have H1 := hidd h1
  have H2 := hidd (grown_trans HG.out h2)
  clear h1 h2
  go_wp2_with fail
  go_ret
  exact ⟨rfl, H1.out, H2.out⟩
set_option maxHeartbeats 1000000 in
theorem heldSketchE_own (ty base n : Nat) (v : Value) (w : World) (hn : n ≤ 1048576) (h : w.ownsRow base ty 1 v n (marks 1 n)) :
    Calls Tryd.prog 13 #[.agg #[v], .int .i64 1] w fun e w' => e = .returned (.int .i64 (1 + (n : Int))) ∧ Below w.heap.size w w' := by
  have HC := hidd (heldIntsE_own ty base n v 1 (w.alloc (.cells #[v] 26)) hn (by omega) (by omega) (h.alloc _))
  have HB : Hid (Below w.heap.size w (w.alloc (.cells #[v] 26))) := (Below.refl _ _).alloc (Nat.le_refl _) _
  have hv1 : ∃ a1 c1, v = .slice a1 n c1 := by
    rcases own_cases h with ⟨rfl, h0⟩ | ⟨g, cap, rfl, _, _⟩
    · exact ⟨_, _, by rw [h0]⟩
    · exact ⟨_, _, rfl⟩
  clear h
  obtain ⟨a1, c1, rfl⟩ := hv1
  have hX : ¬ (1 + (n : Int)) < 0 := by omega
  go_enter Tryd.func13, Tryd.ntmps13
  go_wp2_with fail
  refine HC.out.mono ?_
  rintro e w1 ⟨rfl, hw1⟩
  obtain rfl := hw1.symm
  clear hw1
  go_wp2_with fail
  go_ret
  exact ⟨rfl, HB.out⟩
end Go.Proofs.YtkgmghncpjhodabDoor
