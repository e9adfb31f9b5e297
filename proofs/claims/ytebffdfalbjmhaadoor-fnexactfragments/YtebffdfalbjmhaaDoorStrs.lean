import Derived.Test.YtebffdfalbjmhaaDoorProg
import Derived.Test.YtebffdfalbjmhaaDoorStemP
import Derived.Test.YtebffdfalbjmhaaDoorOwn
import Derived.Test.YtebffdfalbjmhaaDoorMarkT
import Derived.Test.YtebffdfalbjmhaaDoorStrC
import Derived.WalkLawsBesides
import Derived.BigQuiet
import Derived.Deep.QuietTactic
import Derived.Deep.RegionWith
namespace Go.Proofs.YtebffdfalbjmhaaDoor
open Go Go.RowKit
set_option linter.unusedVariables false

set_option maxHeartbeats 400000 in
theorem eqStrs_same (b1 c1 b2 c2 n : Nat) (l : List (List UInt8)) (w : World) (hn : n ≤ 1048576)
    (h1 : ∀ t, t < n → w.cell? ⟨b1, t, none⟩ = some (.string (bs (l.getD t [])))) (h2 : ∀ t, t < n → w.cell? ⟨b2, t, none⟩ = some (.string (bs (l.getD t [])))) :
    Calls Tryd.prog 6 #[.slice (some ⟨b1, 0, none⟩) n c1, .slice (some ⟨b2, 0, none⟩) n c2] w fun e w' => e = .returned (.bool true) ∧ ∃ m, w' = w.drewN m := by
  have H1 := hidd h1
  have H2 := hidd h2
  clear h1 h2
  go_enter Tryd.func6, Tryd.ntmps6
  go_wp2
  go_loopw [5] (fun i wr => ∃ k : Nat, k ≤ n ∧ i = .int .i64 k ∧ ∃ m, wr = w.drewN m) (fun i _ => n - (intOf i).toNat)
  case atStart => exact ⟨0, Nat.zero_le _, rfl, 0, rfl⟩
  case round =>
    obtain ⟨k, hk, rfl, m, rfl⟩ := hrel
    by_cases hlt : k < n
    · have g1 := H1.out k hlt
      have g2 := H2.out k hlt
      generalize bs (l.getD k []) = t at g1 g2
      go_wp2
      go_quiet (fail)
      go_wp2
      go_roundw
      case rel => exact ⟨k + 1, by omega, by go_num, _, rfl⟩
      case measure => simp [intOf]; omega
    · go_wp2
      go_ret
      exact ⟨rfl, m, rfl⟩

def markSs (c : Int) (n : Nat) : List Value := (List.range n).map fun (i : Nat) => Value.string (mkText (c + (i : Int)))
theorem markSs_length (c : Int) (n : Nat) : (markSs c n).length = n := by simp [markSs]
theorem markSs_at (c : Int) (n j : Nat) (h : j < n) : (markSs c n)[j]? = some (Value.string (mkText (c + (j : Int)))) := by simp [markSs, h]
theorem markSs_set (c : Int) (k n : Nat) (xs : List Value) (hl : xs.length = n) (hk : k < n) : (markSs c k ++ xs.drop k).set k (.string (mkText (c + (k : Int)))) = markSs c (k + 1) ++ xs.drop (k + 1) := by
  have e : (markSs c k).length = k := markSs_length c k
  rw [List.set_append_right _ _ (by omega), e, Nat.sub_self]
  have hd : xs.drop k = xs[k] :: xs.drop (k + 1) := by rw [List.drop_eq_getElem_cons (by omega)]
  rw [hd, List.set_cons_zero]
  simp [markSs, List.range_succ]

set_option maxHeartbeats 1000000 in
theorem markStrs_some (base g n cap : Nat) (xs : List Value) (c : Int) (w : World) (hn : n ≤ 1048576) (h0 : 1 ≤ c) (h1 : c ≤ 1073741824) (hbz : base ≤ w.heap.size) (hgz : g < w.heap.size) (hown : w.ownsRow base 9 1 (.slice (some ⟨g, 0, none⟩) n cap) n xs) :
    Calls Tryd.prog 7 #[.slice (some ⟨g, 0, none⟩) n cap, .int .i64 c] w fun e w' => e = .returned (.int .i64 (c + (n : Int))) ∧
      w'.ownsRow base 9 1 (.slice (some ⟨g, 0, none⟩) n cap) n (markSs c n) ∧ w.grownBy w' (some g) := by
  have hl : xs.length = n := by have := hown.1; omega
  have HO := hidd hown
  clear hown
  go_enter Tryd.func7, Tryd.ntmps7
  go_wp2
  go_loopw [1, 5] (fun cv i wr => ∃ k : Nat, k ≤ n ∧ i = .int .i64 k ∧ cv = .int .i64 (c + (k : Int)) ∧ wr.ownsRow base 9 1 (.slice (some ⟨g, 0, none⟩) n cap) n (markSs c k ++ xs.drop k) ∧ w.grownBy wr (some g)) (fun _ i _ => n - (intOf i).toNat)
  case atStart => exact ⟨0, Nat.zero_le _, rfl, by simp, by simpa [markSs] using HO.out, grown_refl _ _⟩
  case round =>
    obtain ⟨k, hk, rfl, rfl, hown, hgr⟩ := hrel
    by_cases hlt : k < n
    · have HO1 := hidd hown
      have HG1 := hidd hgr
      clear hown hgr
      go_wp2_with fail
      refine (markText_any (c + (k : Int)) _ (by omega) (by omega)).mono ?_
      rintro e w2 ⟨rfl, hb2⟩
      have hown2 := own_below HO1.out hb2
      have hgr2 : w.grownBy w2 (some g) := grown_trans HG1.out ⟨hb2.os, hb2.tape, hb2.output, hb2.size, fun i hi _ => hb2.block i hi⟩
      have f1 := hown2.frozenAt k
      have hex : ∃ u, w2.cell? ⟨g, k, none⟩ = some u := by
        rw [hown2.cellAt k (by omega)]
        have hlen : k < (markSs c k ++ xs.drop k).length := by rw [List.length_append, markSs_length, List.length_drop]; omega
        exact ⟨_, List.getElem?_eq_getElem hlen⟩
      obtain ⟨u, q1⟩ := hex
      have st := hidd (hown2.stored k (.string (mkText (c + (k : Int)))))
      have HG2 := hidd hgr2
      have HS := hidd (markSs_set c k n xs hl hlt)
      generalize mkText (c + (k : Int)) = T at *
      clear hown2 hgr2 hb2 HO1
      go_wp2
      go_roundw
      case rel =>
        refine ⟨k + 1, by omega, by go_num, by go_num, ?_, grown_trans HG2.out st.out.2⟩
        have h := st.out.1
        rw [HS.out] at h
        exact h
      case measure => simp [intOf]; omega
    · have HK : Hid (k = n) := by show k = n; omega
      go_wp2
      go_ret
      obtain rfl := HK.out
      refine ⟨rfl, ?_, hgr⟩
      rw [List.drop_of_length_le (by omega), List.append_nil] at hown
      exact hown

set_option maxHeartbeats 2000000 in
theorem heldStrs_some (base g n cap : Nat) (c : Int) (w : World) (hn : n ≤ 1048576) (h0 : 1 ≤ c) (h1 : c ≤ 1073741824) (hgz : g < w.heap.size) (hown : w.ownsRow base 9 1 (.slice (some ⟨g, 0, none⟩) n cap) n (markSs c n)) :
    Calls Tryd.prog 8 #[.slice (some ⟨g, 0, none⟩) n cap, .int .i64 c] w fun e w' => e = .returned (.int .i64 (c + (n : Int))) ∧ Below w.heap.size w w' := by
  have hc : Hid (∀ j, j < n → w.cell? ⟨g, j, none⟩ = some (.string (mkText (c + (j : Int))))) := fun j hj => by rw [hown.cellAt j (by omega)]; exact markSs_at c n j hj
  clear hown
  go_enter Tryd.func8, Tryd.ntmps8
  go_wp2
  go_loopw [1, 5] (fun cv i wr => ∃ k : Nat, k ≤ n ∧ i = .int .i64 k ∧ cv = .int .i64 (c + (k : Int)) ∧ Below w.heap.size w wr) (fun _ i _ => n - (intOf i).toNat)
  case atStart => exact ⟨0, Nat.zero_le _, rfl, by simp, Below.refl _ _⟩
  case round =>
    obtain ⟨k, hk, rfl, rfl, hbel⟩ := hrel
    by_cases hlt : k < n
    · have q0 : wr.cell? ⟨g, k, none⟩ = some (.string (mkText (c + (k : Int)))) := (hbel.cell (p := ⟨g, k, none⟩) hgz).trans (hc.out k hlt)
      have hz := hbel.size
      have hmt := hidd (fun wx => markText_any (c + (k : Int)) wx (by omega) (by omega))
      generalize mkText (c + (k : Int)) = T at *
      go_wp2
      go_region_with (go_at_call 17; refine (hmt.out _).mono ?_; rintro e' w2 ⟨rfl, hb2⟩; have qa : w2.cell? ⟨g, k, none⟩ = some (.string T) := (hb2.cell (p := ⟨g, k, none⟩) (by show g < wr.heap.size; omega)).trans q0)
      all_goals
        have hb3 : Below w.heap.size w w2 := by first | exact hbel.trans (hb2.mono hz) | exact hbel.drew.trans (hb2.mono hz) | exact hbel.drew.drew.trans (hb2.mono hz) | exact hbel.drew.drew.drew.trans (hb2.mono hz) | exact hbel.drew.drew.drew.drew.trans (hb2.mono hz)
        have HB3 := hidd hb3
        clear hb2 hb3 q0 qa
        go_wp2
        go_roundw
        case rel => exact ⟨k + 1, by omega, by go_num, by go_num, HB3.out⟩
        case measure => simp [intOf]; omega
    · have HK : Hid (k = n) := by show k = n; omega
      go_wp2
      go_ret
      rw [HK.out]
      exact ⟨rfl, hbel⟩

set_option maxHeartbeats 400000 in
theorem eqStrs_zero (a1 a2 : Option Addr) (c1 c2 : Nat) (w : World) :
    Calls Tryd.prog 6 #[.slice a1 0 c1, .slice a2 0 c2] w fun e w' => e = .returned (.bool true) ∧ w' = w := by
  go_enter Tryd.func6, Tryd.ntmps6
  go_wp2
  refine wp_loop_rounds 1 ?_
  rw [rounds_succ]
  go_wp2
  go_ret
  exact ⟨rfl, rfl⟩

set_option maxHeartbeats 400000 in
theorem markStrs_zero (a1 : Option Addr) (c1 : Nat) (c : Int) (w : World) :
    Calls Tryd.prog 7 #[.slice a1 0 c1, .int .i64 c] w fun e w' => e = .returned (.int .i64 c) ∧ w' = w := by
  go_enter Tryd.func7, Tryd.ntmps7
  go_wp2
  refine wp_loop_rounds 1 ?_
  rw [rounds_succ]
  go_wp2
  go_ret
  exact ⟨rfl, rfl⟩

set_option maxHeartbeats 400000 in
theorem heldStrs_zero (a1 : Option Addr) (c1 : Nat) (c : Int) (w : World) :
    Calls Tryd.prog 8 #[.slice a1 0 c1, .int .i64 c] w fun e w' => e = .returned (.int .i64 c) ∧ w' = w := by
  go_enter Tryd.func8, Tryd.ntmps8
  go_wp2
  refine wp_loop_rounds 1 ?_
  rw [rounds_succ]
  go_wp2
  go_ret
  exact ⟨rfl, rfl⟩

theorem eqStrs_own (b1 b2 : Nat) (v1 v2 : Value) (l : List (List UInt8)) (w : World) (hn : l.length ≤ 1048576)
    (h1 : w.ownsRow b1 9 1 v1 l.length (sCells l)) (h2 : w.ownsRow b2 9 1 v2 l.length (sCells l)) :
    Calls Tryd.prog 6 #[v1, v2] w fun e w' => e = .returned (.bool true) ∧ ∃ m, w' = w.drewN m := by
  rcases own_cases h1 with ⟨rfl, hz⟩ | ⟨g1, c1, rfl, _, _⟩
  · rcases own_cases h2 with ⟨rfl, _⟩ | ⟨g2, c2, rfl, _, _⟩
    · exact (eqStrs_zero _ _ _ _ w).mono fun e w' h => ⟨h.1, 0, h.2⟩
    · rw [hz]; exact (eqStrs_zero _ _ _ _ w).mono fun e w' h => ⟨h.1, 0, h.2⟩
  · rcases own_cases h2 with ⟨rfl, hz⟩ | ⟨g2, c2, rfl, _, _⟩
    · rw [hz]; exact (eqStrs_zero _ _ _ _ w).mono fun e w' h => ⟨h.1, 0, h.2⟩
    · exact eqStrs_same g1 c1 g2 c2 l.length l w hn (ownS_cells h1) (ownS_cells h2)

theorem markStrs_own (base n : Nat) (v : Value) (xs : List Value) (c : Int) (w : World) (hn : n ≤ 1048576) (h0 : 1 ≤ c) (h1 : c ≤ 1073741824) (hbz : base ≤ w.heap.size) (h : w.ownsRow base 9 1 v n xs) :
    Calls Tryd.prog 7 #[v, .int .i64 c] w fun e w' => e = .returned (.int .i64 (c + (n : Int))) ∧ w'.ownsRow base 9 1 v n (markSs c n) ∧ w.grownBy w' v.ownBlock := by
  rcases own_cases h with ⟨rfl, rfl⟩ | ⟨g1, c1, rfl, _, hg⟩
  · refine (markStrs_zero _ _ c w).mono fun e w' h' => ?_
    obtain ⟨rfl, rfl⟩ := h'
    exact ⟨by simp, World.ownsRow_nil _ _ _ _, grown_refl _ _⟩
  · exact markStrs_some base g1 n c1 xs c w hn h0 h1 hbz hg h

theorem heldStrs_own (base n : Nat) (v : Value) (c : Int) (w : World) (hn : n ≤ 1048576) (h0 : 1 ≤ c) (h1 : c ≤ 1073741824) (h : w.ownsRow base 9 1 v n (markSs c n)) :
    Calls Tryd.prog 8 #[v, .int .i64 c] w fun e w' => e = .returned (.int .i64 (c + (n : Int))) ∧ Below w.heap.size w w' := by
  rcases own_cases h with ⟨rfl, rfl⟩ | ⟨g1, c1, rfl, _, hg⟩
  · refine (heldStrs_zero _ _ c w).mono fun e w' h' => ?_
    obtain ⟨rfl, rfl⟩ := h'
    exact ⟨by simp, Below.refl _ _⟩
  · exact heldStrs_some base g1 n c1 c w hn h0 h1 hg h
end Go.Proofs.YtebffdfalbjmhaaDoor
