import Derived.Test.YtboocdiilbcdcaaDoorProg
import Derived.Test.YtboocdiilbcdcaaDoorOwn
import Derived.WalkLawsBesides
import Derived.BigQuiet
import Derived.Deep.QuietTactic
namespace Go.Proofs.YtboocdiilbcdcaaDoor
open Go Go.RowKit
set_option linter.unusedVariables false

def marks (c : Int) (n : Nat) : List Value := (List.range n).map fun (i : Nat) => Value.int .i64 (c + (i : Int))
theorem marks_length (c : Int) (n : Nat) : (marks c n).length = n := by simp [marks]
theorem marks_at (c : Int) (n j : Nat) (h : j < n) : (marks c n)[j]? = some (Value.int .i64 (c + (j : Int))) := by simp [marks, h]
theorem marks_set (c : Int) (k n : Nat) (xs : List Value) (hl : xs.length = n) (hk : k < n) : (marks c k ++ xs.drop k).set k (.int .i64 (c + (k : Int))) = marks c (k + 1) ++ xs.drop (k + 1) := by
  have e : (marks c k).length = k := marks_length c k
  rw [List.set_append_right _ _ (by omega), e, Nat.sub_self]
  have hd : xs.drop k = xs[k] :: xs.drop (k + 1) := by rw [List.drop_eq_getElem_cons (by omega)]
  rw [hd, List.set_cons_zero]
  simp [marks, List.range_succ]
set_option maxHeartbeats 400000 in
theorem markInts_some (base g n cap : Nat) (xs : List Value) (c : Int) (w : World) (hn : n ≤ 1048576) (h0 : 0 ≤ c) (h1 : c ≤ 1099511627776) (hown : w.ownsRow base 3 1 (.slice (some ⟨g, 0, none⟩) n cap) n xs) :
    Calls Tryd.prog 35 #[.slice (some ⟨g, 0, none⟩) n cap, .int .i64 c] w fun e w' => e = .returned (.int .i64 (c + (n : Int))) ∧
      w'.ownsRow base 3 1 (.slice (some ⟨g, 0, none⟩) n cap) n (marks c n) ∧ w.grownBy w' (some g) := by
  have hl : xs.length = n := by have := hown.1; omega
  have HO := hidd hown
  clear hown
  go_enter Tryd.func35, Tryd.ntmps35
  go_wp2
  go_loopw [1, 5] (fun cv i wr => ∃ k : Nat, k ≤ n ∧ i = .int .i64 k ∧ cv = .int .i64 (c + (k : Int)) ∧ wr.ownsRow base 3 1 (.slice (some ⟨g, 0, none⟩) n cap) n (marks c k ++ xs.drop k) ∧ w.grownBy wr (some g)) (fun _ i _ => n - (intOf i).toNat)
  case atStart => exact ⟨0, Nat.zero_le _, rfl, by simp, by simpa [marks] using HO.out, grown_refl _ _⟩
  case round =>
    obtain ⟨k, hk, rfl, rfl, hown, hgr⟩ := hrel
    by_cases hlt : k < n
    · have f1 := hown.frozenAt k
      have hex : ∃ u, wr.cell? ⟨g, k, none⟩ = some u := by
        rw [hown.cellAt k (by omega)]
        have hlen : k < (marks c k ++ xs.drop k).length := by rw [List.length_append, marks_length, List.length_drop]; omega
        exact ⟨_, List.getElem?_eq_getElem hlen⟩
      obtain ⟨u, q1⟩ := hex
      have st := hidd (hown.stored k (.int .i64 (c + (k : Int))))
      clear hown
      go_wp2
      go_roundw
      case rel =>
        refine ⟨k + 1, by omega, by go_num, by go_num, ?_, grown_trans hgr st.out.2⟩
        have h := st.out.1
        rw [marks_set c k n xs hl hlt] at h
        exact h
      case measure => simp [intOf]; omega
    · have HK : Hid (k = n) := by show k = n; omega
      go_wp2
      go_ret
      obtain rfl := HK.out
      refine ⟨rfl, ?_, hgr⟩
      rw [List.drop_of_length_le (by omega), List.append_nil] at hown
      exact hown

set_option maxHeartbeats 400000 in
theorem heldInts_some (base g n cap : Nat) (c : Int) (w : World) (hn : n ≤ 1048576) (h0 : 0 ≤ c) (h1 : c ≤ 1099511627776) (hown : w.ownsRow base 3 1 (.slice (some ⟨g, 0, none⟩) n cap) n (marks c n)) :
    Calls Tryd.prog 36 #[.slice (some ⟨g, 0, none⟩) n cap, .int .i64 c] w fun e w' => e = .returned (.int .i64 (c + (n : Int))) ∧ w' = w := by
  have hc : Hid (∀ j, j < n → w.cell? ⟨g, j, none⟩ = some (.int .i64 (c + (j : Int)))) := fun j hj => by rw [hown.cellAt j (by omega)]; exact marks_at c n j hj
  clear hown
  go_enter Tryd.func36, Tryd.ntmps36
  go_wp2
  go_loop [1, 5] (fun cv i => ∃ k : Nat, k ≤ n ∧ i = .int .i64 k ∧ cv = .int .i64 (c + (k : Int))) (fun _ i => n - (intOf i).toNat)
  case atStart => exact ⟨0, Nat.zero_le _, rfl, by simp⟩
  case round =>
    obtain ⟨k, hk, rfl, rfl⟩ := hrel
    by_cases hlt : k < n
    · have q1 := hc.out k hlt
      go_wp2
      go_round
      case rel => exact ⟨k + 1, by omega, by go_num, by go_num⟩
      case measure => simp [intOf]; omega
    · have HK : Hid (k = n) := by show k = n; omega
      go_wp2
      go_ret
      rw [HK.out]
      exact ⟨rfl, rfl⟩
end Go.Proofs.YtboocdiilbcdcaaDoor
