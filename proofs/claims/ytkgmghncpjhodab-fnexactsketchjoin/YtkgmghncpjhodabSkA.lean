import Derived.Test.YtkgmghncpjhodabLeIa
import Derived.Test.YtkgmghncpjhodabToInts
import Derived.Test.YtkgmghncpjhodabOwnInts
import Derived.Test.YtkgmghncpjhodabRgB
namespace Go.Proofs.Ytkgmghncpjhodab
open Go Go.RowKit
set_option linter.unusedVariables false
set_option maxRecDepth 100000

/-! The law's own words on sketches. -/
def szL (left : Int) (n : Nat) : Int := if left < (n : Int) then -1 else left - (n : Int)
theorem szL_ok {left : Int} {n : Nat} (h : ¬ szL left n < 0) : (n : Int) ≤ left := by unfold szL at h; split at h <;> omega
theorem szIntsL_any (ad : Option Addr) (n cap : Nat) (left : Int) (w : World) (h0 : 0 ≤ left) (h1 : left ≤ 1048576) (hn : n ≤ 9223372036854775807) :
    Calls Try.prog 17 #[.slice ad n cap, .int .i64 left] w fun e w' => e = .returned (.int .i64 (szL left n)) ∧ w' = w := by
  by_cases h : left < (n : Int)
  · have HE : Hid (szL left n = -1) := by show _ = _; unfold szL; rw [if_pos h]
    have h1 : left - (n : Int) < 0 := by omega
    go_enter Try.func17, Try.ntmps17
    go_wp2
    go_ret
    rw [HE.out]
    exact ⟨rfl, rfl⟩
  · have HE : Hid (szL left n = left - (n : Int)) := by show _ = _; unfold szL; rw [if_neg h]
    have h1 : ¬ left - (n : Int) < 0 := by omega
    go_enter Try.func17, Try.ntmps17
    go_wp2
    go_ret
    rw [HE.out]
    exact ⟨rfl, rfl⟩
set_option maxHeartbeats 1000000 in
theorem szSketchL_any (ad : Option Addr) (n cap : Nat) (left : Int) (w : World) (h0 : 0 ≤ left) (h1 : left ≤ 1048576) (hn : n ≤ 9223372036854775807) :
    Calls Try.prog 6 #[.agg #[.slice ad n cap], .int .i64 left] w fun e w' => e = .returned (.int .i64 (szL left n)) ∧ Below w.heap.size w w' := by
  have HBa : Hid (Below w.heap.size w (w.alloc (.cells #[.slice ad n cap] 24))) := (Below.refl _ _).alloc (Nat.le_refl _) _
  have hge : -1 ≤ szL left n := by unfold szL; split <;> omega
  have HC : Hid (∀ W, Calls Try.prog 17 #[.slice ad n cap, .int .i64 left] W fun e w' => e = .returned (.int .i64 (szL left n)) ∧ w' = W) := fun W => szIntsL_any ad n cap left W h0 h1 hn
  generalize szL left n = X at *
  go_enter Try.func6, Try.ntmps6
  go_wp2_with fail
  refine (HC.out _).mono ?_
  rintro e w1 ⟨rfl, rfl⟩
  by_cases hX : X < 0
  · obtain rfl : X = -1 := by omega
    go_wp2_with fail
    go_ret
    exact ⟨rfl, HBa.out⟩
  · go_wp2_with fail
    go_ret
    exact ⟨rfl, HBa.out⟩
theorem toInts_hold (v : Value) (zs : List Int) (w : World) (hn : zs.length ≤ 1048576) (h : HoldI w v zs) :
    Calls Try.prog 18 #[v] w fun e w' => e = .returned (.slice (some ⟨w.heap.size, 0, none⟩) zs.length zs.length) ∧ w'.ownsRow w.heap.size 3 1 (.slice (some ⟨w.heap.size, 0, none⟩) zs.length zs.length) zs.length (zI zs) ∧ Below w.heap.size w w' := by
  obtain ⟨ad, cap, rfl, h | ⟨g, off, rfl, hg, hc⟩⟩ := h
  · subst h
    exact toInts_none ad cap w
  · exact toInts_some g off zs.length cap zs w hn rfl hg hc
set_option maxHeartbeats 2000000 in
theorem toSketch_any (v : Value) (zs : List Int) (w : World) (hn : zs.length ≤ 1048576) (h : HoldI w v zs) :
    Calls Try.prog 8 #[.agg #[v]] w fun e w' => ∃ g, e = .returned (.agg #[.slice (some ⟨g, 0, none⟩) zs.length zs.length]) ∧ w.heap.size ≤ g ∧ w'.ownsRow w.heap.size 3 1 (.slice (some ⟨g, 0, none⟩) zs.length zs.length) zs.length (zI zs) ∧ Below w.heap.size w w' := by
  have HH := hidd h
  obtain ⟨ad, cap, rfl, -⟩ := h
  go_enter Try.func8, Try.ntmps8
  go_upto_region 2 with fail
  obtain ⟨W3, hW3⟩ : ∃ W3, ((w.alloc (.cells #[.slice ad zs.length cap] 24)).alloc (.cells #[.slice none 0 0] 27)).alloc (.cells #[.slice none 0 0] 27) = W3 := ⟨_, rfl⟩
  have hk0 : W3.heap[w.heap.size]? = some (.cells #[.slice ad zs.length cap] 24) ∧ W3.heap[w.heap.size + 1]? = some (.cells #[.slice none 0 0] 27) ∧ W3.heap[w.heap.size + 1 + 1]? = some (.cells #[.slice none 0 0] 27) ∧ W3.heap.size = w.heap.size + 3 := by
    rw [← hW3]
    have h2 := box_two w (.cells #[.slice ad zs.length cap] 24) (.cells #[.slice none 0 0] 27)
    refine ⟨?_, ?_, ?_, by simp⟩
    · rw [Below.heap_alloc _ _ _ (by simp; omega)]; exact h2.1
    · rw [Below.heap_alloc _ _ _ (by simp)]; exact h2.2
    · have := heap_alloc_new ((w.alloc (.cells #[.slice ad zs.length cap] 24)).alloc (.cells #[.slice none 0 0] 27)) (.cells #[.slice none 0 0] 27)
      simpa using this
  have HB3 : Hid (Below w.heap.size w W3) := by
    show Below _ _ _
    rw [← hW3]
    exact (((Below.refl _ _).alloc (Nat.le_refl _) _).alloc (by simp) _).alloc (by simp; omega) _
  try rw [hW3]
  clear hW3
  have HK := hidd hk0
  clear hk0
  have q1 : W3.cell? ⟨w.heap.size, 0, none⟩ = some (.slice ad zs.length cap) := blkc HK.out.1 0
  go_wp2_with fail
  refine (toInts_hold _ zs _ hn (HH.out.below HB3.out)).mono ?_
  rintro e w4 ⟨rfl, hown4, hb4⟩
  have Ho4 := hidd hown4
  have hz3 := HK.out.2.2.2
  have k1 := blko HK.out.2.1 hb4
  have k2 := blko HK.out.2.2.1 hb4
  have HB4 := hidd (HB3.out.trans (hb4.mono HB3.out.size))
  have c10 : w4.cell? ⟨w.heap.size + 1, 0, none⟩ = some (.slice none 0 0) := blkc k1 0
  have c20 : w4.cell? ⟨w.heap.size + 1 + 1, 0, none⟩ = some (.slice none 0 0) := blkc k2 0
  have f10 : w4.frozen? ⟨w.heap.size + 1, 0, none⟩ = false := frozen_of_row w4 _ 0 _ _ k1
  have f20 : w4.frozen? ⟨w.heap.size + 1 + 1, 0, none⟩ = false := frozen_of_row w4 _ 0 _ _ k2
  clear hown4 hb4 HB3 q1
  rw [hz3] at Ho4
  clear k1 k2
  go_wp2_with fail
  refine bodyPost_ret (v := .agg #[.slice (some ⟨w.heap.size + 3, 0, none⟩) zs.length zs.length]) (by simp [results, Try.results8, go_sem, *]) rfl ?_
  refine ⟨w.heap.size + 3, rfl, by omega, ?_, ?_⟩
  · refine own_congr (own_mono Ho4.out (by omega)) (fun b hb => ?_)
    have hb' : b = w.heap.size + 3 := by simpa [Value.ownBlock] using hb.symm
    subst hb'
    repeat rw [heap_set_other _ _ _ _ _ (by omega)]
  · iterate 2 refine Below.setCell ?_ (by dsimp only; omega) _
    exact HB4.out
set_option maxHeartbeats 2000000 in
theorem eqSketch_same (b1 b2 : Nat) (v1 v2 : Value) (zs : List Int) (w : World) (hn : zs.length ≤ 1048576)
    (h1 : w.ownsRow b1 3 1 v1 zs.length (zI zs)) (h2 : w.ownsRow b2 3 1 v2 zs.length (zI zs)) :
    Calls Try.prog 10 #[.agg #[v1], .agg #[v2]] w fun e w' => e = .returned (.bool true) ∧ Below w.heap.size w w' := by
  obtain ⟨W, hW⟩ : ∃ W, (w.alloc (.cells #[v1] 27)).alloc (.cells #[v2] 27) = W := ⟨_, rfl⟩
  have hk := box_two w (.cells #[v1] 27) (.cells #[v2] 27)
  have HB : Hid (Below w.heap.size w W) := by
    show Below _ _ _
    rw [← hW]
    exact ((Below.refl _ _).alloc (Nat.le_refl _) _).alloc (by simp) _
  rw [hW] at hk
  have HC := hidd (eqInts_own b1 b2 zs.length v1 v2 zs W hn rfl (own_below h1 HB.out) (own_below h2 HB.out))
  have hv1 : ∃ a1 c1, v1 = .slice a1 zs.length c1 := by
    rcases own_cases h1 with ⟨rfl, h0⟩ | ⟨g, cap, rfl, _, _⟩
    · exact ⟨_, _, by rw [h0]⟩
    · exact ⟨_, _, rfl⟩
  have hv2 : ∃ a1 c1, v2 = .slice a1 zs.length c1 := by
    rcases own_cases h2 with ⟨rfl, h0⟩ | ⟨g, cap, rfl, _, _⟩
    · exact ⟨_, _, by rw [h0]⟩
    · exact ⟨_, _, rfl⟩
  clear h1 h2
  obtain ⟨a1, c1, rfl⟩ := hv1
  obtain ⟨a2, c2, rfl⟩ := hv2
  have x0 := blkc hk.1 0
  have y0 := blkc hk.2 0
  have HK := hidd hk
  clear hk
  simp only [List.getElem?_toArray, List.getElem?_cons_zero] at x0 y0
  go_enter Try.func10, Try.ntmps10
  go_upto_region 1 with fail
  try rw [hW]
  clear hW
  go_wp2_with fail
  refine HC.out.mono ?_
  rintro e w1 ⟨rfl, m, rfl⟩
  go_wp2_with fail
  go_ret
  exact ⟨rfl, below_drewN HB.out m⟩
set_option maxHeartbeats 1000000 in
theorem markSketchL_own (base n : Nat) (v : Value) (xs : List Value) (k : Int) (w : World) (hn : n ≤ 1048576) (hk0 : 0 ≤ k) (hk1 : k ≤ 1099511627776) (h : w.ownsRow base 3 1 v n xs) :
    Calls Try.prog 13 #[.agg #[v], .int .i64 k] w fun e w' => e = .returned (.int .i64 (k + (n : Int))) ∧ w'.ownsRow base 3 1 v n (marks k n) ∧ w.grownBy w' v.ownBlock := by
  have HC := hidd (markInts_own base n v xs k (w.alloc (.cells #[v] 27)) hn hk0 hk1 (h.alloc _))
  have HG : Hid (w.grownBy (w.alloc (.cells #[v] 27)) v.ownBlock) := ⟨rfl, rfl, rfl, by simp, fun i hi _ => Below.heap_alloc _ _ _ hi⟩
  have hv1 : ∃ a1 c1, v = .slice a1 n c1 := by
    rcases own_cases h with ⟨rfl, h0⟩ | ⟨g, cap, rfl, _, _⟩
    · exact ⟨_, _, by rw [h0]⟩
    · exact ⟨_, _, rfl⟩
  clear h
  obtain ⟨a1, c1, rfl⟩ := hv1
  go_enter Try.func13, Try.ntmps13
  go_wp2_with fail
  refine HC.out.mono ?_
  rintro e w1 ⟨rfl, h1, h2⟩
  have H1 := hidd h1
  have H2 := hidd (grown_trans HG.out h2)
  clear h1 h2
  go_wp2_with fail
  go_ret
  exact ⟨rfl, H1.out, H2.out⟩
set_option maxHeartbeats 1000000 in
theorem heldSketch_own (base n : Nat) (v : Value) (w : World) (hn : n ≤ 1048576) (h : w.ownsRow base 3 1 v n (marks 1 n)) :
    Calls Try.prog 14 #[.agg #[v], .int .i64 1] w fun e w' => e = .returned (.int .i64 (1 + (n : Int))) ∧ Below w.heap.size w w' := by
  have HC := hidd (heldInts_own base n v 1 (w.alloc (.cells #[v] 27)) hn (by omega) (by omega) (h.alloc _))
  have HB : Hid (Below w.heap.size w (w.alloc (.cells #[v] 27))) := (Below.refl _ _).alloc (Nat.le_refl _) _
  have hv1 : ∃ a1 c1, v = .slice a1 n c1 := by
    rcases own_cases h with ⟨rfl, h0⟩ | ⟨g, cap, rfl, _, _⟩
    · exact ⟨_, _, by rw [h0]⟩
    · exact ⟨_, _, rfl⟩
  clear h
  obtain ⟨a1, c1, rfl⟩ := hv1
  have hX : ¬ (1 + (n : Int)) < 0 := by omega
  go_enter Try.func14, Try.ntmps14
  go_wp2_with fail
  refine HC.out.mono ?_
  rintro e w1 ⟨rfl, hw1⟩
  obtain rfl := hw1.symm
  clear hw1
  go_wp2_with fail
  go_ret
  exact ⟨rfl, HB.out⟩
end Go.Proofs.Ytkgmghncpjhodab
