import Derived.Test.YtkgmghncpjhodaaLeIa
import Derived.Test.YtkgmghncpjhodaaToInts
import Derived.Test.YtkgmghncpjhodaaOwnInts
import Derived.Test.YtkgmghncpjhodaaDgP
namespace Go.Proofs.Ytkgmghncpjhodaa
open Go Go.RowKit
set_option linter.unusedVariables false
set_option maxRecDepth 100000

/-! The law's own words on digests. -/
def szZ (n : Nat) : Int := if 1048576 < n then -1 else 1048576 - (n : Int)
theorem szInts_any (ad : Option Addr) (n cap : Nat) (w : World) (hn : n ≤ 9223372036854775807) :
    Calls Try.prog 29 #[.slice ad n cap, .int .i64 1048576] w fun e w' => e = .returned (.int .i64 (szZ n)) ∧ w' = w := by
  by_cases h : 1048576 < n
  · have HE : Hid (szZ n = -1) := by show _ = _; unfold szZ; rw [if_pos h]
    have h1 : (1048576 : Int) - (n : Int) < 0 := by omega
    go_enter Try.func29, Try.ntmps29
    go_wp2
    go_ret
    rw [HE.out]
    exact ⟨rfl, rfl⟩
  · have HE : Hid (szZ n = 1048576 - (n : Int)) := by show _ = _; unfold szZ; rw [if_neg h]
    have h1 : ¬ (1048576 : Int) - (n : Int) < 0 := by omega
    go_enter Try.func29, Try.ntmps29
    go_wp2
    go_ret
    rw [HE.out]
    exact ⟨rfl, rfl⟩
set_option maxHeartbeats 1000000 in
theorem szDigest_any (s p c : Int) (ad : Option Addr) (n cap : Nat) (w : World) (hn : n ≤ 9223372036854775807) :
    Calls Try.prog 9 #[.agg #[.int .i64 s, .int .i64 p, .int .i64 c, .slice ad n cap], .int .i64 1048576] w fun e w' => e = .returned (.int .i64 (szZ n)) ∧ Below w.heap.size w w' := by
  have HBa : Hid (Below w.heap.size w (w.alloc (.cells #[.int .i64 s, .int .i64 p, .int .i64 c, .slice ad n cap] 24))) := (Below.refl _ _).alloc (Nat.le_refl _) _
  have hge : -1 ≤ szZ n := by unfold szZ; split <;> omega
  have HC : Hid (∀ W, Calls Try.prog 29 #[.slice ad n cap, .int .i64 1048576] W fun e w' => e = .returned (.int .i64 (szZ n)) ∧ w' = W) := fun W => szInts_any ad n cap W hn
  generalize szZ n = X at *
  go_enter Try.func9, Try.ntmps9
  go_wp2_with fail
  refine (HC.out _).mono ?_
  rintro e w1 ⟨rfl, rfl⟩
  by_cases hX : X < 0
  · obtain rfl : X = -1 := by omega
    go_wp2_with fail
    go_ret
    exact ⟨rfl, HBa.out⟩
  · go_wp2_with fail
    go_ret
    exact ⟨rfl, HBa.out⟩
theorem toInts_hold (v : Value) (zs : List Int) (w : World) (hn : zs.length ≤ 1048576) (h : HoldI w v zs) :
    Calls Try.prog 23 #[v] w fun e w' => e = .returned (.slice (some ⟨w.heap.size, 0, none⟩) zs.length zs.length) ∧ w'.ownsRow w.heap.size 3 1 (.slice (some ⟨w.heap.size, 0, none⟩) zs.length zs.length) zs.length (zI zs) ∧ Below w.heap.size w w' := by
  obtain ⟨ad, cap, rfl, h | ⟨g, off, rfl, hg, hc⟩⟩ := h
  · subst h
    exact toInts_none ad cap w
  · exact toInts_some g off zs.length cap zs w hn rfl hg hc
set_option maxHeartbeats 2000000 in
theorem toDigest_any (s p c : Int) (v : Value) (zs : List Int) (w : World) (hn : zs.length ≤ 1048576) (h : HoldI w v zs) :
    Calls Try.prog 11 #[.agg #[.int .i64 s, .int .i64 p, .int .i64 c, v]] w fun e w' => ∃ g, e = .returned (.agg #[.int .i64 s, .int .i64 p, .int .i64 c, .slice (some ⟨g, 0, none⟩) zs.length zs.length]) ∧ w.heap.size ≤ g ∧ w'.ownsRow w.heap.size 3 1 (.slice (some ⟨g, 0, none⟩) zs.length zs.length) zs.length (zI zs) ∧ Below w.heap.size w w' := by
  have HH := hidd h
  obtain ⟨ad, cap, rfl, -⟩ := h
  go_enter Try.func11, Try.ntmps11
  go_upto_region 5 with fail
  obtain ⟨W3, hW3⟩ : ∃ W3, ((w.alloc (.cells #[.int .i64 s, .int .i64 p, .int .i64 c, .slice ad zs.length cap] 24)).alloc (.cells #[.int .i64 0, .int .i64 0, .int .i64 0, .slice none 0 0] 27)).alloc (.cells #[.int .i64 s, .int .i64 p, .int .i64 c, .slice none 0 0] 27) = W3 := ⟨_, rfl⟩
  have hk0 : W3.heap[w.heap.size]? = some (.cells #[.int .i64 s, .int .i64 p, .int .i64 c, .slice ad zs.length cap] 24) ∧ W3.heap[w.heap.size + 1]? = some (.cells #[.int .i64 0, .int .i64 0, .int .i64 0, .slice none 0 0] 27) ∧ W3.heap[w.heap.size + 1 + 1]? = some (.cells #[.int .i64 s, .int .i64 p, .int .i64 c, .slice none 0 0] 27) ∧ W3.heap.size = w.heap.size + 3 := by
    rw [← hW3]
    have h2 := box_two w (.cells #[.int .i64 s, .int .i64 p, .int .i64 c, .slice ad zs.length cap] 24) (.cells #[.int .i64 0, .int .i64 0, .int .i64 0, .slice none 0 0] 27)
    refine ⟨?_, ?_, ?_, by simp⟩
    · rw [Below.heap_alloc _ _ _ (by simp; omega)]; exact h2.1
    · rw [Below.heap_alloc _ _ _ (by simp)]; exact h2.2
    · have := heap_alloc_new ((w.alloc (.cells #[.int .i64 s, .int .i64 p, .int .i64 c, .slice ad zs.length cap] 24)).alloc (.cells #[.int .i64 0, .int .i64 0, .int .i64 0, .slice none 0 0] 27)) (.cells #[.int .i64 s, .int .i64 p, .int .i64 c, .slice none 0 0] 27)
      simpa using this
  have HB3 : Hid (Below w.heap.size w W3) := by
    show Below _ _ _
    rw [← hW3]
    exact (((Below.refl _ _).alloc (Nat.le_refl _) _).alloc (by simp) _).alloc (by simp; omega) _
  try rw [hW3]
  clear hW3
  have HK := hidd hk0
  clear hk0
  have q1 : W3.cell? ⟨w.heap.size, 3, none⟩ = some (.slice ad zs.length cap) := blkc HK.out.1 3
  go_wp2_with fail
  refine (toInts_hold _ zs _ hn (HH.out.below HB3.out)).mono ?_
  rintro e w4 ⟨rfl, hown4, hb4⟩
  have Ho4 := hidd hown4
  have hz3 := HK.out.2.2.2
  have k1 := blko HK.out.2.1 hb4
  have k2 := blko HK.out.2.2.1 hb4
  have HB4 := hidd (HB3.out.trans (hb4.mono HB3.out.size))
  have c10 : w4.cell? ⟨w.heap.size + 1, 0, none⟩ = some (.int .i64 0) := blkc k1 0
  have c11 : w4.cell? ⟨w.heap.size + 1, 1, none⟩ = some (.int .i64 0) := blkc k1 1
  have c12 : w4.cell? ⟨w.heap.size + 1, 2, none⟩ = some (.int .i64 0) := blkc k1 2
  have c13 : w4.cell? ⟨w.heap.size + 1, 3, none⟩ = some (.slice none 0 0) := blkc k1 3
  have c20 : w4.cell? ⟨w.heap.size + 1 + 1, 0, none⟩ = some (.int .i64 s) := blkc k2 0
  have c21 : w4.cell? ⟨w.heap.size + 1 + 1, 1, none⟩ = some (.int .i64 p) := blkc k2 1
  have c22 : w4.cell? ⟨w.heap.size + 1 + 1, 2, none⟩ = some (.int .i64 c) := blkc k2 2
  have c23 : w4.cell? ⟨w.heap.size + 1 + 1, 3, none⟩ = some (.slice none 0 0) := blkc k2 3
  have f10 : w4.frozen? ⟨w.heap.size + 1, 0, none⟩ = false := frozen_of_row w4 _ 0 _ _ k1
  have f11 : w4.frozen? ⟨w.heap.size + 1, 1, none⟩ = false := frozen_of_row w4 _ 1 _ _ k1
  have f12 : w4.frozen? ⟨w.heap.size + 1, 2, none⟩ = false := frozen_of_row w4 _ 2 _ _ k1
  have f13 : w4.frozen? ⟨w.heap.size + 1, 3, none⟩ = false := frozen_of_row w4 _ 3 _ _ k1
  have f23 : w4.frozen? ⟨w.heap.size + 1 + 1, 3, none⟩ = false := frozen_of_row w4 _ 3 _ _ k2
  clear hown4 hb4 HB3 q1
  rw [hz3] at Ho4
  clear k1 k2
  go_wp2_with fail
  refine bodyPost_ret (v := .agg #[.int .i64 s, .int .i64 p, .int .i64 c, .slice (some ⟨w.heap.size + 3, 0, none⟩) zs.length zs.length]) (by simp [results, Try.results11, go_sem, *]) rfl ?_
  refine ⟨w.heap.size + 3, rfl, by omega, ?_, ?_⟩
  · refine own_congr (own_mono Ho4.out (by omega)) (fun b hb => ?_)
    have hb' : b = w.heap.size + 3 := by simpa [Value.ownBlock] using hb.symm
    subst hb'
    repeat rw [heap_set_other _ _ _ _ _ (by omega)]
  · iterate 5 refine Below.setCell ?_ (by dsimp only; omega) _
    exact HB4.out
set_option maxHeartbeats 2000000 in
theorem eqDigest_same (s p c : Int) (b1 b2 : Nat) (v1 v2 : Value) (zs : List Int) (w : World) (hn : zs.length ≤ 1048576)
    (h1 : w.ownsRow b1 3 1 v1 zs.length (zI zs)) (h2 : w.ownsRow b2 3 1 v2 zs.length (zI zs)) :
    Calls Try.prog 13 #[.agg #[.int .i64 s, .int .i64 p, .int .i64 c, v1], .agg #[.int .i64 s, .int .i64 p, .int .i64 c, v2]] w fun e w' => e = .returned (.bool true) ∧ Below w.heap.size w w' := by
  have hss : (s != s) = false := by simp
  have hpp : (p != p) = false := by simp
  have hcc : (c != c) = false := by simp
  obtain ⟨W, hW⟩ : ∃ W, (w.alloc (.cells #[.int .i64 s, .int .i64 p, .int .i64 c, v1] 27)).alloc (.cells #[.int .i64 s, .int .i64 p, .int .i64 c, v2] 27) = W := ⟨_, rfl⟩
  have hk := box_two w (.cells #[.int .i64 s, .int .i64 p, .int .i64 c, v1] 27) (.cells #[.int .i64 s, .int .i64 p, .int .i64 c, v2] 27)
  have HB : Hid (Below w.heap.size w W) := by
    show Below _ _ _
    rw [← hW]
    exact ((Below.refl _ _).alloc (Nat.le_refl _) _).alloc (by simp) _
  rw [hW] at hk
  have HC := hidd (eqInts_own b1 b2 zs.length v1 v2 zs W hn rfl (own_below h1 HB.out) (own_below h2 HB.out))
  have hv1 : ∃ a1 c1, v1 = .slice a1 zs.length c1 := by
    rcases own_cases h1 with ⟨rfl, h0⟩ | ⟨g, cap, rfl, _, _⟩
    · exact ⟨_, _, by rw [h0]⟩
    · exact ⟨_, _, rfl⟩
  have hv2 : ∃ a1 c1, v2 = .slice a1 zs.length c1 := by
    rcases own_cases h2 with ⟨rfl, h0⟩ | ⟨g, cap, rfl, _, _⟩
    · exact ⟨_, _, by rw [h0]⟩
    · exact ⟨_, _, rfl⟩
  clear h1 h2
  obtain ⟨a1, c1, rfl⟩ := hv1
  obtain ⟨a2, c2, rfl⟩ := hv2
  have x0 := blkc hk.1 0
  have x1 := blkc hk.1 1
  have x2 := blkc hk.1 2
  have x3 := blkc hk.1 3
  have y0 := blkc hk.2 0
  have y1 := blkc hk.2 1
  have y2 := blkc hk.2 2
  have y3 := blkc hk.2 3
  have HK := hidd hk
  clear hk
  simp only [List.getElem?_toArray, List.getElem?_cons_zero, List.getElem?_cons_succ] at x0 x1 x2 x3 y0 y1 y2 y3
  go_enter Try.func13, Try.ntmps13
  go_upto_region 1 with fail
  try rw [hW]
  clear hW
  go_wp2_with fail
  refine HC.out.mono ?_
  rintro e w1 ⟨rfl, m, rfl⟩
  go_wp2_with fail
  go_ret
  exact ⟨rfl, below_drewN HB.out m⟩
set_option maxHeartbeats 1000000 in
theorem markDigest_own (s p c : Int) (base : Nat) (v : Value) (zs : List Int) (w : World) (hn : zs.length ≤ 1048576) (h : w.ownsRow base 3 1 v zs.length (zI zs)) :
    Calls Try.prog 20 #[.agg #[.int .i64 s, .int .i64 p, .int .i64 c, v], .int .i64 1] w fun e w' => e = .returned (.int .i64 (1 + (zs.length : Int))) ∧ w'.ownsRow base 3 1 v zs.length (marks 1 zs.length) ∧ w.grownBy w' v.ownBlock := by
  have HC := hidd (markInts_own base zs.length v (zI zs) 1 (w.alloc (.cells #[.int .i64 s, .int .i64 p, .int .i64 c, v] 27)) hn (by omega) (by omega) (h.alloc _))
  have HG : Hid (w.grownBy (w.alloc (.cells #[.int .i64 s, .int .i64 p, .int .i64 c, v] 27)) v.ownBlock) := ⟨rfl, rfl, rfl, by simp, fun i hi _ => Below.heap_alloc _ _ _ hi⟩
  have hv1 : ∃ a1 c1, v = .slice a1 zs.length c1 := by
    rcases own_cases h with ⟨rfl, h0⟩ | ⟨g, cap, rfl, _, _⟩
    · exact ⟨_, _, by rw [h0]⟩
    · exact ⟨_, _, rfl⟩
  clear h
  obtain ⟨a1, c1, rfl⟩ := hv1
  go_enter Try.func20, Try.ntmps20
  go_wp2_with fail
  refine HC.out.mono ?_
  rintro e w1 ⟨rfl, h1, h2⟩
  have H1 := hidd h1
  have H2 := hidd (grown_trans HG.out h2)
  clear h1 h2
  go_wp2_with fail
  go_ret
  exact ⟨rfl, H1.out, H2.out⟩
set_option maxHeartbeats 1000000 in
theorem heldDigest_own (s p c : Int) (base n : Nat) (v : Value) (w : World) (hn : n ≤ 1048576) (h : w.ownsRow base 3 1 v n (marks 1 n)) :
    Calls Try.prog 21 #[.agg #[.int .i64 s, .int .i64 p, .int .i64 c, v], .int .i64 1] w fun e w' => e = .returned (.int .i64 (1 + (n : Int))) ∧ Below w.heap.size w w' := by
  have HC := hidd (heldInts_own base n v 1 (w.alloc (.cells #[.int .i64 s, .int .i64 p, .int .i64 c, v] 27)) hn (by omega) (by omega) (h.alloc _))
  have HB : Hid (Below w.heap.size w (w.alloc (.cells #[.int .i64 s, .int .i64 p, .int .i64 c, v] 27))) := (Below.refl _ _).alloc (Nat.le_refl _) _
  have hv1 : ∃ a1 c1, v = .slice a1 n c1 := by
    rcases own_cases h with ⟨rfl, h0⟩ | ⟨g, cap, rfl, _, _⟩
    · exact ⟨_, _, by rw [h0]⟩
    · exact ⟨_, _, rfl⟩
  clear h
  obtain ⟨a1, c1, rfl⟩ := hv1
  have hX : ¬ (1 + (n : Int)) < 0 := by omega
  go_enter Try.func21, Try.ntmps21
  go_wp2_with fail
  refine HC.out.mono ?_
  rintro e w1 ⟨rfl, hw1⟩
  obtain rfl := hw1.symm
  clear hw1
  go_wp2_with fail
  go_ret
  exact ⟨rfl, HB.out⟩
end Go.Proofs.Ytkgmghncpjhodaa
