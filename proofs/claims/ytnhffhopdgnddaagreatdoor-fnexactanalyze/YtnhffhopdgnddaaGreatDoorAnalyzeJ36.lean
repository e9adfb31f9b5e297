import Derived.Test.YtnhffhopdgnddaaGreatDoorAnalyzeJ02
import Derived.Test.YtnhffhopdgnddaaGreatDoorAnalyzeJ10
namespace Go.Proofs.YtnhffhopdgnddaaGreatDoor
open Go Go.RowKit
set_option linter.unusedVariables false
set_option maxRecDepth 100000

/-- A row of at least n cells. -/
def RowM (w : World) (g n : Nat) (ty : TypeId) : Prop := ∃ cur, w.heap[g]? = some (Obj.cells cur ty) ∧ n ≤ cur.size
theorem RowM.cell {W : World} {b n : Nat} {ty : TypeId} (h : RowM W b n ty) {j : Nat} (hj : j < n) : (∃ u, W.cell? ⟨b, j, none⟩ = some u) ∧ W.frozen? ⟨b, j, none⟩ = false := by
  obtain ⟨cur, h1, h2⟩ := h
  refine ⟨⟨cur[j]'(by omega), ?_⟩, frozen_of_row W b j _ _ h1⟩
  rw [blkc h1 j]
  exact Array.getElem?_eq_getElem (by omega)
theorem RowM.keep {w w' : World} {g n : Nat} {ty : TypeId} (h : RowM w g n ty) (hk : w'.heap[g]? = w.heap[g]?) : RowM w' g n ty := by
  obtain ⟨cur, h1, h2⟩ := h
  exact ⟨cur, hk.trans h1, h2⟩
theorem RowM.lt {w : World} {g n : Nat} {ty : TypeId} (h : RowM w g n ty) : g < w.heap.size := by
  obtain ⟨cur, h1, h2⟩ := h
  exact (Array.getElem?_eq_some_iff.1 h1).1
theorem RowM.below {w w' : World} {g n : Nat} {ty : TypeId} (h : RowM w g n ty) (hb : Below w.heap.size w w') : RowM w' g n ty := h.keep (hb.block g h.lt)
theorem RowM.set {w : World} {g n : Nat} {ty : TypeId} (h : RowM w g n ty) (j : Nat) (u : Value) : RowM (w.setCell ⟨g, j, none⟩ u) g n ty := by
  obtain ⟨cur, h1, h2⟩ := h
  exact ⟨cur.setIfInBounds j u, blk_setk h1 j u, by rw [Array.size_setIfInBounds]; exact h2⟩
theorem But.below_r {X : Nat → Prop} {a b c : World} (h : But X a b) (hb : Below b.heap.size b c) : But X a c := h.trans (But.of_below (X := X) hb) (fun _ _ h => h) (fun _ _ h => h)

set_option maxHeartbeats 2000000 in
theorem markStrs_any (b n c : Nat) (w : World) (hn : n ≤ 1048576) (hr : RowM w b n 9) :
    Calls Tryz.prog 51 #[.slice (some ⟨b, 0, none⟩) n c, .int .i64 1] w fun e w' => e = .returned (.int .i64 ((1 + n : Nat) : Int)) ∧ But (fun x => x = b) w w' := by
  have HR := hidd hr
  clear hr
  go_enter Tryz.func51, Tryz.ntmps51
  go_wp2
  go_loopw [1, 5] (fun kv iv wr => ∃ i : Nat, i ≤ n ∧ iv = .int .i64 (i : Int) ∧ kv = .int .i64 ((1 + i : Nat) : Int) ∧ But (fun x => x = b) w wr ∧ RowM wr b n 9) (fun _ iv _ => n - (intOf iv).toNat)
  case atStart => exact ⟨0, Nat.zero_le _, rfl, by simp, But.refl _ _, HR.out⟩
  case round =>
    obtain ⟨i, hi, rfl, rfl, hfz, hrn⟩ := hrel
    have HF := hidd hfz
    have HRn := hidd hrn
    clear hfz hrn
    by_cases hlt : i < n
    · have hltz : (i : Int) < (n : Int) := by omega
      obtain ⟨K, hK⟩ : ∃ K, 1 + i = K := ⟨_, rfl⟩
      have HK := hidd hK
      have hK0 : 1 ≤ K := by omega
      have hKl : K ≤ 1048577 := by omega
      try rw [hK]
      clear hK
      have HM := hidd (markText_any (K : Int) wr (by omega) (by omega))
      generalize mkText (K : Int) = T at HM
      go_wp2_with fail
      refine HM.out.mono ?_
      rintro e w2 ⟨rfl, hb2⟩
      have hr2 : RowM w2 b n 9 := HRn.out.below hb2
      obtain ⟨⟨u0, q0⟩, f0⟩ := hr2.cell hlt
      have HS : Hid (But (fun x => x = b) w (w2.setCell ⟨b, i, none⟩ (.string T))) := (HF.out.below_r hb2).set b i _ rfl
      have HS2 := hidd (hr2.set i (.string T))
      clear hb2 HM hr2
      dsimp only
      go_wp2_with fail
      go_roundw
      case rel =>
        refine ⟨i + 1, by omega, by go_num, ?_, HS.out, HS2.out⟩
        have := HK.out
        first | (congr 1; omega) | go_num
      case measure => simp [intOf]; omega
    · have hltz : ¬ (i : Int) < (n : Int) := by omega
      obtain rfl : i = n := by omega
      go_wp2
      go_ret
      exact ⟨rfl, HF.out⟩

set_option maxHeartbeats 4000000 in
theorem markSyns_any (b n c K0 : Nat) (w : World) (hn : n ≤ 1048576) (h0 : 1 ≤ K0) (h1 : K0 ≤ 1048577) (hr : RowM w b (n * 2) 70) :
    Calls Tryz.prog 52 #[.slice (some ⟨b, 0, none⟩) n c, .int .i64 (K0 : Int)] w fun e w' => e = .returned (.int .i64 ((K0 + n * 2 : Nat) : Int)) ∧ But (fun x => x = b) w w' := by
  have HR := hidd hr
  clear hr
  go_enter Tryz.func52, Tryz.ntmps52
  go_wp2
  go_loopw [1, 5] (fun kv iv wr => ∃ i : Nat, i ≤ n ∧ iv = .int .i64 (i : Int) ∧ kv = .int .i64 ((K0 + i * 2 : Nat) : Int) ∧ But (fun x => x = b) w wr ∧ RowM wr b (n * 2) 70) (fun _ iv _ => n - (intOf iv).toNat)
  case atStart => exact ⟨0, Nat.zero_le _, rfl, by simp, But.refl _ _, HR.out⟩
  case round =>
    obtain ⟨i, hi, rfl, rfl, hfz, hrn⟩ := hrel
    have HF := hidd hfz
    have HRn := hidd hrn
    clear hfz hrn
    by_cases hlt : i < n
    · have hltz : (i : Int) < (n : Int) := by omega
      obtain ⟨K, hK⟩ : ∃ K, K0 + i * 2 = K := ⟨_, rfl⟩
      have HK := hidd hK
      have hK0 : 1 ≤ K := by omega
      have hKl : K ≤ 8388608 := by omega
      try rw [hK]
      clear hK
      have HM := hidd (markText_any (K : Int) wr (by omega) (by omega))
      have HM2 : Hid (∀ W, Calls Tryz.prog 53 #[.int .i64 ((K : Int) + 1)] W fun e w' => e = .returned (.string (mkText ((K : Int) + 1))) ∧ Below W.heap.size W w') := fun W => markText_any ((K : Int) + 1) W (by omega) (by omega)
      generalize mkText (K : Int) = T at HM
      generalize mkText ((K : Int) + 1) = T2 at HM2
      go_upto_region 4 with fail
      go_upto_region 5 with (go_at_call 53; refine HM.out.mono ?_; rintro e w2 ⟨rfl, hb2⟩; have hr2 := HRn.out.below hb2; obtain ⟨⟨u0, q0⟩, f0⟩ := hr2.cell (show i * 2 < n * 2 by omega))
      have HS : Hid (But (fun x => x = b) w (w2.setCell ⟨b, i * 2, none⟩ (.string T))) := (HF.out.below_r hb2).set b (i * 2) _ rfl
      have HS2 := hidd (hr2.set (i * 2) (.string T))
      clear hb2 HM hr2 q0 f0
      generalize w2.setCell ⟨b, i * 2, none⟩ (.string T) = w3 at *
      go_upto_region 6 with fail
      go_upto_region 7 with (go_at_call 53; refine (HM2.out _).mono ?_; rintro e w4 ⟨rfl, hb4⟩; have hr4 := HS2.out.below hb4; obtain ⟨⟨u1, q1⟩, f1⟩ := hr4.cell (show i * 2 + 1 < n * 2 by omega))
      have HS3 : Hid (But (fun x => x = b) w (w4.setCell ⟨b, i * 2 + 1, none⟩ (.string T2))) := (HS.out.below_r hb4).set b (i * 2 + 1) _ rfl
      have HS4 := hidd (hr4.set (i * 2 + 1) (.string T2))
      clear hb4 HM2 hr4 q1 f1
      generalize w4.setCell ⟨b, i * 2 + 1, none⟩ (.string T2) = w5 at *
      go_wp2_with fail
      go_roundw
      case rel =>
        refine ⟨i + 1, by omega, by go_num, ?_, HS3.out, HS4.out⟩
        have := HK.out
        first | (congr 1; omega) | go_num
      case measure => simp [intOf]; omega
    · have hltz : ¬ (i : Int) < (n : Int) := by omega
      obtain rfl : i = n := by omega
      go_wp2
      go_ret
      exact ⟨rfl, HF.out⟩

set_option maxHeartbeats 4000000 in
theorem markAz_any (bf bsm bp : Bool) (g1 g2 n1 n2 c1 c2 : Nat) (lo hi : Int) (w : World) (hn1 : n1 ≤ 1048576) (hn2 : n2 ≤ 1048576) (hr1 : RowM w g1 n1 9) (hr2 : RowM w g2 (n2 * 2) 70) (hne : g1 ≠ g2) :
    Calls Tryz.prog 16 #[.agg #[.bool bf, .bool bsm, .bool bp, .slice (some ⟨g1, 0, none⟩) n1 c1, .slice (some ⟨g2, 0, none⟩) n2 c2, .int .i64 lo, .int .i64 hi], .int .i64 1] w fun e w' => e = .returned (.int .i64 ((1 + n1 + n2 * 2 : Nat) : Int)) ∧ But (fun x => x = g1 ∨ x = g2) w w' := by
  have HB : Hid (Below w.heap.size w (w.alloc (.cells #[.bool bf, .bool bsm, .bool bp, .slice (some ⟨g1, 0, none⟩) n1 c1, .slice (some ⟨g2, 0, none⟩) n2 c2, .int .i64 lo, .int .i64 hi] 26))) := (Below.refl _ _).alloc (Nat.le_refl _) _
  have hblk : (w.alloc (.cells #[.bool bf, .bool bsm, .bool bp, .slice (some ⟨g1, 0, none⟩) n1 c1, .slice (some ⟨g2, 0, none⟩) n2 c2, .int .i64 lo, .int .i64 hi] 26)).heap[w.heap.size]? = some (.cells #[.bool bf, .bool bsm, .bool bp, .slice (some ⟨g1, 0, none⟩) n1 c1, .slice (some ⟨g2, 0, none⟩) n2 c2, .int .i64 lo, .int .i64 hi] 26) := heap_alloc_new _ _
  have Hblk := hidd hblk
  have hl1 := hr1.lt
  have hl2 := hr2.lt
  have HR1 := hidd (hr1.below HB.out)
  have HR2 := hidd (hr2.below HB.out)
  clear hblk hr1 hr2
  go_enter Tryz.func16, Tryz.ntmps16
  go_upto_region 1 with fail
  generalize w.alloc (.cells #[.bool bf, .bool bsm, .bool bp, .slice (some ⟨g1, 0, none⟩) n1 c1, .slice (some ⟨g2, 0, none⟩) n2 c2, .int .i64 lo, .int .i64 hi] 26) = wa at *
  have q3 : wa.cell? ⟨w.heap.size, 3, none⟩ = some (.slice (some ⟨g1, 0, none⟩) n1 c1) := blkc Hblk.out 3
  have hza := HB.out.size
  have hzb : w.heap.size < wa.heap.size := (Array.getElem?_eq_some_iff.1 Hblk.out).1
  go_upto_region 2 with (go_at_call 51; refine (markStrs_any g1 n1 c1 wa hn1 HR1.out).mono ?_; rintro e w2 ⟨rfl, hb2⟩)
  have HB2 := hidd hb2
  have q4 : w2.cell? ⟨w.heap.size, 4, none⟩ = some (.slice (some ⟨g2, 0, none⟩) n2 c2) := blkc ((HB2.out.block _ hzb (by omega)).trans Hblk.out) 4
  have HR3 := hidd (HR2.out.keep (HB2.out.block g2 HR2.out.lt (fun e => hne e.symm)))
  clear hb2 q3
  obtain ⟨K, hK⟩ : ∃ K, 1 + n1 = K := ⟨_, rfl⟩
  have hKz : (1 + (n1 : Int)) = (K : Int) := by omega
  rw [hKz]
  have HK := hidd hK
  clear hKz
  have hK1 : 1 ≤ K := by omega
  have hK2 : K ≤ 1048577 := by omega
  clear hK
  go_wp2_with (go_at_call 52; refine (markSyns_any g2 n2 c2 K w2 hn2 hK1 hK2 HR3.out).mono ?_; rintro e w3 ⟨rfl, hb3⟩)
  go_ret
  refine ⟨by rw [HK.out]; show Ending.returned (Value.int .i64 ((K : Int) + (n2 : Int) * 2)) = _; congr 2, (But.of_below HB.out).trans (HB2.out.trans hb3 (Z := fun x => x = g1 ∨ x = g2) (fun _ _ h => Or.inl h) (fun _ _ h => Or.inr h)) (fun _ _ h => h) (fun _ _ h => h)⟩
end Go.Proofs.YtnhffhopdgnddaaGreatDoor
