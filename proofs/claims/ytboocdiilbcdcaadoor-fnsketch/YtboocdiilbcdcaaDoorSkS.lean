import Derived.Test.YtboocdiilbcdcaaDoorSkAd
namespace Go.Proofs.YtboocdiilbcdcaaDoor
open Go Go.RowKit
set_option linter.unusedVariables false
set_option linter.unusedSimpArgs false
set_option maxRecDepth 100000

/-! Sketches that are valid; spec.SketchOK. -/
open Classical in
noncomputable def bOf (p : Prop) : Bool := decide p
theorem bOf_t {p : Prop} (h : p) : bOf p = true := by unfold bOf; simpa using h
theorem bOf_f {p : Prop} (h : ¬ p) : bOf p = false := by unfold bOf; simpa using h
theorem bOf_ok {p : Prop} (h : bOf p = true) : p := by unfold bOf at h; simpa using h
theorem bOf_no {p : Prop} (h : bOf p = false) : ¬ p := by unfold bOf at h; simpa using h
def RkZ (x : Int) : Prop := 0 ≤ x ∧ x ≤ 25
def SkOK (zs : List Int) : Prop := zs.length = 256 ∧ ∀ i, i < 256 → RkZ (zs.getD i 0)
set_option maxHeartbeats 2000000 in
theorem specSkOK_any (v : Value) (zs : List Int) (w : World) (hl : zs.length ≤ 1048576) (hv : HoldI w v zs) :
    Calls Tryd.prog 31 #[.agg #[v]] w fun e w' => e = .returned (.bool (bOf (SkOK zs))) ∧ Below w.heap.size w w' := by
  obtain ⟨ad, cap, rfl, hz⟩ := hv
  have HZ := hidd hz
  clear hz
  obtain ⟨n, hn⟩ : ∃ n, zs.length = n := ⟨_, rfl⟩
  rw [hn] at hl ⊢
  have HN := hidd hn
  clear hn
  obtain ⟨B, hB⟩ : ∃ B, bOf (SkOK zs) = B := ⟨_, rfl⟩
  rw [hB]
  have HBB := hidd hB
  clear hB
  obtain ⟨W, hW⟩ : ∃ W, w.alloc (.cells #[.slice ad n cap] 27) = W := ⟨_, rfl⟩
  have HBa : Hid (Below w.heap.size w W) := by show Below _ _ _; rw [← hW]; exact (Below.refl _ _).alloc (Nat.le_refl _) _
  have x0 : W.cell? ⟨w.heap.size, 0, none⟩ = some (.slice ad n cap) := by rw [← hW]; exact blkc (heap_alloc_new _ _) 0
  go_enter Tryd.func31, Tryd.ntmps31
  go_upto_region 1 with fail
  try rw [hW]
  clear hW
  by_cases h256 : n = 256
  · have hne : ((n : Int) != 256) = false := by simp [h256]
    have H256 := hidd h256
    have hn2 : 256 ≤ n := by omega
    clear h256
    go_wp2_with fail
    go_loop [3] (fun iv => ∃ k : Nat, k ≤ 256 ∧ iv = .int .i64 (k : Int) ∧ ∀ i, i < k → RkZ (zs.getD i 0)) (fun iv => 256 - (intOf iv).toNat)
    case atStart => exact ⟨0, Nat.zero_le _, rfl, fun i hi => absurd hi (by omega)⟩
    case round =>
      obtain ⟨k, hk, rfl, hp⟩ := hrel
      have HP := hidd hp
      clear hp
      by_cases hkn : k < 256
      · have hkz : (k : Int) < 256 := by omega
        have hkz2 : (k : Int) < (n : Int) := by omega
        have hknz : k < zs.length := by have := HN.out; omega
        obtain ⟨g, off, rfl, hg, hc⟩ := HZ.out.resolve_left (fun h => by rw [h] at hknz; simp at hknz)
        have z1 := (HBa.out.cell (p := ⟨g, off + k, none⟩) hg).trans (hc k hknz)
        obtain ⟨x, hx⟩ : ∃ x, zs.getD k 0 = x := ⟨_, rfl⟩
        rw [hx] at z1
        have HX := hidd hx
        clear hx hc
        by_cases b1 : x < 0
        · have HF : Hid (B = false) := HBB.out ▸ bOf_f (fun h => by have := (h.2 k hkn).1; rw [HX.out] at this; omega)
          go_wp2_with fail
          go_ret
          rw [HF.out]
          exact ⟨rfl, HBa.out⟩
        by_cases b2 : 25 < x
        · have HF : Hid (B = false) := HBB.out ▸ bOf_f (fun h => by have := (h.2 k hkn).2; rw [HX.out] at this; omega)
          go_wp2_with fail
          go_ret
          rw [HF.out]
          exact ⟨rfl, HBa.out⟩
        go_wp2_with fail
        go_round
        case rel =>
          refine ⟨k + 1, by omega, by go_num, fun i hi => ?_⟩
          rcases (by omega : i < k ∨ i = k) with h | rfl
          · exact HP.out i h
          · rw [HX.out]; exact ⟨by omega, by omega⟩
        case measure => simp [intOf]; omega
      · have hkz : ¬ (k : Int) < 256 := by omega
        have HT : Hid (B = true) := HBB.out ▸ bOf_t ⟨HN.out.trans H256.out, fun i hi => HP.out i (by omega)⟩
        go_wp2_with fail
        go_ret
        rw [HT.out]
        exact ⟨rfl, HBa.out⟩
  · have hne : ((n : Int) != 256) = true := by simp; omega
    have HF : Hid (B = false) := HBB.out ▸ bOf_f (fun h => h256 (HN.out.symm.trans h.1))
    clear h256
    go_wp2_with fail
    go_ret
    rw [HF.out]
    exact ⟨rfl, HBa.out⟩
end Go.Proofs.YtboocdiilbcdcaaDoor
