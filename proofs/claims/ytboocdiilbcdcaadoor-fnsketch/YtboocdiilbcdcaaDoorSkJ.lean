import Derived.Test.YtboocdiilbcdcaaDoorSkR
namespace Go.Proofs.YtboocdiilbcdcaaDoor
open Go Go.RowKit
set_option linter.unusedVariables false
set_option linter.unusedSimpArgs false
set_option maxRecDepth 100000

/-! impl.raise, (impl.ranks).sketch, impl.SketchJoin. -/
def mxK (a b : List Int) (k : Nat) : List Int := (List.range 256).map fun i => if i < k then max (a.getD i 0) (b.getD i 0) else a.getD i 0
def mxZ (a b : List Int) : List Int := mxK a b 256
theorem mxK_len (a b : List Int) (k : Nat) : (mxK a b k).length = 256 := by unfold mxK; rw [List.length_map, List.length_range]
theorem mxK_get (a b : List Int) (k i : Nat) (h : i < 256) : (mxK a b k).getD i 0 = if i < k then max (a.getD i 0) (b.getD i 0) else a.getD i 0 := by
  unfold mxK
  rw [List.getD_eq_getElem?_getD, List.getElem?_map, List.getElem?_range h]
  rfl
theorem mxK_zero (a b : List Int) (h : a.length = 256) : mxK a b 0 = a := by
  apply List.ext_getElem (by rw [mxK_len, h])
  intro i h1 h2
  have := mxK_get a b 0 i (by omega)
  rw [if_neg (by omega)] at this
  simpa [List.getD_eq_getElem?_getD, h1, h2] using this
theorem mxK_set (a b : List Int) (k : Nat) (h : k < 256) : (mxK a b k).set k (max (a.getD k 0) (b.getD k 0)) = mxK a b (k + 1) := by
  apply List.ext_getElem (by rw [List.length_set, mxK_len, mxK_len])
  intro i h1 h2
  rw [mxK_len] at h2
  have e1 := mxK_get a b k i h2
  have e2 := mxK_get a b (k + 1) i h2
  have l1 : i < (mxK a b k).length := by rw [mxK_len]; exact h2
  have l2 : i < (mxK a b (k + 1)).length := by rw [mxK_len]; exact h2
  rw [List.getElem_set]
  rw [List.getD_eq_getElem?_getD, List.getElem?_eq_getElem l1] at e1
  rw [List.getD_eq_getElem?_getD, List.getElem?_eq_getElem l2] at e2
  simp only [Option.getD_some] at e1 e2
  rw [e2]
  by_cases hik : k = i
  · subst hik
    rw [if_pos rfl, if_pos (by omega)]
  · rw [if_neg hik, e1]
    by_cases h3 : i < k
    · rw [if_pos h3, if_pos (by omega)]
    · rw [if_neg h3, if_neg (by omega)]
theorem mxZ_ok {a b : List Int} (ha : SkOK a) (hb : SkOK b) : SkOK (mxZ a b) := by
  refine ⟨mxK_len _ _ _, fun i hi => ?_⟩
  unfold mxZ
  rw [mxK_get a b 256 i hi, if_pos hi]
  have h1 := ha.2 i hi
  have h2 := hb.2 i hi
  unfold RkZ at *
  omega
set_option maxHeartbeats 4000000 in
theorem raise_any (ga gb : Nat) (a b : List Int) (w : World) (hne : ga ≠ gb) (ha : rBlk w 0 ga a) (hb : rBlk w 0 gb b) (ra : ∀ i, i < 256 → 0 ≤ a.getD i 0 ∧ a.getD i 0 ≤ 255) (rb : ∀ i, i < 256 → 0 ≤ b.getD i 0 ∧ b.getD i 0 ≤ 255) :
    Calls Tryd.prog 29 #[.slice (some ⟨ga, 0, none⟩) 256 256, .slice (some ⟨gb, 0, none⟩) 256 256] w fun e w' => e = .returned (.tuple #[]) ∧ rBlk w' 0 ga (mxZ a b) ∧ w.grownBy w' (some ga) := by
  have HA := hidd ha
  have HB := hidd hb
  have HRa := hidd ra
  have HRb := hidd rb
  clear ha hb ra rb
  go_enter Tryd.func29, Tryd.ntmps29
  go_wp2_with fail
  go_loopw [4, 5, 8] (fun _ _ i wr => ∃ k : Nat, k ≤ 256 ∧ i = .int .i64 (k : Int) ∧ rBlk wr 0 ga (mxK a b k) ∧ rBlk wr 0 gb b ∧ w.grownBy wr (some ga)) (fun _ _ i _ => 256 - (intOf i).toNat)
  case atStart => exact ⟨0, by omega, rfl, by rw [mxK_zero a b HA.out.len]; exact HA.out, HB.out, grown_refl _ _⟩
  case round =>
    obtain ⟨k, hk, rfl, h1, h2, h3⟩ := hrel
    have H1 := hidd h1
    have H2 := hidd h2
    have H3 := hidd h3
    clear h1 h2 h3
    by_cases hlt : k < 256
    · have hklt : (k : Int) < 256 := by omega
      have c1 := H1.out.cell k hlt
      have f1 := H1.out.frozen k
      have c2 := H2.out.cell k hlt
      rw [mxK_get a b k k hlt, if_neg (by omega)] at c1
      have HSt := hidd (mxK_set a b k hlt)
      have b1 := HRa.out k hlt
      have b2 := HRb.out k hlt
      generalize a.getD k 0 = x at *
      generalize b.getD k 0 = y at *
      have HM : Hid ((if x < y then y else x) = max x y) := by show _ = _; split <;> omega
      have HD := hidd hne
      clear hne
      go_wp2_with fail
      try (go_region)
      all_goals try (go_wp2_with fail)
      go_roundw
      case rel =>
        have B1 := H1.out.set k (max x y)
        rw [HSt.out] at B1
        first
          | exact ⟨k + 1, by omega, by go_num, by rw [HM.out]; exact B1.1, by rw [HM.out]; exact H2.out.kept B1.2 (by simpa using HD.out), by rw [HM.out]; exact grown_trans H3.out B1.2⟩
          | exact ⟨k + 1, by omega, by go_num, B1.1, H2.out.kept B1.2 (by simpa using HD.out), grown_trans H3.out B1.2⟩
      case measure => simp [intOf]; omega
    · have hklt : ¬ (k : Int) < 256 := by omega
      obtain rfl : k = 256 := by omega
      go_wp2_with fail
      go_end0
      exact ⟨rfl, H1.out, H3.out⟩
/-- A sketch told. -/
def SkR (w : World) (J : List Int × Int) (e : Ending) (w' : World) : Prop := ∃ (ty : TypeId) (v : Value), (ty = 3 ∨ ty = 68) ∧ e = .returned (.tuple #[.agg #[v], .int .i64 J.2]) ∧ w'.ownsRow w.heap.size ty 1 v J.1.length (zI J.1) ∧ Below w.heap.size w w'
theorem quCells_zI (zs : List Int) : quCells zs = zI zs := rfl
set_option maxHeartbeats 4000000 in
theorem sketch_any (rs : List Int) (w : World) (hl : rs.length = 256) (hr : ∀ i, i < 256 → 0 ≤ rs.getD i 0 ∧ rs.getD i 0 ≤ 255) :
    Calls Tryd.prog 27 #[.agg (ruArr rs)] w fun e w' => ∃ g, e = .returned (.agg #[.slice (some ⟨g, 0, none⟩) 256 256]) ∧ w'.ownsRow w.heap.size 68 1 (.slice (some ⟨g, 0, none⟩) 256 256) 256 (zI rs) ∧ Below w.heap.size w w' := by
  have HL := hidd hl
  have HNu := hidd (fun V => numbers_any rs V hl hr)
  clear hr hl
  obtain ⟨W, hW⟩ : ∃ W, (w.alloc (.cells (ruArr rs) 50)).alloc (.cells #[.slice none 0 0] 27) = W := ⟨_, rfl⟩
  have hk := box_two w (.cells (ruArr rs) 50) (.cells #[.slice none 0 0] 27)
  rw [hW] at hk
  have HK0 := hidd hk.1
  have HK1 := hidd hk.2
  have HB : Hid (Below w.heap.size w W) := by show Below _ _ _; rw [← hW]; exact ((Below.refl _ _).alloc (Nat.le_refl _) _).alloc (by simp) _
  have hBr : rBlk W 0 w.heap.size rs := rBlk.of (Nat.zero_le _) HL.out HK0.out
  have HBr := hidd hBr
  clear hk hBr
  go_enter Tryd.func27, Tryd.ntmps27
  go_upto_region 1 with (refine rwpB_box rfl _ rfl rs rfl ?_)
  try rw [hW]
  clear hW
  go_wp2_with (refine rwpB_load rfl _ rfl 0 w.heap.size rs rfl HBr.out ?_)
  refine (HNu.out _).mono ?_
  rintro e w1 ⟨rfl, hb1⟩
  have HB1 := hidd (HB.out.trans (hb1.mono HB.out.size))
  have HK1' := hidd (blko HK1.out hb1)
  clear hb1 HK0 HK1 HBr HB
  go_upto_region 2 with (first | (refine qwpB_alloc rfl rfl ?_) | (refine qwpB_store rfl _ _ rfl w1.heap.size w1.heap.size qzeros rs rfl rfl HL.out (qBlk.new (Nat.le_refl _) qzeros_length) ?_; intro W2 hQ2 hg2; have HG2 := hidd hg2; have HQ2 := hidd hQ2; clear hQ2 hg2))
  have hz1 := HB1.out.size
  have HB2 : Hid (Below w.heap.size w W2) := grown_b1 (HB1.out.alloc HB1.out.size _) (by simp; omega) HG2.out HB1.out.size
  have hlt1 : w.heap.size + 1 < w1.heap.size := (Array.getElem?_eq_some_iff.1 HK1'.out).1
  have HK2 : Hid (W2.heap[w.heap.size + 1]? = some (.cells #[.slice none 0 0] 27)) := by
    show _ = _
    rw [HG2.out.block _ (by simp; omega) (fun e => by have := Option.some.inj e; omega), Below.heap_alloc _ _ _ hlt1]
    exact HK1'.out
  have c0 : W2.cell? ⟨w.heap.size + 1, 0, none⟩ = some (.slice none 0 0) := blkc HK2.out 0
  have f0 := blkf HK2.out 0
  have HKf := hidd (blk_setk HK2.out 0 (.slice (some ⟨w1.heap.size, 0, none⟩) 256 256))
  have HOf : Hid ((W2.setCell ⟨w.heap.size + 1, 0, none⟩ (.slice (some ⟨w1.heap.size, 0, none⟩) 256 256)).ownsRow w.heap.size 68 1 (.slice (some ⟨w1.heap.size, 0, none⟩) 256 256) 256 (zI rs)) := own_congr (own_mono HQ2.out hz1) (fun b hb => heap_set_other _ _ _ _ _ (by have e : w1.heap.size = b := (by simpa [Value.ownBlock] using hb); omega))
  have HBf : Hid (Below w.heap.size w (W2.setCell ⟨w.heap.size + 1, 0, none⟩ (.slice (some ⟨w1.heap.size, 0, none⟩) 256 256))) := HB2.out.setCell (p := ⟨w.heap.size + 1, 0, none⟩) (by show w.heap.size ≤ w.heap.size + 1; omega) _
  clear HG2 HQ2 HB1 HB2 hlt1 HK1'
  go_wp2_with (refine wpV rfl (.slice (some ⟨w1.heap.size, 0, none⟩) 256 256) (exec_sliceQ _ _ _ _ rfl _ rfl) ?_)
  have q0 : (W2.setCell ⟨w.heap.size + 1, 0, none⟩ (.slice (some ⟨w1.heap.size, 0, none⟩) 256 256)).cell? ⟨w.heap.size + 1, 0, none⟩ = some (.slice (some ⟨w1.heap.size, 0, none⟩) 256 256) := by rw [blkc HKf.out 0]; rfl
  refine bodyPost_ret (v := .agg #[.slice (some ⟨w1.heap.size, 0, none⟩) 256 256]) (by simp [results, Tryd.results27, go_sem, q0]) rfl ?_
  exact ⟨w1.heap.size, rfl, HOf.out, HBf.out⟩
end Go.Proofs.YtboocdiilbcdcaaDoor
