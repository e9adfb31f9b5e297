import Derived.Test.YtboocdiilbcdcaaDoorSkJ
namespace Go.Proofs.YtboocdiilbcdcaaDoor
open Go Go.RowKit
set_option linter.unusedVariables false
set_option linter.unusedSimpArgs false
set_option maxRecDepth 100000

/-! impl.SketchJoin. -/
open Classical in
noncomputable def joS (z1 z2 : List Int) : List Int × Int := if SkOK z1 ∧ SkOK z2 then (mxZ z1 z2, 0) else ([], 1)
theorem joS_ok {z1 z2 : List Int} (h1 : SkOK z1) (h2 : SkOK z2) : joS z1 z2 = (mxZ z1 z2, 0) := by unfold joS; rw [if_pos ⟨h1, h2⟩]
theorem joS_bad {z1 z2 : List Int} (h : ¬ (SkOK z1 ∧ SkOK z2)) : joS z1 z2 = ([], 1) := by unfold joS; rw [if_neg h]
theorem joS_len (z1 z2 : List Int) : (joS z1 z2).1.length ≤ 1048576 := by
  unfold joS
  split
  · show (mxZ z1 z2).length ≤ _; unfold mxZ; rw [mxK_len]; omega
  · simp
theorem bOf_not {p : Prop} (h : bOf p = false) : ¬ p := fun hp => by rw [bOf_t hp] at h; cases h
theorem exec_sliceR (W : World) (ρ : Operand → Value) (o : Oper) (x : Operand) (ho : o.op = .slice 50 x none none none) (g : Nat) (hx : ρ x = .pointer (some ⟨g, 0, none⟩)) :
    (execOp ρ o).run Tryd.prog W = .ok (.value (.slice (some ⟨g, 0, none⟩) 256 256)) W := by
  unfold execOp
  simp only [ho, hx, Sem.run_bind, Sem.run_pure, Result.andThen_ok, Option.map_none]
  go_simp
set_option maxHeartbeats 8000000 in
theorem implSkJoin_any (u1 u2 : Value) (z1 z2 : List Int) (w : World) (hl1 : z1.length ≤ 1048576) (hl2 : z2.length ≤ 1048576) (hv1 : HoldI w u1 z1) (hv2 : HoldI w u2 z2) :
    Calls Tryd.prog 9 #[.agg #[u1], .agg #[u2]] w (SkR w (joS z1 z2)) := by
  have HV1 := hidd hv1
  have HV2 := hidd hv2
  have HO1 : Hid (∀ (V : World), Below w.heap.size w V → Calls Tryd.prog 28 #[.agg #[u1]] V (RkPost V z1)) := fun V hV => ranks_any u1 z1 V hl1 (hv1.below hV)
  have HO2 : Hid (∀ (V : World), Below w.heap.size w V → Calls Tryd.prog 28 #[.agg #[u2]] V (RkPost V z2)) := fun V hV => ranks_any u2 z2 V hl2 (hv2.below hV)
  obtain ⟨ad1, k1, rfl, -⟩ := hv1
  obtain ⟨ad2, k2, rfl, -⟩ := hv2
  obtain ⟨n1, hn1⟩ : ∃ n, z1.length = n := ⟨_, rfl⟩
  obtain ⟨n2, hn2⟩ : ∃ n, z2.length = n := ⟨_, rfl⟩
  have HN1 := hidd hn1
  have HN2 := hidd hn2
  rw [hn1] at HO1 HV1 hl1
  rw [hn2] at HO2 HV2 hl2
  rw [hn1, hn2]
  clear hn1 hn2
  obtain ⟨J, hJ⟩ : ∃ J, joS z1 z2 = J := ⟨_, rfl⟩
  rw [hJ]
  have HJJ := hidd hJ
  clear hJ
  obtain ⟨W, hW⟩ : ∃ W, ((w.alloc (.cells #[.slice ad1 n1 k1] 27)).alloc (.cells #[.slice ad2 n2 k2] 27)).alloc (.cells #[.slice none 0 0] 27) = W := ⟨_, rfl⟩
  have hk := box_two w (.cells #[.slice ad1 n1 k1] 27) (.cells #[.slice ad2 n2 k2] 27)
  have HKa : Hid (W.heap[w.heap.size]? = some (.cells #[.slice ad1 n1 k1] 27)) := by show _ = _; rw [← hW, Below.heap_alloc _ _ _ (by simp; omega)]; exact hk.1
  have HKb : Hid (W.heap[w.heap.size + 1]? = some (.cells #[.slice ad2 n2 k2] 27)) := by show _ = _; rw [← hW, Below.heap_alloc _ _ _ (by simp)]; exact hk.2
  have HKr : Hid (W.heap[w.heap.size + 1 + 1]? = some (.cells #[.slice none 0 0] 27)) := by show _ = _; rw [← hW]; have := heap_alloc_new ((w.alloc (.cells #[.slice ad1 n1 k1] 27)).alloc (.cells #[.slice ad2 n2 k2] 27)) (.cells #[.slice none 0 0] 27); simpa using this
  have HBa : Hid (Below w.heap.size w W) := by show Below _ _ _; rw [← hW]; exact (((Below.refl _ _).alloc (Nat.le_refl _) _).alloc (by simp) _).alloc (by simp; omega) _
  clear hk
  have a0 : W.cell? ⟨w.heap.size, 0, none⟩ = some (.slice ad1 n1 k1) := blkc HKa.out 0
  go_enter Tryd.func9, Tryd.ntmps9
  go_upto_region 1 with fail
  try rw [hW]
  clear hW
  go_wp2_with fail
  refine (HO1.out _ HBa.out).mono ?_
  rintro e W1 ⟨rs1, rfl, hrl1, hre1, hb1⟩
  have HB1 := hidd (HBa.out.trans (hb1.mono HBa.out.size))
  replace HKb := hidd (blko HKb.out hb1)
  replace HKr := hidd (blko HKr.out hb1)
  have HBw : Hid (w.heap.size ≤ W1.heap.size) := HB1.out.size
  have HBz : Hid (w.heap.size + 1 + 1 < W1.heap.size) := (Array.getElem?_eq_some_iff.1 HKr.out).1
  have HRl1 := hidd hrl1
  have HRe1 := hidd hre1
  clear hb1 a0 HBa hrl1 hre1 HKa
  go_upto_region 2 with (first | (refine rwpB_alloc rfl rfl ?_) | (refine rwpB_store rfl _ _ rfl W1.heap.size W1.heap.size rzeros rs1 rfl rfl HRl1.out (rBlk.new (Nat.le_refl _) rzeros_length) ?_; intro W2 hR2 hg2; have HR2 := hidd hR2; have HG2 := hidd hg2; clear hR2 hg2))
  have hb2 : Below W1.heap.size W1 W2 := grown_b1 ((Below.refl _ _).alloc (Nat.le_refl _) _) (by simp) HG2.out (Nat.le_refl _)
  have HB2 := hidd (HB1.out.trans (hb2.mono HB1.out.size))
  replace HKb := hidd (blko HKb.out hb2)
  replace HKr := hidd (blko HKr.out hb2)
  have hq2 : W1.heap.size < W2.heap.size := HR2.out.lt.2
  clear hb2 HB1 HG2
  have b0 : W2.cell? ⟨w.heap.size + 1, 0, none⟩ = some (.slice ad2 n2 k2) := blkc HKb.out 0
  go_wp2_with fail
  refine (HO2.out _ HB2.out).mono ?_
  rintro e W3 ⟨rs2, rfl, hrl2, hre2, hb3⟩
  have HB3 := hidd (HB2.out.trans (hb3.mono HB2.out.size))
  replace HKr := hidd (blko HKr.out hb3)
  replace HR2 := hidd (HR2.out.below hb3)
  have hq3 := hb3.size
  have HRl2 := hidd hrl2
  have HRe2 := hidd hre2
  clear hb3 b0 HB2 hrl2 hre2 HKb
  go_upto_region 3 with (first | (refine rwpB_alloc rfl rfl ?_) | (refine rwpB_store rfl _ _ rfl W3.heap.size W3.heap.size rzeros rs2 rfl rfl HRl2.out (rBlk.new (Nat.le_refl _) rzeros_length) ?_; intro W4 hR4 hg4; have HR4 := hidd hR4; have HG4 := hidd hg4; clear hR4 hg4))
  have hb4 : Below W3.heap.size W3 W4 := grown_b1 ((Below.refl _ _).alloc (Nat.le_refl _) _) (by simp) HG4.out (Nat.le_refl _)
  have HB4 := hidd (HB3.out.trans (hb4.mono HB3.out.size))
  replace HKr := hidd (blko HKr.out hb4)
  replace HR2 := hidd (HR2.out.below hb4)
  clear hb4 HB3 HG4
  cases hd1 : bOf (SkOK z1) with
  | false =>
    have HJ : Hid (J = ([], 1)) := by show _ = _; rw [← HJJ.out]; exact joS_bad (fun h => bOf_not hd1 h.1)
    clear hd1
    go_upto_region 4 with fail
    have x0 := blkc HKr.out 0
    have f0 := blkf HKr.out 0
    have HKf := hidd (blk_setk HKr.out 0 (.slice none 0 0))
    have HBf := hidd (HB4.out.setCell (p := ⟨w.heap.size + 1 + 1, 0, none⟩) (show w.heap.size ≤ w.heap.size + 1 + 1 by omega) (.slice none 0 0))
    have q0 := blkc HKf.out 0
    go_wp2_with fail
    refine bodyPost_ret (v := .tuple #[.agg #[.slice none 0 0], .int .i64 1]) (by simp [results, Tryd.results9, go_sem, q0]) rfl ?_
    rw [HJ.out]
    exact ⟨3, _, Or.inl rfl, rfl, World.ownsRow_nil _ _ _ _, HBf.out⟩
  | true =>
    cases hd2 : bOf (SkOK z2) with
    | false =>
      have HJ : Hid (J = ([], 1)) := by show _ = _; rw [← HJJ.out]; exact joS_bad (fun h => bOf_not hd2 h.2)
      clear hd1 hd2
      go_upto_region 4 with fail
      have x0 := blkc HKr.out 0
      have f0 := blkf HKr.out 0
      have HKf := hidd (blk_setk HKr.out 0 (.slice none 0 0))
      have HBf := hidd (HB4.out.setCell (p := ⟨w.heap.size + 1 + 1, 0, none⟩) (show w.heap.size ≤ w.heap.size + 1 + 1 by omega) (.slice none 0 0))
      have q0 := blkc HKf.out 0
      go_wp2_with fail
      refine bodyPost_ret (v := .tuple #[.agg #[.slice none 0 0], .int .i64 1]) (by simp [results, Tryd.results9, go_sem, q0]) rfl ?_
      rw [HJ.out]
      exact ⟨3, _, Or.inl rfl, rfl, World.ownsRow_nil _ _ _ _, HBf.out⟩
    | true =>
      have hs1 := bOf_ok hd1
      have hs2 := bOf_ok hd2
      have HJ : Hid (J = (mxZ z1 z2, 0)) := by show _ = _; rw [← HJJ.out]; exact joS_ok hs1 hs2
      obtain rfl : rs1 = z1 := HRe1.out hs1
      obtain rfl : rs2 = z2 := HRe2.out hs2
      have HS1 : Hid (∀ i, i < 256 → 0 ≤ rs1.getD i 0 ∧ rs1.getD i 0 ≤ 255) := fun i hi => by have := hs1.2 i hi; unfold RkZ at this; omega
      have HS2 : Hid (∀ i, i < 256 → 0 ≤ rs2.getD i 0 ∧ rs2.getD i 0 ≤ 255) := fun i hi => by have := hs2.2 i hi; unfold RkZ at this; omega
      have HM : Hid (SkOK (mxZ rs1 rs2)) := mxZ_ok hs1 hs2
      clear hs1 hs2 hd1 hd2 HRe1 HRe2
      have hne : W1.heap.size ≠ W3.heap.size := by omega
      go_upto_region 5 with fail
      refine wp_region_held (S := fun u => True) (by kernel_rfl) ?_
      have hbd : Below W4.heap.size W4 ({ heap := W4.heap, tape := W4.tape, drawn := W4.drawn + 1, os := W4.os, output := W4.output } : World) := (Below.refl _ _).drew
      generalize ({ heap := W4.heap, tape := W4.tape, drawn := W4.drawn + 1, os := W4.os, output := W4.output } : World) = Wd at *
      have hSd : (fun (u : World) => True) Wd := trivial
      try simp only [Act.put, List.getElem_toArray, List.getElem_cons_succ, List.getElem_cons_zero, List.setIfInBounds_toArray, List.set_cons_zero, List.set_cons_succ]
      refine wpAnyH_take (i := 0) (v := .slice (some ⟨W1.heap.size, 0, none⟩) 256 256) rfl (by kernel_rfl) (by kernel_rfl) (by kernel_rfl) (fun _ _ _ h => h) (Or.inl ⟨by kernel_rfl, fun W hW => exec_sliceR W _ _ _ rfl _ (by kernel_rfl)⟩) hSd ?_
      try simp only [Act.put, List.getElem_toArray, List.getElem_cons_succ, List.getElem_cons_zero, List.setIfInBounds_toArray, List.set_cons_zero, List.set_cons_succ]
      refine wpAnyH_take (i := 1) (v := .slice (some ⟨W3.heap.size, 0, none⟩) 256 256) rfl (by kernel_rfl) (by kernel_rfl) (by kernel_rfl) (fun _ _ _ h => h) (Or.inl ⟨by kernel_rfl, fun W hW => exec_sliceR W _ _ _ rfl _ (by kernel_rfl)⟩) hSd ?_
      try simp only [Act.put, List.getElem_toArray, List.getElem_cons_succ, List.getElem_cons_zero, List.setIfInBounds_toArray, List.set_cons_zero, List.set_cons_succ]
      refine wpAnyH_one 2 (by kernel_rfl) ?_
      refine wpOp_call 29 #[.slice (some ⟨W1.heap.size, 0, none⟩) 256 256, .slice (some ⟨W3.heap.size, 0, none⟩) 256 256] rfl (by kernel_rfl) (rbx_call2 _ _ _ _ _ _ _ _ rfl _ _ (by kernel_rfl) (by kernel_rfl) (Tryd.call29 _ _)) ?_
      refine (raise_any W1.heap.size W3.heap.size rs1 rs2 Wd hne ((HR2.out.below hbd).mono (Nat.zero_le _)) ((HR4.out.below hbd).mono (Nat.zero_le _)) HS1.out HS2.out).mono ?_
      rintro e W5 ⟨rfl, hr5, hg5⟩
      have HR5 := hidd hr5
      have hBd := HB4.out.trans (hbd.mono HB4.out.size)
      have hbw : w.heap.size ≤ W1.heap.size := HBw.out
      have HB5 : Hid (Below w.heap.size w W5) := grown_b1 hBd hBd.size hg5 hbw
      have HKr5 : Hid (W5.heap[w.heap.size + 1 + 1]? = some (.cells #[.slice none 0 0] 27)) := (hg5.block _ (by have := (Array.getElem?_eq_some_iff.1 (blko HKr.out hbd)).1; exact this) (fun e => by have := Option.some.inj e; have := HBz.out; omega)).trans (blko HKr.out hbd)
      clear hr5 hg5 HKr HR2 HR4 HB4
      refine ⟨trivial, ?_⟩
      try simp only [Act.put, List.getElem_toArray, List.getElem_cons_succ, List.getElem_cons_zero, List.setIfInBounds_toArray, List.set_cons_zero, List.set_cons_succ]
      refine wpAnyH_done (by kernel_rfl) ?_ _
      clear hSd hbd hBd
      go_upto_region 6 with fail
      go_wp2_with (refine rwpB_load rfl _ rfl 0 W1.heap.size (mxZ rs1 rs2) rfl HR5.out ?_)
      refine (sketch_any (mxZ rs1 rs2) _ HM.out.1 (fun i hi => by have := HM.out.2 i hi; unfold RkZ at this; omega)).mono ?_
      rintro e W6 ⟨g6, rfl, ho6, hb6⟩
      have HB6 := hidd (HB5.out.trans (hb6.mono HB5.out.size))
      have HKr6 := hidd (blko HKr5.out hb6)
      have HO6 := hidd ho6
      have hg6 : W5.heap.size ≤ g6 := ((own_blk ho6 rfl).1)
      have hz5 := (Array.getElem?_eq_some_iff.1 HKr5.out).1
      clear ho6 hb6 HB5 HKr5
      have x0 : W6.cell? ⟨w.heap.size + 1 + 1, 0, none⟩ = some (.slice none 0 0) := blkc HKr6.out 0
      have f0 := blkf HKr6.out 0
      have HKf := hidd (blk_setk HKr6.out 0 (.slice (some ⟨g6, 0, none⟩) 256 256))
      have HBf := hidd (HB6.out.setCell (p := ⟨w.heap.size + 1 + 1, 0, none⟩) (show w.heap.size ≤ w.heap.size + 1 + 1 by omega) (.slice (some ⟨g6, 0, none⟩) 256 256))
      have q0 : (W6.setCell ⟨w.heap.size + 1 + 1, 0, none⟩ (.slice (some ⟨g6, 0, none⟩) 256 256)).cell? ⟨w.heap.size + 1 + 1, 0, none⟩ = some (.slice (some ⟨g6, 0, none⟩) 256 256) := by rw [blkc HKf.out 0]; rfl
      go_wp2_with fail
      refine bodyPost_ret (v := .tuple #[.agg #[.slice (some ⟨g6, 0, none⟩) 256 256], .int .i64 0]) (by simp [results, Tryd.results9, go_sem, q0]) rfl ?_
      rw [HJ.out]
      refine ⟨68, _, Or.inr rfl, rfl, ?_, HBf.out⟩
      show World.ownsRow _ _ _ _ _ (mxZ rs1 rs2).length (zI (mxZ rs1 rs2))
      rw [HM.out.1]
      exact own_congr (own_mono HO6.out (by omega)) (fun b hb => heap_set_other _ _ _ _ _ (by have e : g6 = b := (by simpa [Value.ownBlock] using hb); omega))
end Go.Proofs.YtboocdiilbcdcaaDoor
