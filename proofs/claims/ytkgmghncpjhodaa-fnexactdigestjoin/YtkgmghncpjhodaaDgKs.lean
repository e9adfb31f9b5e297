import Derived.Test.YtkgmghncpjhodaaDgK
namespace Go.Proofs.Ytkgmghncpjhodaa
open Go Go.RowKit
set_option linter.unusedVariables false
set_option linter.unusedSimpArgs false
set_option maxRecDepth 100000

/-! spec.DigestJoin. -/
set_option maxHeartbeats 8000000 in
theorem specJoin_any (s1 p1 c1 s2 p2 c2 : Int) (u1 u2 : Value) (z1 z2 : List Int) (w : World) (hl1 : z1.length ≤ 1048576) (hl2 : z2.length ≤ 1048576) (hv1 : SzI w u1 z1) (hv2 : SzI w u2 z2) :
    Calls Try.prog 18 #[.agg #[.int .i64 s1, .int .i64 p1, .int .i64 c1, u1], .agg #[.int .i64 s2, .int .i64 p2, .int .i64 c2, u2]] w (DgR w (joZ s1 p1 c1 z1 s2 p2 c2 z2)) := by
  have HO1 : Hid (∀ (V : World), Below w.heap.size w V → Calls Try.prog 10 #[.agg #[.int .i64 s1, .int .i64 p1, .int .i64 c1, u1]] V fun e w' => e = .returned (.bool (dgB s1 p1 c1 z1)) ∧ Below V.heap.size V w') := fun V hV => specOK_any s1 p1 c1 u1 z1 V hl1 (hv1.hold.below hV)
  have HO2 : Hid (∀ (V : World), Below w.heap.size w V → Calls Try.prog 10 #[.agg #[.int .i64 s2, .int .i64 p2, .int .i64 c2, u2]] V fun e w' => e = .returned (.bool (dgB s2 p2 c2 z2)) ∧ Below V.heap.size V w') := fun V hV => specOK_any s2 p2 c2 u2 z2 V hl2 (hv2.hold.below hV)
  have HV1 := hidd hv1
  have HV2 := hidd hv2
  obtain ⟨ad1, k1, rfl⟩ := hv1.sl
  obtain ⟨ad2, k2, rfl⟩ := hv2.sl
  obtain ⟨n1, hn1⟩ : ∃ n, z1.length = n := ⟨_, rfl⟩
  obtain ⟨n2, hn2⟩ : ∃ n, z2.length = n := ⟨_, rfl⟩
  have HN1 := hidd hn1
  have HN2 := hidd hn2
  rw [hn1] at HV1 HO1 hl1
  rw [hn2] at HV2 HO2 hl2
  rw [hn1, hn2]
  clear hv1 hv2 hn1 hn2
  obtain ⟨J, hJ⟩ : ∃ J, joZ s1 p1 c1 z1 s2 p2 c2 z2 = J := ⟨_, rfl⟩
  rw [hJ]
  have HJJ := hidd hJ
  clear hJ
  obtain ⟨W, hW⟩ : ∃ W, ((w.alloc (.cells #[.int .i64 s1, .int .i64 p1, .int .i64 c1, .slice ad1 n1 k1] 27)).alloc (.cells #[.int .i64 s2, .int .i64 p2, .int .i64 c2, .slice ad2 n2 k2] 27)).alloc (.cells #[.int .i64 0, .int .i64 0, .int .i64 0, .slice none 0 0] 27) = W := ⟨_, rfl⟩
  have hk := box_two w (.cells #[.int .i64 s1, .int .i64 p1, .int .i64 c1, .slice ad1 n1 k1] 27) (.cells #[.int .i64 s2, .int .i64 p2, .int .i64 c2, .slice ad2 n2 k2] 27)
  have HKa : Hid (W.heap[w.heap.size]? = some (.cells #[.int .i64 s1, .int .i64 p1, .int .i64 c1, .slice ad1 n1 k1] 27)) := by show _ = _; rw [← hW, Below.heap_alloc _ _ _ (by simp; omega)]; exact hk.1
  have HKb : Hid (W.heap[w.heap.size + 1]? = some (.cells #[.int .i64 s2, .int .i64 p2, .int .i64 c2, .slice ad2 n2 k2] 27)) := by show _ = _; rw [← hW, Below.heap_alloc _ _ _ (by simp)]; exact hk.2
  have HKr0 : Hid (W.heap[w.heap.size + 1 + 1]? = some (.cells #[.int .i64 0, .int .i64 0, .int .i64 0, .slice none 0 0] 27)) := by show _ = _; rw [← hW]; have := heap_alloc_new ((w.alloc (.cells #[.int .i64 s1, .int .i64 p1, .int .i64 c1, .slice ad1 n1 k1] 27)).alloc (.cells #[.int .i64 s2, .int .i64 p2, .int .i64 c2, .slice ad2 n2 k2] 27)) (.cells #[.int .i64 0, .int .i64 0, .int .i64 0, .slice none 0 0] 27); simpa using this
  have HBa : Hid (Below w.heap.size w W) := by show Below _ _ _; rw [← hW]; exact (((Below.refl _ _).alloc (Nat.le_refl _) _).alloc (by simp) _).alloc (by simp; omega) _
  clear hk
  have a0 : W.cell? ⟨w.heap.size, 0, none⟩ = some (.int .i64 s1) := blkc HKa.out 0
  have a1 : W.cell? ⟨w.heap.size, 1, none⟩ = some (.int .i64 p1) := blkc HKa.out 1
  have a2 : W.cell? ⟨w.heap.size, 2, none⟩ = some (.int .i64 c1) := blkc HKa.out 2
  have a3 : W.cell? ⟨w.heap.size, 3, none⟩ = some (.slice ad1 n1 k1) := blkc HKa.out 3
  go_enter Try.func18, Try.ntmps18
  go_upto_region 1 with fail
  try rw [hW]
  clear hW
  go_wp2_with fail
  refine (HO1.out _ HBa.out).mono ?_
  rintro e W0 ⟨rfl, hb0⟩
  have HB0 := hidd (HBa.out.trans (hb0.mono HBa.out.size))
  replace HKa := hidd (blko HKa.out hb0)
  replace HKb := hidd (blko HKb.out hb0)
  replace HKr0 := hidd (blko HKr0.out hb0)
  clear hb0 a0 a1 a2 a3 HBa
  cases hd1 : dgB s1 p1 c1 z1 with
  | false =>
    have HJ : Hid (J = ((0, 0, 0, []), 1)) := by show _ = _; rw [← HJJ.out]; unfold joZ; rw [if_neg (fun h => by rw [hd1] at h; cases h.1)]
    clear hd1
    go_upto_region 2 with fail
    have x0 := blkc HKr0.out 0
    have x1 := blkc HKr0.out 1
    have x2 := blkc HKr0.out 2
    have x3 := blkc HKr0.out 3
    have f0 := blkf HKr0.out 0
    have f1 := blkf HKr0.out 1
    have f2 := blkf HKr0.out 2
    have f3 := blkf HKr0.out 3
    have HR := hidd (ret4 (.int .i64 0) (.int .i64 0) (.int .i64 0) (.slice none 0 0) HB0.out (show w.heap.size ≤ w.heap.size + 1 + 1 by omega) HKr0.out)
    have q0 := blkc HR.out.2 0
    have q1 := blkc HR.out.2 1
    have q2 := blkc HR.out.2 2
    have q3 := blkc HR.out.2 3
    go_wp2_with fail
    refine bodyPost_ret (v := .tuple #[.agg #[.int .i64 0, .int .i64 0, .int .i64 0, .slice none 0 0], .int .i64 1]) (by simp [results, Try.results18, go_sem, q0, q1, q2, q3]) rfl ?_
    rw [HJ.out]
    exact ⟨_, rfl, World.ownsRow_nil _ _ _ _, HR.out.1⟩
  | true =>
    have b0 : W0.cell? ⟨w.heap.size + 1, 0, none⟩ = some (.int .i64 s2) := blkc HKb.out 0
    have b1 : W0.cell? ⟨w.heap.size + 1, 1, none⟩ = some (.int .i64 p2) := blkc HKb.out 1
    have b2 : W0.cell? ⟨w.heap.size + 1, 2, none⟩ = some (.int .i64 c2) := blkc HKb.out 2
    have b3 : W0.cell? ⟨w.heap.size + 1, 3, none⟩ = some (.slice ad2 n2 k2) := blkc HKb.out 3
    go_wp2_with fail
    refine (HO2.out _ HB0.out).mono ?_
    rintro e W1 ⟨rfl, hb1⟩
    have HB1 := hidd (HB0.out.trans (hb1.mono HB0.out.size))
    replace HKa := hidd (blko HKa.out hb1)
    replace HKb := hidd (blko HKb.out hb1)
    have HKr := hidd (blko HKr0.out hb1)
    clear hb1 b0 b1 b2 b3 HB0 HKr0
    cases hd2 : dgB s2 p2 c2 z2 with
    | false =>
      have HJ : Hid (J = ((0, 0, 0, []), 1)) := by show _ = _; rw [← HJJ.out]; unfold joZ; rw [if_neg (fun h => by rw [hd2] at h; cases h.2)]
      clear hd1 hd2
      go_upto_region 2 with fail
      have x0 := blkc HKr.out 0
      have x1 := blkc HKr.out 1
      have x2 := blkc HKr.out 2
      have x3 := blkc HKr.out 3
      have f0 := blkf HKr.out 0
      have f1 := blkf HKr.out 1
      have f2 := blkf HKr.out 2
      have f3 := blkf HKr.out 3
      have HR := hidd (ret4 (.int .i64 0) (.int .i64 0) (.int .i64 0) (.slice none 0 0) HB1.out (show w.heap.size ≤ w.heap.size + 1 + 1 by omega) HKr.out)
      have q0 := blkc HR.out.2 0
      have q1 := blkc HR.out.2 1
      have q2 := blkc HR.out.2 2
      have q3 := blkc HR.out.2 3
      go_wp2_with fail
      refine bodyPost_ret (v := .tuple #[.agg #[.int .i64 0, .int .i64 0, .int .i64 0, .slice none 0 0], .int .i64 1]) (by simp [results, Try.results18, go_sem, q0, q1, q2, q3]) rfl ?_
      rw [HJ.out]
      exact ⟨_, rfl, World.ownsRow_nil _ _ _ _, HR.out.1⟩
    | true =>
      have hD1 := dgB_ok hd1
      have hD2 := dgB_ok hd2
      obtain ⟨q1, q2, q3, q4, q5, q6, -, -, -, -⟩ := hD1.1
      obtain ⟨r1, r2, r3, r4, r5, r6, -, -, -, -⟩ := hD2.1
      have hn1 : n1 ≤ 512 := by have := hD1.1.2.2.2.2.2.2.1; have := HN1.out; omega
      have hn2 : n2 ≤ 512 := by have := hD2.1.2.2.2.2.2.2.1; have := HN2.out; omega
      have HU1 := hidd (pts_up hD1.2.2)
      have HU2 := hidd (pts_up hD2.2.2)
      have HDD : Hid (dgB s1 p1 c1 z1 = true ∧ dgB s2 p2 c2 z2 = true) := ⟨hd1, hd2⟩
      clear hd1 hd2 hD1 hD2
      have a0 : W1.cell? ⟨w.heap.size, 0, none⟩ = some (.int .i64 s1) := blkc HKa.out 0
      have a1 : W1.cell? ⟨w.heap.size, 1, none⟩ = some (.int .i64 p1) := blkc HKa.out 1
      have a2 : W1.cell? ⟨w.heap.size, 2, none⟩ = some (.int .i64 c1) := blkc HKa.out 2
      have a3 : W1.cell? ⟨w.heap.size, 3, none⟩ = some (.slice ad1 n1 k1) := blkc HKa.out 3
      have b0 : W1.cell? ⟨w.heap.size + 1, 0, none⟩ = some (.int .i64 s2) := blkc HKb.out 0
      have b1 : W1.cell? ⟨w.heap.size + 1, 1, none⟩ = some (.int .i64 p2) := blkc HKb.out 1
      have b2 : W1.cell? ⟨w.heap.size + 1, 2, none⟩ = some (.int .i64 c2) := blkc HKb.out 2
      have b3 : W1.cell? ⟨w.heap.size + 1, 3, none⟩ = some (.slice ad2 n2 k2) := blkc HKb.out 3
      by_cases hR : s1 = s2 ∧ p1 + p2 ≤ 4096 ∧ c1 + c2 ≤ 4611686018427387903
      · have HRR := hidd hR
        have e1 : (s1 != s2) = false := by simp [hR.1]
        have e2 : ¬ (4096 : Int) < p1 + p2 := by omega
        have e3 : ¬ (4611686018427387903 : Int) - c2 < c1 := by omega
        have e4 : ¬ (4611686018427387903 : Int) < c1 + c2 := by omega
        clear hR
        by_cases hM : n1 + n2 ≤ 512
        · have e5 : ¬ (512 : Int) < (n1 : Int) + (n2 : Int) := by omega
          have HJ : Hid (J = ((s1, p1 + p2, c1 + c2, srtZ (z1 ++ z2)), 0)) := by show _ = _; rw [← HJJ.out]; unfold joZ; rw [if_pos HDD.out, if_pos HRR.out, if_pos (by have := HN1.out; have := HN2.out; omega)]
          have HL9 : Hid ((z1 ++ z2).length = n1 + n2) := by show _ = _; rw [List.length_append, HN1.out, HN2.out]
          go_upto_region 7 with fail
          refine wp_region_held (S := fun u => u.cell? ⟨w.heap.size, 3, none⟩ = some (.slice ad1 n1 k1) ∧ u.cell? ⟨w.heap.size + 1, 3, none⟩ = some (.slice ad2 n2 k2)) (by kernel_rfl) ?_
          have hbd : Below W1.heap.size W1 ({ heap := W1.heap, tape := W1.tape, drawn := W1.drawn + 1, os := W1.os, output := W1.output } : World) := (Below.refl _ _).drew
          generalize ({ heap := W1.heap, tape := W1.tape, drawn := W1.drawn + 1, os := W1.os, output := W1.output } : World) = Wd at *
          have hSd : (fun u => u.cell? ⟨w.heap.size, 3, none⟩ = some (.slice ad1 n1 k1) ∧ u.cell? ⟨w.heap.size + 1, 3, none⟩ = some (.slice ad2 n2 k2)) Wd := ⟨(hbd.cell (cell_lt a3)).trans a3, (hbd.cell (cell_lt b3)).trans b3⟩
          try simp only [Act.put, List.getElem_toArray, List.getElem_cons_succ, List.getElem_cons_zero, List.setIfInBounds_toArray, List.set_cons_zero, List.set_cons_succ]
          refine tkX 1 (hS := hSd) (h := ?_)
          try simp only [Act.put, List.getElem_toArray, List.getElem_cons_succ, List.getElem_cons_zero, List.setIfInBounds_toArray, List.set_cons_zero, List.set_cons_succ]
          refine tkX 2 (v := .slice ad1 n1 k1) (hS := hSd) (h := ?_)
          try simp only [Act.put, List.getElem_toArray, List.getElem_cons_succ, List.getElem_cons_zero, List.setIfInBounds_toArray, List.set_cons_zero, List.set_cons_succ]
          refine tkX 4 (hS := hSd) (h := ?_)
          try simp only [Act.put, List.getElem_toArray, List.getElem_cons_succ, List.getElem_cons_zero, List.setIfInBounds_toArray, List.set_cons_zero, List.set_cons_succ]
          refine tkX 5 (v := .slice ad2 n2 k2) (hS := hSd) (h := ?_)
          try simp only [Act.put, List.getElem_toArray, List.getElem_cons_succ, List.getElem_cons_zero, List.setIfInBounds_toArray, List.set_cons_zero, List.set_cons_succ]
          refine wpAnyH_one 0 (by kernel_rfl) ?_
          refine wpOp_val _ _ rfl (by kernel_rfl) (exec_emptyN _ _ _ rfl) ?_
          have HBd := hidd (HB1.out.trans (hbd.mono HB1.out.size))
          have HBe : Hid (Below Wd.heap.size Wd (Wd.alloc (.cells #[] 3))) := (Below.refl _ _).alloc (Nat.le_refl _) _
          have HOe := hidd (own_empty Wd 3)
          have HKad := hidd (blko (blko HKa.out hbd) HBe.out)
          have HKbd := hidd (blko (blko HKb.out hbd) HBe.out)
          have HKrd := hidd (blko (blko HKr.out hbd) HBe.out)
          have HBf := hidd (HBd.out.trans (HBe.out.mono HBd.out.size))
          refine ⟨⟨blkc HKad.out 3, blkc HKbd.out 3⟩, ?_⟩
          try simp only [Act.put, List.getElem_toArray, List.getElem_cons_succ, List.getElem_cons_zero, List.setIfInBounds_toArray, List.set_cons_zero, List.set_cons_succ]
          refine wpAnyH_one 3 (by kernel_rfl) ?_
          refine wpOp_szApp rfl (by kernel_rfl) _ _ rfl Wd.heap.size Wd.heap.size 0 [] rfl HOe.out (.slice ad1 n1 k1) z1 (by kernel_rfl) (HV1.out.below HBf.out) (by have := HN1.out; simp; omega) (by simp) ?_
          intro g2 c3 W2 h2 hg2 hat2
          have HO2' : Hid (W2.ownsRow Wd.heap.size 3 1 (.slice (some ⟨g2, 0, none⟩) z1.length c3) z1.length (zI z1)) := by show World.ownsRow _ _ _ _ _ _ _; simpa using h2
          have hg2w : Wd.heap.size ≤ g2 := by rcases hat2 with h | h
                                              · omega
                                              · simp at h; omega
          have HB2 := hidd (grown_b HBf.out HBf.out.size hg2 HBd.out.size)
          have hBB2 : Below Wd.heap.size Wd W2 := grown_b HBe.out HBe.out.size hg2 (Nat.le_refl _)
          have HKa2 := hidd (blko (blko HKa.out hbd) hBB2)
          have HKb2 := hidd (blko (blko HKb.out hbd) hBB2)
          have HKr2 := hidd (blko (blko HKr.out hbd) hBB2)
          clear h2 hg2 hat2
          refine ⟨⟨blkc HKa2.out 3, blkc HKb2.out 3⟩, ?_⟩
          try simp only [Act.put, List.getElem_toArray, List.getElem_cons_succ, List.getElem_cons_zero, List.setIfInBounds_toArray, List.set_cons_zero, List.set_cons_succ]
          refine wpAnyH_one 6 (by kernel_rfl) ?_
          refine wpOp_szAppN rfl (by kernel_rfl) _ _ rfl Wd.heap.size g2 c3 z1 (by kernel_rfl) HO2'.out (.slice ad2 n2 k2) z2 (by kernel_rfl) (HV2.out.below HB2.out) (by have := HN1.out; have := HN2.out; omega) hBB2.size ?_
          intro g4 c4 W3 N9 hN9 h3 hg3 hat3
          have HO3 := hidd h3
          have hg4w : Wd.heap.size ≤ g4 := by have := hBB2.size; rcases hat3 with h | h <;> omega
          have HB3 := hidd (grown_b HB2.out HB2.out.size hg3 (Nat.le_trans HBd.out.size hg2w))
          have hBB3 : Below Wd.heap.size Wd W3 := grown_b hBB2 hBB2.size hg3 hg2w
          have HKa3 := hidd (blko (blko HKa.out hbd) hBB3)
          have HKb3 := hidd (blko (blko HKb.out hbd) hBB3)
          have HKr3 := hidd (blko (blko HKr.out hbd) hBB3)
          clear h3 hg3 hat3
          refine ⟨⟨blkc HKa3.out 3, blkc HKb3.out 3⟩, ?_⟩
          try simp only [Act.put, List.getElem_toArray, List.getElem_cons_succ, List.getElem_cons_zero, List.setIfInBounds_toArray, List.set_cons_zero, List.set_cons_succ]
          have hS3 : (fun u => u.cell? ⟨w.heap.size, 3, none⟩ = some (.slice ad1 n1 k1) ∧ u.cell? ⟨w.heap.size + 1, 3, none⟩ = some (.slice ad2 n2 k2)) W3 := ⟨blkc HKa3.out 3, blkc HKb3.out 3⟩
          refine tkX 7 (hS := hS3) (h := ?_)
          try simp only [Act.put, List.getElem_toArray, List.getElem_cons_succ, List.getElem_cons_zero, List.setIfInBounds_toArray, List.set_cons_zero, List.set_cons_succ]
          refine wpAnyH_done (by kernel_rfl) ?_ _
          clear hSd hS3 a0 a1 a2 a3 b0 b1 b2 b3 HKad HKbd HKrd HKa2 HKb2 HKr2
          have HSz := hidd (SzI.own HO3.out)
          have HSo : Hid (∀ V, Below W3.heap.size W3 V → Calls Try.prog 37 #[.slice (some ⟨g4, 0, none⟩) (z1 ++ z2).length c4] V fun e w' => ∃ g c, e = .returned (.slice (some ⟨g, 0, none⟩) (z1 ++ z2).length c) ∧ w'.ownsRow V.heap.size 3 1 (.slice (some ⟨g, 0, none⟩) (z1 ++ z2).length c) (z1 ++ z2).length (zI (srtZ (z1 ++ z2))) ∧ Below V.heap.size V w') := fun V hV => sort_any (z1 ++ z2) _ V (by rw [HL9.out]; omega) (HSz.out.below hV)
          rw [hN9.out] at HSo HL9
          replace HL9 := hidd hN9.out
          clear hN9
          have a0 : W3.cell? ⟨w.heap.size, 0, none⟩ = some (.int .i64 s1) := blkc HKa3.out 0
          have a1 : W3.cell? ⟨w.heap.size, 1, none⟩ = some (.int .i64 p1) := blkc HKa3.out 1
          have a2 : W3.cell? ⟨w.heap.size, 2, none⟩ = some (.int .i64 c1) := blkc HKa3.out 2
          have b1 : W3.cell? ⟨w.heap.size + 1, 1, none⟩ = some (.int .i64 p2) := blkc HKb3.out 1
          have b2 : W3.cell? ⟨w.heap.size + 1, 2, none⟩ = some (.int .i64 c2) := blkc HKb3.out 2
          have wp1 : IntKind.i64.wrap (p1 + p2) = p1 + p2 := by rw [IntKind.wrap_i64]; omega
          have wp2 : IntKind.i64.wrap (c1 + c2) = c1 + c2 := by rw [IntKind.wrap_i64]; omega
          go_upto_region 8 with fail
          refine wp_region_held (S := fun u => u.cell? ⟨w.heap.size, 0, none⟩ = some (.int .i64 s1) ∧ u.cell? ⟨w.heap.size, 1, none⟩ = some (.int .i64 p1) ∧ u.cell? ⟨w.heap.size, 2, none⟩ = some (.int .i64 c1) ∧ u.cell? ⟨w.heap.size + 1, 1, none⟩ = some (.int .i64 p2) ∧ u.cell? ⟨w.heap.size + 1, 2, none⟩ = some (.int .i64 c2)) (by kernel_rfl) ?_
          have hbe : Below W3.heap.size W3 ({ heap := W3.heap, tape := W3.tape, drawn := W3.drawn + 1, os := W3.os, output := W3.output } : World) := (Below.refl _ _).drew
          generalize ({ heap := W3.heap, tape := W3.tape, drawn := W3.drawn + 1, os := W3.os, output := W3.output } : World) = W5 at *
          have hS5 : (fun u => u.cell? ⟨w.heap.size, 0, none⟩ = some (.int .i64 s1) ∧ u.cell? ⟨w.heap.size, 1, none⟩ = some (.int .i64 p1) ∧ u.cell? ⟨w.heap.size, 2, none⟩ = some (.int .i64 c1) ∧ u.cell? ⟨w.heap.size + 1, 1, none⟩ = some (.int .i64 p2) ∧ u.cell? ⟨w.heap.size + 1, 2, none⟩ = some (.int .i64 c2)) W5 := ⟨(hbe.cell (cell_lt a0)).trans a0, (hbe.cell (cell_lt a1)).trans a1, (hbe.cell (cell_lt a2)).trans a2, (hbe.cell (cell_lt b1)).trans b1, (hbe.cell (cell_lt b2)).trans b2⟩
          try simp only [Act.put, List.getElem_toArray, List.getElem_cons_succ, List.getElem_cons_zero, List.setIfInBounds_toArray, List.set_cons_zero, List.set_cons_succ]
          refine tkX 0 (hS := hS5) (h := ?_)
          try simp only [Act.put, List.getElem_toArray, List.getElem_cons_succ, List.getElem_cons_zero, List.setIfInBounds_toArray, List.set_cons_zero, List.set_cons_succ]
          refine tkX 1 (v := .int .i64 s1) (hS := hS5) (h := ?_)
          try simp only [Act.put, List.getElem_toArray, List.getElem_cons_succ, List.getElem_cons_zero, List.setIfInBounds_toArray, List.set_cons_zero, List.set_cons_succ]
          refine tkX 2 (hS := hS5) (h := ?_)
          try simp only [Act.put, List.getElem_toArray, List.getElem_cons_succ, List.getElem_cons_zero, List.setIfInBounds_toArray, List.set_cons_zero, List.set_cons_succ]
          refine tkX 3 (v := .int .i64 p1) (hS := hS5) (h := ?_)
          try simp only [Act.put, List.getElem_toArray, List.getElem_cons_succ, List.getElem_cons_zero, List.setIfInBounds_toArray, List.set_cons_zero, List.set_cons_succ]
          refine tkX 4 (hS := hS5) (h := ?_)
          try simp only [Act.put, List.getElem_toArray, List.getElem_cons_succ, List.getElem_cons_zero, List.setIfInBounds_toArray, List.set_cons_zero, List.set_cons_succ]
          refine tkX 5 (v := .int .i64 p2) (hS := hS5) (h := ?_)
          try simp only [Act.put, List.getElem_toArray, List.getElem_cons_succ, List.getElem_cons_zero, List.setIfInBounds_toArray, List.set_cons_zero, List.set_cons_succ]
          refine tkX 6 (v := .int .i64 (p1 + p2)) (hS := hS5) (h := ?_)
          try simp only [Act.put, List.getElem_toArray, List.getElem_cons_succ, List.getElem_cons_zero, List.setIfInBounds_toArray, List.set_cons_zero, List.set_cons_succ]
          refine tkX 7 (hS := hS5) (h := ?_)
          try simp only [Act.put, List.getElem_toArray, List.getElem_cons_succ, List.getElem_cons_zero, List.setIfInBounds_toArray, List.set_cons_zero, List.set_cons_succ]
          refine tkX 8 (v := .int .i64 c1) (hS := hS5) (h := ?_)
          try simp only [Act.put, List.getElem_toArray, List.getElem_cons_succ, List.getElem_cons_zero, List.setIfInBounds_toArray, List.set_cons_zero, List.set_cons_succ]
          refine tkX 9 (hS := hS5) (h := ?_)
          try simp only [Act.put, List.getElem_toArray, List.getElem_cons_succ, List.getElem_cons_zero, List.setIfInBounds_toArray, List.set_cons_zero, List.set_cons_succ]
          refine tkX 10 (v := .int .i64 c2) (hS := hS5) (h := ?_)
          try simp only [Act.put, List.getElem_toArray, List.getElem_cons_succ, List.getElem_cons_zero, List.setIfInBounds_toArray, List.set_cons_zero, List.set_cons_succ]
          refine tkX 11 (v := .int .i64 (c1 + c2)) (hS := hS5) (h := ?_)
          try simp only [Act.put, List.getElem_toArray, List.getElem_cons_succ, List.getElem_cons_zero, List.setIfInBounds_toArray, List.set_cons_zero, List.set_cons_succ]
          refine tkX 12 (hS := hS5) (h := ?_)
          try simp only [Act.put, List.getElem_toArray, List.getElem_cons_succ, List.getElem_cons_zero, List.setIfInBounds_toArray, List.set_cons_zero, List.set_cons_succ]
          refine wpAnyH_one 13 (by kernel_rfl) ?_
          refine wpOp_call 37 #[.slice (some ⟨g4, 0, none⟩) N9 c4] rfl (by kernel_rfl) (rbx_call1 _ _ _ _ _ _ rfl _ (by kernel_rfl) (Try.call37 _ _)) ?_
          refine (HSo.out W5 hbe).mono ?_
          rintro e W6 ⟨g9, k9, rfl, ho9, hb9⟩
          have hb39 := hbe.trans (hb9.mono hbe.size)
          have HB9 := hidd (HB3.out.trans (hb39.mono HB3.out.size))
          have HKa9 := hidd (blko HKa3.out hb39)
          have HKb9 := hidd (blko HKb3.out hb39)
          have HKr9 := hidd (blko HKr3.out hb39)
          have HO9 := hidd (own_mono ho9 (Nat.le_trans HB3.out.size hbe.size))
          clear ho9 hb9
          have hS9 : (fun u => u.cell? ⟨w.heap.size, 0, none⟩ = some (.int .i64 s1) ∧ u.cell? ⟨w.heap.size, 1, none⟩ = some (.int .i64 p1) ∧ u.cell? ⟨w.heap.size, 2, none⟩ = some (.int .i64 c1) ∧ u.cell? ⟨w.heap.size + 1, 1, none⟩ = some (.int .i64 p2) ∧ u.cell? ⟨w.heap.size + 1, 2, none⟩ = some (.int .i64 c2)) W6 := ⟨blkc HKa9.out 0, blkc HKa9.out 1, blkc HKa9.out 2, blkc HKb9.out 1, blkc HKb9.out 2⟩
          refine ⟨hS9, ?_⟩
          try simp only [Act.put, List.getElem_toArray, List.getElem_cons_succ, List.getElem_cons_zero, List.setIfInBounds_toArray, List.set_cons_zero, List.set_cons_succ]
          refine wpAnyH_take (i := 14) (v := .agg #[.int .i64 s1, .int .i64 (p1 + p2), .int .i64 (c1 + c2), .slice (some ⟨g9, 0, none⟩) N9 k9]) rfl (by kernel_rfl) (by kernel_rfl) (by kernel_rfl) (fun _ _ _ h => h) (Or.inl ⟨by kernel_rfl, fun W hW => exec_buildD W _ _ _ _ _ _ rfl s1 (p1 + p2) (c1 + c2) (some ⟨g9, 0, none⟩) N9 k9 (by kernel_rfl) (by kernel_rfl) (by kernel_rfl) (by kernel_rfl)⟩) hS9 ?_
          try simp only [Act.put, List.getElem_toArray, List.getElem_cons_succ, List.getElem_cons_zero, List.setIfInBounds_toArray, List.set_cons_zero, List.set_cons_succ]
          have HR := hidd (ret4 (.int .i64 s1) (.int .i64 (p1 + p2)) (.int .i64 (c1 + c2)) (.slice (some ⟨g9, 0, none⟩) N9 k9) HB9.out (show w.heap.size ≤ w.heap.size + 1 + 1 by omega) HKr9.out)
          refine wpAnyH_one 15 (by kernel_rfl) ?_
          refine wpOp_skip _ rfl (by kernel_rfl) (exec_storeD W6 _ _ _ _ rfl (w.heap.size + 1 + 1) _ _ _ _ s1 (p1 + p2) (c1 + c2) (some ⟨g9, 0, none⟩) N9 k9 (by kernel_rfl) (by kernel_rfl) HKr9.out) ?_
          have q0 := blkc HR.out.2 0
          have q1 := blkc HR.out.2 1
          have q2 := blkc HR.out.2 2
          have q3 := blkc HR.out.2 3
          have HKa10 := hidd ((set4o (b := w.heap.size + 1 + 1) (W := W6) (.int .i64 s1) (.int .i64 (p1 + p2)) (.int .i64 (c1 + c2)) (.slice (some ⟨g9, 0, none⟩) N9 k9) (x := w.heap.size) (by omega)).trans HKa9.out)
          have HKb10 := hidd ((set4o (b := w.heap.size + 1 + 1) (W := W6) (.int .i64 s1) (.int .i64 (p1 + p2)) (.int .i64 (c1 + c2)) (.slice (some ⟨g9, 0, none⟩) N9 k9) (x := w.heap.size + 1) (by omega)).trans HKb9.out)
          refine ⟨⟨blkc HKa10.out 0, blkc HKa10.out 1, blkc HKa10.out 2, blkc HKb10.out 1, blkc HKb10.out 2⟩, ?_⟩
          try simp only [Act.put, List.getElem_toArray, List.getElem_cons_succ, List.getElem_cons_zero, List.setIfInBounds_toArray, List.set_cons_zero, List.set_cons_succ]
          refine tkX 16 (hS := ⟨blkc HKa10.out 0, blkc HKa10.out 1, blkc HKa10.out 2, blkc HKb10.out 1, blkc HKb10.out 2⟩) (h := ?_)
          try simp only [Act.put, List.getElem_toArray, List.getElem_cons_succ, List.getElem_cons_zero, List.setIfInBounds_toArray, List.set_cons_zero, List.set_cons_succ]
          refine wpAnyH_done (by kernel_rfl) ?_ _
          clear hS5 hS9 a0 a1 a2 b1 b2 HKa10 HKb10 HKa9 HKb9 wp1 wp2
          go_wp2_with fail
          refine bodyPost_ret (v := .tuple #[.agg #[.int .i64 s1, .int .i64 (p1 + p2), .int .i64 (c1 + c2), .slice (some ⟨g9, 0, none⟩) N9 k9], .int .i64 0]) (by simp [results, Try.results18, go_sem, q0, q1, q2, q3]) rfl ?_
          rw [HJ.out]
          refine ⟨_, rfl, ?_, HR.out.1⟩
          show World.ownsRow _ _ _ _ _ (srtZ (z1 ++ z2)).length (zI (srtZ (z1 ++ z2)))
          rw [srtZ_len, HL9.out]
          refine own_congr (HO9.out) (fun b hb => set4o _ _ _ _ (fun e => ?_))
          subst e
          obtain ⟨_, cur, h5⟩ := own_blk HO9.out hb
          exact blk_ne HKr9.out h5 (by decide) rfl
        · have e5 : (512 : Int) < (n1 : Int) + (n2 : Int) := by omega
          have HJ : Hid (J = ((0, 0, 0, []), 11)) := by show _ = _; rw [← HJJ.out]; unfold joZ; rw [if_pos HDD.out, if_pos HRR.out, if_neg (by have := HN1.out; have := HN2.out; omega)]
          go_upto_region 6 with fail
          have x0 := blkc HKr.out 0
          have x1 := blkc HKr.out 1
          have x2 := blkc HKr.out 2
          have x3 := blkc HKr.out 3
          have f0 := blkf HKr.out 0
          have f1 := blkf HKr.out 1
          have f2 := blkf HKr.out 2
          have f3 := blkf HKr.out 3
          have HR := hidd (ret4 (.int .i64 0) (.int .i64 0) (.int .i64 0) (.slice none 0 0) HB1.out (show w.heap.size ≤ w.heap.size + 1 + 1 by omega) HKr.out)
          have q0 := blkc HR.out.2 0
          have q1 := blkc HR.out.2 1
          have q2 := blkc HR.out.2 2
          have q3 := blkc HR.out.2 3
          go_wp2_with fail
          refine bodyPost_ret (v := .tuple #[.agg #[.int .i64 0, .int .i64 0, .int .i64 0, .slice none 0 0], .int .i64 11]) (by simp [results, Try.results18, go_sem, q0, q1, q2, q3]) rfl ?_
          rw [HJ.out]
          exact ⟨_, rfl, World.ownsRow_nil _ _ _ _, HR.out.1⟩
      · have HJ : Hid (J = ((0, 0, 0, []), 12)) := by show _ = _; rw [← HJJ.out]; unfold joZ; rw [if_pos HDD.out, if_neg hR]
        by_cases g1 : s1 = s2
        · have e1 : (s1 != s2) = false := by simp [g1]
          by_cases e2 : (4096 : Int) < p1 + p2
          · clear g1 hR
            go_upto_region 4 with fail
            have x0 := blkc HKr.out 0
            have x1 := blkc HKr.out 1
            have x2 := blkc HKr.out 2
            have x3 := blkc HKr.out 3
            have f0 := blkf HKr.out 0
            have f1 := blkf HKr.out 1
            have f2 := blkf HKr.out 2
            have f3 := blkf HKr.out 3
            have HR := hidd (ret4 (.int .i64 0) (.int .i64 0) (.int .i64 0) (.slice none 0 0) HB1.out (show w.heap.size ≤ w.heap.size + 1 + 1 by omega) HKr.out)
            have q0 := blkc HR.out.2 0
            have q1 := blkc HR.out.2 1
            have q2 := blkc HR.out.2 2
            have q3 := blkc HR.out.2 3
            go_wp2_with fail
            refine bodyPost_ret (v := .tuple #[.agg #[.int .i64 0, .int .i64 0, .int .i64 0, .slice none 0 0], .int .i64 12]) (by simp [results, Try.results18, go_sem, q0, q1, q2, q3]) rfl ?_
            rw [HJ.out]
            exact ⟨_, rfl, World.ownsRow_nil _ _ _ _, HR.out.1⟩
          · have e3 : (4611686018427387903 : Int) - c2 < c1 := by omega
            have e4 : (4611686018427387903 : Int) < c1 + c2 := by omega
            clear g1 hR
            go_upto_region 4 with fail
            have x0 := blkc HKr.out 0
            have x1 := blkc HKr.out 1
            have x2 := blkc HKr.out 2
            have x3 := blkc HKr.out 3
            have f0 := blkf HKr.out 0
            have f1 := blkf HKr.out 1
            have f2 := blkf HKr.out 2
            have f3 := blkf HKr.out 3
            have HR := hidd (ret4 (.int .i64 0) (.int .i64 0) (.int .i64 0) (.slice none 0 0) HB1.out (show w.heap.size ≤ w.heap.size + 1 + 1 by omega) HKr.out)
            have q0 := blkc HR.out.2 0
            have q1 := blkc HR.out.2 1
            have q2 := blkc HR.out.2 2
            have q3 := blkc HR.out.2 3
            go_wp2_with fail
            refine bodyPost_ret (v := .tuple #[.agg #[.int .i64 0, .int .i64 0, .int .i64 0, .slice none 0 0], .int .i64 12]) (by simp [results, Try.results18, go_sem, q0, q1, q2, q3]) rfl ?_
            rw [HJ.out]
            exact ⟨_, rfl, World.ownsRow_nil _ _ _ _, HR.out.1⟩
        · have e1 : (s1 != s2) = true := by simp [g1]
          clear g1 hR
          go_upto_region 4 with fail
          have x0 := blkc HKr.out 0
          have x1 := blkc HKr.out 1
          have x2 := blkc HKr.out 2
          have x3 := blkc HKr.out 3
          have f0 := blkf HKr.out 0
          have f1 := blkf HKr.out 1
          have f2 := blkf HKr.out 2
          have f3 := blkf HKr.out 3
          have HR := hidd (ret4 (.int .i64 0) (.int .i64 0) (.int .i64 0) (.slice none 0 0) HB1.out (show w.heap.size ≤ w.heap.size + 1 + 1 by omega) HKr.out)
          have q0 := blkc HR.out.2 0
          have q1 := blkc HR.out.2 1
          have q2 := blkc HR.out.2 2
          have q3 := blkc HR.out.2 3
          go_wp2_with fail
          refine bodyPost_ret (v := .tuple #[.agg #[.int .i64 0, .int .i64 0, .int .i64 0, .slice none 0 0], .int .i64 12]) (by simp [results, Try.results18, go_sem, q0, q1, q2, q3]) rfl ?_
          rw [HJ.out]
          exact ⟨_, rfl, World.ownsRow_nil _ _ _ _, HR.out.1⟩
end Go.Proofs.Ytkgmghncpjhodaa
