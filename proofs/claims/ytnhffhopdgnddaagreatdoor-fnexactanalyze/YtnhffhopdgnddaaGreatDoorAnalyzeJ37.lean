import Derived.Test.YtnhffhopdgnddaaGreatDoorAnalyzeJ04
import Derived.Test.YtnhffhopdgnddaaGreatDoorAnalyzeJ07
import Derived.Test.YtnhffhopdgnddaaGreatDoorAnalyzeJ35
import Derived.Test.YtnhffhopdgnddaaGreatDoorAnalyzeJ36
import Derived.Test.YtnhffhopdgnddaaGreatDoorAnalyzeJ28
namespace Go.Proofs.YtnhffhopdgnddaaGreatDoor
open Go Go.RowKit
set_option linter.unusedVariables false
set_option linter.unusedSimpArgs false
set_option maxRecDepth 100000

theorem azGo_len (F : List UInt8 → List (List UInt8) × Int) : ∀ (l o : List Tk), o.length ≤ 8192 → (azGo F o l).1.length ≤ 8192
  | [], o, h => by rw [azGo]; exact h
  | k :: ks, o, h => by
    rw [azGo]
    split
    · split
      · rename_i h1
        exact azGo_len F ks _ h1
      · exact Nat.zero_le _
    · exact Nat.zero_le _
theorem anOf_len (fo st ph : Bool) (stops : List (List UInt8)) (syns : List (List UInt8 × List UInt8)) (lo hi : Int) (s : ByteArray) : (anOf fo st ph stops syns lo hi s).1.length ≤ 8192 := by
  unfold anOf
  repeat' split
  · exact Nat.zero_le _
  · exact azGo_len _ _ _ (Nat.zero_le _)
  · exact Nat.zero_le _
  · exact Nat.zero_le _
theorem rowM_own {w : World} {base e sz g n cap : Nat} {xs : List Value} (h : w.ownsRow base e sz (.slice (some ⟨g, 0, none⟩) n cap) n xs) : RowM w g (n * sz) e := by
  rcases h.2 with ⟨h', _⟩ | ⟨g', cap', cur, h1, h2, h3, h4, h5, h6, h7⟩
  · cases h'
  · simp only [Value.slice.injEq, Option.some.injEq, Addr.mk.injEq, and_true, true_and] at h1
    obtain ⟨rfl, rfl⟩ := h1
    exact ⟨cur, h3, by rw [h6]; exact Nat.mul_le_mul_right _ h4⟩

set_option maxHeartbeats 16000000 in
theorem anLaw_any (bf bsm bp : Bool) (aS aY : Option Addr) (cS cY : Nat) (stops : List (List UInt8)) (syns : List (List UInt8 × List UInt8)) (lo hi : Int) (s : ByteArray) (w : World) (hT : Tabs w) (hnS : stops.length ≤ 9223372036854775807) (hnY : syns.length ≤ 9223372036854775807) (hS : HoldS w aS stops) (hY : HoldY w aY syns)
    (zS : ∀ t, t < stops.length → (bs (stops.getD t [])).size ≤ 9223372036854775807) (zY : ∀ t, t < syns.length → (bs (syns.getD t ([], [])).1).size ≤ 9223372036854775807 ∧ (bs (syns.getD t ([], [])).2).size ≤ 9223372036854775807) :
    Calls Tryz.prog 4 #[.agg #[.bool bf, .bool bsm, .bool bp, .slice aS stops.length cS, .slice aY syns.length cY, .int .i64 lo, .int .i64 hi], .string s] w fun e w' => e = .returned (.bool true) ∧ Below w.heap.size w w' := by
  have HB0 : Hid (Below w.heap.size w (w.alloc (.cells #[.bool bf, .bool bsm, .bool bp, .slice aS stops.length cS, .slice aY syns.length cY, .int .i64 lo, .int .i64 hi] 41))) := (Below.refl _ _).alloc (Nat.le_refl _) _
  by_cases hlong : 1048576 < s.size
  · have hlz : (1048576 : Int) < (s.size : Int) := by omega
    clear hT hS hY zS zY
    go_enter Tryz.func4, Tryz.ntmps4
    go_wp2_with fail
    go_ret
    exact ⟨rfl, HB0.out⟩
  have hlz : ¬ (1048576 : Int) < (s.size : Int) := by omega
  have hs1m : s.size ≤ 1048576 := by omega
  clear hlong
  have HT := hidd hT
  have HS := hidd hS
  have HY := hidd hY
  have ZS := hidd zS
  have ZY := hidd zY
  clear hT hS hY zS zY
  have hk0 : (w.alloc (.cells #[.bool bf, .bool bsm, .bool bp, .slice aS stops.length cS, .slice aY syns.length cY, .int .i64 lo, .int .i64 hi] 41)).heap[w.heap.size]? = some (.cells #[.bool bf, .bool bsm, .bool bp, .slice aS stops.length cS, .slice aY syns.length cY, .int .i64 lo, .int .i64 hi] 41) := heap_alloc_new _ _
  go_enter Tryz.func4, Tryz.ntmps4
  go_wp2_with fail
  generalize w.alloc (.cells #[.bool bf, .bool bsm, .bool bp, .slice aS stops.length cS, .slice aY syns.length cY, .int .i64 lo, .int .i64 hi] 41) = w0 at *
  generalize hB : w.heap.size = B at *
  have HK0 := hidd hk0
  clear hk0
  refine (szAz_any bf bsm bp aS aY cS cY stops syns lo hi w0 hnS hnY (HS.out.below (by rw [hB]; exact HB0.out)) (HY.out.below (by rw [hB]; exact HB0.out)) ZS.out ZY.out).mono ?_
  rintro e w1 ⟨rfl, hb1⟩
  have HB1 : Hid (Below B w w1) := HB0.out.trans (hb1.mono (by have := HB0.out.size; omega))
  have HK1 : Hid (w1.heap[B]? = some (.cells #[.bool bf, .bool bsm, .bool bp, .slice aS stops.length cS, .slice aY syns.length cY, .int .i64 lo, .int .i64 hi] 41)) := blk_old HK0.out hb1
  clear hb1 HK0 HB0
  have hOK : ¬ szAz 1048576 stops syns < 0 → _ := fun h => szAz_ok (Int.not_lt.1 h)
  have HOK := hidd hOK
  clear hOK
  by_cases hneg : szAz 1048576 stops syns < 0
  · clear HOK
    generalize szAz 1048576 stops syns = z at *
    go_wp2_with fail
    go_ret
    rw [hB]
    exact ⟨rfl, HB1.out⟩
  obtain ⟨mS, mY, vS, vY⟩ := HOK.out hneg
  have VS := hidd vS
  have VY := hidd vY
  clear HOK vS vY
  have hng : ¬ szAz 1048576 stops syns < 0 := hneg
  clear hneg
  generalize szAz 1048576 stops syns = z at *
  have hB1 : w.heap.size ≤ w1.heap.size := by have := HB1.out.size; omega
  obtain ⟨L, hLe⟩ : ∃ L, (anOf bf bsm bp stops syns lo hi s).1 = L := ⟨_, rfl⟩
  obtain ⟨C, hCe⟩ : ∃ C, (anOf bf bsm bp stops syns lo hi s).2 = C := ⟨_, rfl⟩
  have HLC : Hid (anOf bf bsm bp stops syns lo hi s = (L, C)) := by show _ = _; rw [← hLe, ← hCe]
  have hn : L.length ≤ 8192 := by rw [← hLe]; exact anOf_len bf bsm bp stops syns lo hi s
  clear hLe hCe
  have c0 := blk_cell HK1.out 0
  have c1 := blk_cell HK1.out 1
  have c2 := blk_cell HK1.out 2
  have c3 := blk_cell HK1.out 3
  have c4 := blk_cell HK1.out 4
  have c5 := blk_cell HK1.out 5
  have c6 := blk_cell HK1.out 6
  simp only [List.getElem?_toArray, List.getElem?_cons_zero, List.getElem?_cons_succ] at c0 c1 c2 c3 c4 c5 c6
  go_wp2_with fail
  clear c0 c1 c2 c3 c4 c5 c6
  refine (toAz_any bf bsm bp aS aY cS cY stops syns lo hi w1 mS mY (HS.out.below (by rw [hB]; exact HB1.out)) (HY.out.below (by rw [hB]; exact HB1.out))).mono ?_
  rintro e w2 ⟨g1, g2, rfl, ho1, ho2, _, hb2⟩
  have HSs := hidd (holdS_own ho1)
  have HYs := hidd (holdY_own ho2)
  have HB2 : Hid (Below B w w2) := HB1.out.trans (hb2.mono (by omega))
  have HK2 := hidd (blk_old HK1.out hb2)
  clear ho1 ho2 hb2
  go_wp2_with fail
  refine (specAnalyze_any bf bsm bp (some ⟨g1, 0, none⟩) (some ⟨g2, 0, none⟩) stops.length syns.length stops syns lo hi s w2 HSs.out HYs.out VS.out VY.out mS mY hs1m L C HLC).mono ?_
  rintro e w3 ⟨v0, rfl, hown0, hb3⟩
  have HO0 := hidd hown0
  have hz2 := HB2.out.size
  have HB3 : Hid (Below B w w3) := HB2.out.trans (hb3.mono (by omega))
  have HK3 := hidd (blk_old HK2.out hb3)
  have hz23 := hb3.size
  have hBl3 : B < w3.heap.size := (Array.getElem?_eq_some_iff.1 HK3.out).1
  clear hb3 HSs HYs hown0
  have c0 := blk_cell HK3.out 0
  have c1 := blk_cell HK3.out 1
  have c2 := blk_cell HK3.out 2
  have c3 := blk_cell HK3.out 3
  have c4 := blk_cell HK3.out 4
  have c5 := blk_cell HK3.out 5
  have c6 := blk_cell HK3.out 6
  simp only [List.getElem?_toArray, List.getElem?_cons_zero, List.getElem?_cons_succ] at c0 c1 c2 c3 c4 c5 c6
  go_wp2_with fail
  clear c0 c1 c2 c3 c4 c5 c6
  have hz3 := HB3.out.size
  refine (toAz_any bf bsm bp aS aY cS cY stops syns lo hi w3 mS mY (HS.out.below (by rw [hB]; exact HB3.out)) (HY.out.below (by rw [hB]; exact HB3.out))).mono ?_
  rintro e w4 ⟨p1, p2, rfl, ho1, ho2, hpp, hb4⟩
  have HB4 : Hid (Below B w w4) := HB3.out.trans (hb4.mono (by omega))
  have HK4 := hidd (blk_old HK3.out hb4)
  have HSs := hidd (holdS_own ho1)
  have HYs := hidd (holdY_own ho2)
  have HM1 := hidd (rowM_own ho1)
  have HM2 := hidd (rowM_own ho2)
  have hp1 : w3.heap.size ≤ p1 := own_block ho1 p1 rfl
  have hp2 : w3.heap.size ≤ p2 := by
    rcases ho2.2 with ⟨h', _⟩ | ⟨g', cap', cur, h1, h2, _⟩
    · cases h'
    · simp only [Value.slice.injEq, Option.some.injEq, Addr.mk.injEq, and_true, true_and] at h1
      rw [h1.1]; exact h2
  have hl1 := HM1.out.lt
  have hl2 := HM2.out.lt
  have HO04 := hidd (own4_below HO0.out hb4)
  have hv0 : ∀ b, v0.ownBlock = some b → b < w3.heap.size := own4_lt HO0.out
  have HV0 := hidd hv0
  clear ho1 ho2 hb4 hv0
  go_wp2_with fail
  have hz4 := HB4.out.size
  have HB5 : Hid (Below B w (w4.alloc (.cells #[.bool bf, .bool bsm, .bool bp, .slice (some ⟨p1, 0, none⟩) stops.length stops.length, .slice (some ⟨p2, 0, none⟩) syns.length syns.length, .int .i64 lo, .int .i64 hi] 26))) := HB4.out.alloc (by omega) _
  have hk5 : (w4.alloc (.cells #[.bool bf, .bool bsm, .bool bp, .slice (some ⟨p1, 0, none⟩) stops.length stops.length, .slice (some ⟨p2, 0, none⟩) syns.length syns.length, .int .i64 lo, .int .i64 hi] 26)).heap[w4.heap.size]? = some (.cells #[.bool bf, .bool bsm, .bool bp, .slice (some ⟨p1, 0, none⟩) stops.length stops.length, .slice (some ⟨p2, 0, none⟩) syns.length syns.length, .int .i64 lo, .int .i64 hi] 26) := heap_alloc_new _ _
  have hu5 : Below w4.heap.size w4 (w4.alloc (.cells #[.bool bf, .bool bsm, .bool bp, .slice (some ⟨p1, 0, none⟩) stops.length stops.length, .slice (some ⟨p2, 0, none⟩) syns.length syns.length, .int .i64 lo, .int .i64 hi] 26)) := (Below.refl _ _).alloc (Nat.le_refl _) _
  have HK5 := hidd (blk_old HK4.out hu5)
  have HS5 := hidd (HSs.out.below hu5)
  have HY5 := hidd (HYs.out.below hu5)
  have HM15 := hidd (HM1.out.below hu5)
  have HM25 := hidd (HM2.out.below hu5)
  have HO05 := hidd (own4_below HO04.out hu5)
  have hz45 := hu5.size
  clear hu5 HSs HYs HB4 HK4 HM1 HM2 HO04 HO0
  generalize w4.alloc (.cells #[.bool bf, .bool bsm, .bool bp, .slice (some ⟨p1, 0, none⟩) stops.length stops.length, .slice (some ⟨p2, 0, none⟩) syns.length syns.length, .int .i64 lo, .int .i64 hi] 26) = w5 at *
  generalize hXe : w4.heap.size = X at *
  have HX5 := hidd hk5
  clear hk5
  refine (implAnalyze_any bf bsm bp (some ⟨p1, 0, none⟩) (some ⟨p2, 0, none⟩) stops.length syns.length stops syns lo hi s w5 (HT.out.below (by rw [hB]; exact HB5.out)) HS5.out HY5.out VS.out VY.out mS mY hs1m).mono ?_
  rw [HLC.out]
  rintro e w6 ⟨v1, rfl, hown1, hb6⟩
  dsimp only at hown1 ⊢
  have HO16 := hidd hown1
  have hz5 := HB5.out.size
  have HB6 : Hid (Below B w w6) := HB5.out.trans (hb6.mono (by omega))
  have HK6 := hidd (blk_old HK5.out hb6)
  have HX6 := hidd (blk_old HX5.out hb6)
  have HS6 := hidd (HS5.out.below hb6)
  have HY6 := hidd (HY5.out.below hb6)
  have HM16 := hidd (HM15.out.below hb6)
  have HM26 := hidd (HM25.out.below hb6)
  have HO06 := hidd (own4_below HO05.out hb6)
  have hz56 := hb6.size
  have hCC : (C != C) = false := by simp
  clear hb6 HS5 HY5 HX5 HK5 HB5 HM15 HM25 HO05 hown1
  have hz6 := HB6.out.size
  go_wp2_with fail
  refine (eqToks_own _ _ v1 v0 L _ (by omega) HO16.out HO06.out).mono ?_
  rintro e w6b ⟨rfl, hb6b⟩
  have HB6b : Hid (Below B w w6b) := HB6.out.trans (hb6b.mono (by omega))
  have HK6b := hidd (blk_old HK6.out hb6b)
  have HX6b := hidd (blk_old HX6.out hb6b)
  have HS6b := hidd (HS6.out.below hb6b)
  have HY6b := hidd (HY6.out.below hb6b)
  have HM16b := hidd (HM16.out.below hb6b)
  have HM26b := hidd (HM26.out.below hb6b)
  have HO06b := hidd (own4_below HO06.out hb6b)
  have HO16b := hidd (own4_below HO16.out hb6b)
  have hz6b := hb6b.size
  clear hb6b HB6 HK6 HX6 HS6 HY6 HM16 HM26 HO06 HO16 hz6
  have hz6 := HB6b.out.size
  have HTA := hidd (fun (wx : World) (h1 : HoldS wx aS stops) (h2 : HoldY wx aY syns) => toAz_any bf bsm bp aS aY cS cY stops syns lo hi wx mS mY h1 h2)
  have HSd : Hid (HoldS w6b.drew aS stops ∧ HoldY w6b.drew aY syns) := ⟨HS.out.below (by rw [hB]; exact HB6b.out.drew), HY.out.below (by rw [hB]; exact HB6b.out.drew)⟩
  go_wp2_with fail
  refine wp_region_held_drew (S := fun w' => w'.heap[X]? = some (.cells #[.bool bf, .bool bsm, .bool bp, .slice (some ⟨p1, 0, none⟩) stops.length stops.length, .slice (some ⟨p2, 0, none⟩) syns.length syns.length, .int .i64 lo, .int .i64 hi] 26) ∧ w'.heap[B]? = some (.cells #[.bool bf, .bool bsm, .bool bp, .slice aS stops.length cS, .slice aY syns.length cY, .int .i64 lo, .int .i64 hi] 41)) (by kernel_rfl) ?_ (fun hHeld => ?_)
  · exact ⟨HX6b.out, HK6b.out⟩
  refine wpAnyH_take (i := 0) (v := ?_) rfl (by kernel_rfl) (by kernel_rfl) (by kernel_rfl) (fun _ _ _ h => h) (Or.inl ⟨by kernel_rfl, ?_⟩) (by assumption) ?_
  rotate_left
  · intro w hSw
    have hq := hSw.1
    have c0 := blk_cell hq 0
    have c1 := blk_cell hq 1
    have c2 := blk_cell hq 2
    have c3 := blk_cell hq 3
    have c4 := blk_cell hq 4
    have c5 := blk_cell hq 5
    have c6 := blk_cell hq 6
    simp only [List.getElem?_toArray, List.getElem?_cons_zero, List.getElem?_cons_succ] at c0 c1 c2 c3 c4 c5 c6
    clear hSw hq
    go_simp <;> with_reducible rfl
  (simp only [Act.put, List.getElem_toArray, List.getElem_cons_succ, List.getElem_cons_zero, List.setIfInBounds_toArray, List.set_cons_zero, List.set_cons_succ])
  refine wpAnyH_take (i := 1) (v := ?_) rfl (by kernel_rfl) (by kernel_rfl) (by kernel_rfl) (fun _ _ _ h => h) (Or.inl ⟨by kernel_rfl, ?_⟩) (by assumption) ?_
  rotate_left
  · intro w hSw
    have hq := hSw.2
    have c0 := blk_cell hq 0
    have c1 := blk_cell hq 1
    have c2 := blk_cell hq 2
    have c3 := blk_cell hq 3
    have c4 := blk_cell hq 4
    have c5 := blk_cell hq 5
    have c6 := blk_cell hq 6
    simp only [List.getElem?_toArray, List.getElem?_cons_zero, List.getElem?_cons_succ] at c0 c1 c2 c3 c4 c5 c6
    clear hSw hq
    go_simp <;> with_reducible rfl
  (simp only [Act.put, List.getElem_toArray, List.getElem_cons_succ, List.getElem_cons_zero, List.setIfInBounds_toArray, List.set_cons_zero, List.set_cons_succ])
  refine wpAnyH_ready (rs := [2]) (by kernel_rfl) (by simp) ?_
  refine AllReadyH.cons rfl (fun K hK => ?_) AllReadyH.nil
  go_simp
  refine (HTA.out _ HSd.out.1 HSd.out.2).mono ?_
  rintro e w7 ⟨r1, r2, rfl, ho1, ho2, _, hb7⟩
  have HB7 : Hid (Below B w w7) := HB6b.out.drew.trans (hb7.mono (by show B ≤ w6b.heap.size; omega))
  have HX7 : Hid (w7.heap[X]? = _) := blk_old (w := w6b.drew) HX6b.out hb7
  have HK7 : Hid (w7.heap[B]? = _) := blk_old (w := w6b.drew) HK6b.out hb7
  have HS7 := hidd (HS6b.out.below (w' := w6b.drew) (Below.refl _ _).drew |>.below hb7)
  have HY7 := hidd (HY6b.out.below (w' := w6b.drew) (Below.refl _ _).drew |>.below hb7)
  have HS7b := hidd (holdS_own ho1)
  have HY7b := hidd (holdY_own ho2)
  have HB67 : Hid (Below w6b.heap.size w6b w7) := (Below.refl _ w6b).drew.trans hb7
  clear ho1 ho2 hb7
  go_wp2_with fail
  refine hK.out _ _ ?_ (fun hHeld2 => ?_)
  · exact ⟨HX7.out, HK7.out⟩
  clear hK K
  try simp only [Act.put, List.getElem_toArray, List.getElem_cons_succ, List.getElem_cons_zero, List.setIfInBounds_toArray, List.set_cons_zero, List.set_cons_succ]
  refine wpAnyH_ready (rs := [3]) (by kernel_rfl) (by simp) ?_
  refine AllReadyH.cons rfl (fun K hK => ?_) AllReadyH.nil
  go_simp
  refine (eqAz_any bf bsm bp p1 p2 r1 r2 _ _ _ _ stops syns lo hi w7 mS mY HS7.out HY7.out HS7b.out HY7b.out).mono ?_
  rintro e w8 ⟨rfl, hb8⟩
  have hz7 := HB7.out.size
  have HB8 : Hid (Below B w w8) := HB7.out.trans (hb8.mono (by omega))
  have HX8 : Hid (w8.heap[X]? = _) := blk_old HX7.out hb8
  have HK8 : Hid (w8.heap[B]? = _) := blk_old HK7.out hb8
  have HB78 := hidd hb8
  clear hb8
  go_wp2_with fail
  refine hK.out _ _ ?_ (fun hHeld3 => ?_)
  · exact ⟨HX8.out, HK8.out⟩
  clear hK K
  try simp only [Act.put, List.getElem_toArray, List.getElem_cons_succ, List.getElem_cons_zero, List.setIfInBounds_toArray, List.set_cons_zero, List.set_cons_succ]
  refine wpAnyH_take (i := 4) (v := ?_) rfl (by kernel_rfl) (by kernel_rfl) (by kernel_rfl) (fun _ _ _ h => h) (Or.inl ⟨by kernel_rfl, ?_⟩) (by assumption) ?_
  rotate_left
  · (intro w hSw; clear hSw; go_simp <;> with_reducible rfl)
  (simp only [Act.put, List.getElem_toArray, List.getElem_cons_succ, List.getElem_cons_zero, List.setIfInBounds_toArray, List.set_cons_zero, List.set_cons_succ])
  refine wpAnyH_done (by kernel_rfl) ?_ _
  clear hHeld hHeld2 hHeld3
  have HO08 := hidd (own4_below (own4_below HO06b.out HB67.out) HB78.out)
  have HO18 := hidd (own4_below (own4_below HO16b.out HB67.out) HB78.out)
  have HM18 := hidd ((HM16b.out.below HB67.out).below HB78.out)
  have HM28 := hidd ((HM26b.out.below HB67.out).below HB78.out)
  have hz8 := HB8.out.size
  have hz67 := HB67.out.size
  have hz78 := HB78.out.size
  clear HO06b HO16b HM16b HM26b HB67 HB78 HS7 HY7 HS7b HY7b HX7 HK7 HB7 HS6b HY6b HX6b HK6b HTA HSd
  go_upto_region 15 with fail
  have c0 := blk_cell HX8.out 0
  have c1 := blk_cell HX8.out 1
  have c2 := blk_cell HX8.out 2
  have c3 := blk_cell HX8.out 3
  have c4 := blk_cell HX8.out 4
  have c5 := blk_cell HX8.out 5
  have c6 := blk_cell HX8.out 6
  simp only [List.getElem?_toArray, List.getElem?_cons_zero, List.getElem?_cons_succ] at c0 c1 c2 c3 c4 c5 c6
  rw [Nat.mul_one] at HM18
  go_upto_region 16 with (go_at_call 16; refine (markAz_any bf bsm bp p1 p2 stops.length syns.length stops.length syns.length lo hi w8 mS mY HM18.out HM28.out hpp).mono ?_; rintro e w9 ⟨rfl, hb9⟩)
  clear c0 c1 c2 c3 c4 c5 c6
  have hv1 : ∀ b, v1.ownBlock = some b → ¬ (b = p1 ∨ b = p2) := fun b e h => by
    have := own4_block HO18.out b e
    omega
  have hv0 : ∀ b, v0.ownBlock = some b → ¬ (b = p1 ∨ b = p2) := fun b e h => by
    have := HV0.out b e
    omega
  have HO09 := hidd (own4_but HO08.out hb9 hv0)
  have HO19 := hidd (own4_but HO18.out hb9 hv1)
  have HB9 : Hid (Below B w w9) := HB8.out.trans (hb9.below (by omega) (fun i hi h => by omega))
  have HK9 : Hid (w9.heap[B]? = some (.cells #[.bool bf, .bool bsm, .bool bp, .slice aS stops.length cS, .slice aY syns.length cY, .int .i64 lo, .int .i64 hi] 41)) := (hb9.block B (Array.getElem?_eq_some_iff.1 HK8.out).1 (by omega)).trans HK8.out
  have hz9 := hb9.size
  clear hb9 hv0 hv1 HO08 HO18 HM18 HM28 HX8 HK8 HB8
  obtain ⟨KM, hKM⟩ : ∃ KM : Nat, 1 + stops.length + syns.length * 2 = KM := ⟨_, rfl⟩
  have hKz : ¬ ((1 + (stops.length : Int) + (syns.length : Int) * 2) < 0) := by omega
  have hKz2 : ¬ (((1 + stops.length + syns.length * 2 : Nat) : Int) < 0) := by omega
  go_wp2_with fail
  refine (eqToks_own _ _ v1 v0 L _ (by omega) HO19.out HO09.out).mono ?_
  rintro e w10 ⟨rfl, hb10⟩
  have HO010 := hidd (own4_below HO09.out hb10)
  have HO110 := hidd (own4_below HO19.out hb10)
  have hz9' := HB9.out.size
  have HB10 : Hid (Below B w w10) := HB9.out.trans (hb10.mono (by omega))
  have HK10 := hidd (blk_old HK9.out hb10)
  have hz10 := hb10.size
  clear hb10 HO09 HO19 HB9 HK9
  go_wp2_with fail
  refine (markToks_own _ L.length v1 _ 1 _ (by omega) (by omega) (by omega) (by omega) HO110.out).mono ?_
  rintro e w11 ⟨rfl, hown11, hg11⟩
  have HO111 := hidd hown11
  have HN : Hid (v0.ownBlock = none ∨ v0.ownBlock ≠ v1.ownBlock) := by
    show _ ∨ _
    rcases own4_cases HO010.out with ⟨h, _⟩ | ⟨g, c, h, _, _⟩
    · exact Or.inl (by rw [h]; rfl)
    · refine Or.inr fun e => ?_
      have h1 := HV0.out g (by rw [h]; rfl)
      have h2 := own4_block HO110.out g (by rw [← e, h]; rfl)
      omega
  have HO011 := hidd (HO010.out.kept hg11 HN.out)
  have hz10' := HB10.out.size
  have HB11 : Hid (Below B w w11) := HB10.out.grown hg11 (by omega) (fun k hk => by have := own4_block HO110.out k hk; omega)
  have HK11 : Hid (w11.heap[B]? = some (.cells #[.bool bf, .bool bsm, .bool bp, .slice aS stops.length cS, .slice aY syns.length cY, .int .i64 lo, .int .i64 hi] 41)) := (hg11.block B (Array.getElem?_eq_some_iff.1 HK10.out).1 (own4_low HO110.out (by omega))).trans HK10.out
  clear hown11 hg11 HO110 HO010 HB10 HK10
  go_wp2_with fail
  refine (heldToks_own _ L.length v1 1 _ (by omega) (by omega) (by omega) HO111.out).mono ?_
  rintro e w12 ⟨rfl, hb12⟩
  have hz11 := HB11.out.size
  have HO112 := hidd (own4_below HO111.out hb12)
  have HO012 := hidd (own4_below HO011.out hb12)
  have HB12 : Hid (Below B w w12) := HB11.out.trans (hb12.mono (by omega))
  have HK12 := hidd (blk_old HK11.out hb12)
  have hz12 := HB12.out.size
  clear hb12 HO111 HO011 HB11 HK11
  have c0 := blk_cell HK12.out 0
  have c1 := blk_cell HK12.out 1
  have c2 := blk_cell HK12.out 2
  have c3 := blk_cell HK12.out 3
  have c4 := blk_cell HK12.out 4
  have c5 := blk_cell HK12.out 5
  have c6 := blk_cell HK12.out 6
  simp only [List.getElem?_toArray, List.getElem?_cons_zero, List.getElem?_cons_succ] at c0 c1 c2 c3 c4 c5 c6
  go_wp2_with fail
  clear c0 c1 c2 c3 c4 c5 c6
  refine (toAz_any bf bsm bp aS aY cS cY stops syns lo hi w12 mS mY (HS.out.below (by rw [hB]; exact HB12.out)) (HY.out.below (by rw [hB]; exact HB12.out))).mono ?_
  rintro e w13 ⟨r3, r4, rfl, ho1, ho2, _, hb13⟩
  have HSs := hidd (holdS_own ho1)
  have HYs := hidd (holdY_own ho2)
  have HB13 : Hid (Below B w w13) := HB12.out.trans (hb13.mono (by omega))
  have HO113 := hidd (own4_below HO112.out hb13)
  have HO013 := hidd (own4_below HO012.out hb13)
  clear ho1 ho2 hb13 HO112 HO012
  go_wp2_with fail
  refine (implAnalyze_any bf bsm bp (some ⟨r3, 0, none⟩) (some ⟨r4, 0, none⟩) stops.length syns.length stops syns lo hi s w13 (HT.out.below (by rw [hB]; exact HB13.out)) HSs.out HYs.out VS.out VY.out mS mY hs1m).mono ?_
  rw [HLC.out]
  rintro e w14 ⟨v2, rfl, hown2, hb14⟩
  dsimp only at hown2 ⊢
  have hz13 := HB13.out.size
  have HO214 := hidd hown2
  have HB14 : Hid (Below B w w14) := HB13.out.trans (hb14.mono (by omega))
  have HO114 := hidd (own4_below HO113.out hb14)
  have HO014 := hidd (own4_below HO013.out hb14)
  clear hown2 hb14 HSs HYs HO113 HO013
  go_wp2_with fail
  refine (eqToks_own _ _ v2 v0 L _ (by omega) HO214.out HO014.out).mono ?_
  rintro e w15 ⟨rfl, hb15⟩
  have hz14 := HB14.out.size
  have HB15 : Hid (Below B w w15) := HB14.out.trans (hb15.mono (by omega))
  have HO115 := hidd (own4_below HO114.out hb15)
  clear hb15 HO214 HO014 HO114
  go_wp2_with fail
  refine (heldToks_own _ L.length v1 1 _ (by omega) (by omega) (by omega) HO115.out).mono ?_
  rintro e w16 ⟨rfl, hb16⟩
  have hz15 := HB15.out.size
  have HB16 : Hid (Below B w w16) := HB15.out.trans (hb16.mono (by omega))
  clear hb16
  go_wp2_with fail
  go_ret
  first | exact ⟨rfl, HB16.out⟩ | (rw [hB]; exact ⟨rfl, HB16.out⟩)
end Go.Proofs.YtnhffhopdgnddaaGreatDoor
