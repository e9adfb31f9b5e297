import Derived.Test.YteedakkclppipajDoorAzO
import Derived.Test.YteedakkclppipajDoorAzS
namespace Go.Proofs.YteedakkclppipajDoor
open Go Go.RowKit
set_option linter.unusedVariables false
set_option linter.unusedSimpArgs false

set_option maxHeartbeats 8000000 in
theorem azLaw_any (bf bsm bp : Bool) (aS aY : Option Addr) (cS cY : Nat) (stops : List (List UInt8)) (syns : List (List UInt8 × List UInt8)) (lo hi : Int) (w : World) (hT : Tabs w) (hnS : stops.length ≤ 9223372036854775807) (hnY : syns.length ≤ 9223372036854775807) (hS : HoldS w aS stops) (hY : HoldY w aY syns)
    (zS : ∀ t, t < stops.length → (bs (stops.getD t [])).size ≤ 9223372036854775807) (zY : ∀ t, t < syns.length → (bs (syns.getD t ([], [])).1).size ≤ 9223372036854775807 ∧ (bs (syns.getD t ([], [])).2).size ≤ 9223372036854775807) :
    Calls Tryd.prog 5 #[.agg #[.bool bf, .bool bsm, .bool bp, .slice aS stops.length cS, .slice aY syns.length cY, .int .i64 lo, .int .i64 hi]] w fun e w' => e = .returned (.bool true) ∧ Below w.heap.size w w' := by
  have HT := hidd hT
  have HS := hidd hS
  have HY := hidd hY
  have ZS := hidd zS
  have ZY := hidd zY
  clear hT hS hY zS zY
  have HB0 : Hid (Below w.heap.size w (w.alloc (.cells #[.bool bf, .bool bsm, .bool bp, .slice aS stops.length cS, .slice aY syns.length cY, .int .i64 lo, .int .i64 hi] 32))) := (Below.refl _ _).alloc (Nat.le_refl _) _
  have hk0 : (w.alloc (.cells #[.bool bf, .bool bsm, .bool bp, .slice aS stops.length cS, .slice aY syns.length cY, .int .i64 lo, .int .i64 hi] 32)).heap[w.heap.size]? = some (.cells #[.bool bf, .bool bsm, .bool bp, .slice aS stops.length cS, .slice aY syns.length cY, .int .i64 lo, .int .i64 hi] 32) := heap_alloc_new _ _
  go_enter Tryd.func5, Tryd.ntmps5
  go_wp2_with fail
  generalize w.alloc (.cells #[.bool bf, .bool bsm, .bool bp, .slice aS stops.length cS, .slice aY syns.length cY, .int .i64 lo, .int .i64 hi] 32) = w0 at *
  generalize hB : w.heap.size = B at *
  have HK0 := hidd hk0
  clear hk0
  refine (szAz_any bf bsm bp aS aY cS cY stops syns lo hi w0 hnS hnY (HS.out.below (by rw [hB]; exact HB0.out)) (HY.out.below (by rw [hB]; exact HB0.out)) ZS.out ZY.out).mono ?_
  rintro e w1 ⟨rfl, hb1⟩
  have HB1 : Hid (Below B w w1) := HB0.out.trans (hb1.mono (by have := HB0.out.size; omega))
  have HK1 : Hid (w1.heap[B]? = some (.cells #[.bool bf, .bool bsm, .bool bp, .slice aS stops.length cS, .slice aY syns.length cY, .int .i64 lo, .int .i64 hi] 32)) := blk_old HK0.out hb1
  clear hb1 HK0 HB0
  have hOK : ¬ szAz 1048576 stops syns < 0 → _ := fun h => szAz_ok (Int.not_lt.1 h)
  have HOK := hidd hOK
  clear hOK
  by_cases hneg : szAz 1048576 stops syns < 0
  · clear HOK
    generalize szAz 1048576 stops syns = z at *
    go_wp2_with fail
    go_ret
    rw [hB]
    exact ⟨rfl, HB1.out⟩
  obtain ⟨mS, mY, vS, vY⟩ := HOK.out hneg
  have VS := hidd vS
  have VY := hidd vY
  clear HOK vS vY
  have hng : ¬ szAz 1048576 stops syns < 0 := hneg
  clear hneg
  generalize szAz 1048576 stops syns = z at *
  have hB1 : w.heap.size ≤ w1.heap.size := by have := HB1.out.size; omega
  have c0 := blk_cell HK1.out 0
  have c1 := blk_cell HK1.out 1
  have c2 := blk_cell HK1.out 2
  have c3 := blk_cell HK1.out 3
  have c4 := blk_cell HK1.out 4
  have c5 := blk_cell HK1.out 5
  have c6 := blk_cell HK1.out 6
  simp only [List.getElem?_toArray, List.getElem?_cons_zero, List.getElem?_cons_succ] at c0 c1 c2 c3 c4 c5 c6
  go_wp2_with fail
  clear c0 c1 c2 c3 c4 c5 c6
  refine (toAz_any bf bsm bp aS aY cS cY stops syns lo hi w1 mS mY (HS.out.below (by rw [hB]; exact HB1.out)) (HY.out.below (by rw [hB]; exact HB1.out))).mono ?_
  rintro e w2 ⟨g1, g2, rfl, ho1, ho2, _, hb2⟩
  have HSs := hidd (holdS_own ho1)
  have HYs := hidd (holdY_own ho2)
  have HB2 : Hid (Below B w w2) := HB1.out.trans (hb2.mono (by omega))
  have HK2 := hidd (blk_old HK1.out hb2)
  clear ho1 ho2 hb2
  go_wp2_with fail
  refine (specAzOK_any bf bsm bp (some ⟨g1, 0, none⟩) (some ⟨g2, 0, none⟩) stops.length syns.length stops syns lo hi w2 HSs.out HYs.out VS.out VY.out mS mY).mono ?_
  rintro e w3 ⟨rfl, hb3⟩
  have hz2 := HB2.out.size
  have HB3 : Hid (Below B w w3) := HB2.out.trans (hb3.mono (by omega))
  have HK3 := hidd (blk_old HK2.out hb3)
  clear hb3 HSs HYs
  generalize hR : azOK stops syns lo hi = R at *
  have HR := hidd hR
  clear hR
  have c0 := blk_cell HK3.out 0
  have c1 := blk_cell HK3.out 1
  have c2 := blk_cell HK3.out 2
  have c3 := blk_cell HK3.out 3
  have c4 := blk_cell HK3.out 4
  have c5 := blk_cell HK3.out 5
  have c6 := blk_cell HK3.out 6
  simp only [List.getElem?_toArray, List.getElem?_cons_zero, List.getElem?_cons_succ] at c0 c1 c2 c3 c4 c5 c6
  go_wp2_with fail
  clear c0 c1 c2 c3 c4 c5 c6
  have hz3 := HB3.out.size
  refine (toAz_any bf bsm bp aS aY cS cY stops syns lo hi w3 mS mY (HS.out.below (by rw [hB]; exact HB3.out)) (HY.out.below (by rw [hB]; exact HB3.out))).mono ?_
  rintro e w4 ⟨p1, p2, rfl, ho1, ho2, _, hb4⟩
  have HB4 : Hid (Below B w w4) := HB3.out.trans (hb4.mono (by omega))
  have HK4 := hidd (blk_old HK3.out hb4)
  have HSs := hidd (holdS_own ho1)
  have HYs := hidd (holdY_own ho2)
  clear ho1 ho2 hb4
  go_wp2_with fail
  have hz4 := HB4.out.size
  have HB5 : Hid (Below B w (w4.alloc (.cells #[.bool bf, .bool bsm, .bool bp, .slice (some ⟨p1, 0, none⟩) stops.length stops.length, .slice (some ⟨p2, 0, none⟩) syns.length syns.length, .int .i64 lo, .int .i64 hi] 37))) := HB4.out.alloc (by omega) _
  have hk5 : (w4.alloc (.cells #[.bool bf, .bool bsm, .bool bp, .slice (some ⟨p1, 0, none⟩) stops.length stops.length, .slice (some ⟨p2, 0, none⟩) syns.length syns.length, .int .i64 lo, .int .i64 hi] 37)).heap[w4.heap.size]? = some (.cells #[.bool bf, .bool bsm, .bool bp, .slice (some ⟨p1, 0, none⟩) stops.length stops.length, .slice (some ⟨p2, 0, none⟩) syns.length syns.length, .int .i64 lo, .int .i64 hi] 37) := heap_alloc_new _ _
  have hu5 : Below w4.heap.size w4 (w4.alloc (.cells #[.bool bf, .bool bsm, .bool bp, .slice (some ⟨p1, 0, none⟩) stops.length stops.length, .slice (some ⟨p2, 0, none⟩) syns.length syns.length, .int .i64 lo, .int .i64 hi] 37)) := (Below.refl _ _).alloc (Nat.le_refl _) _
  have HK5 := hidd (blk_old HK4.out hu5)
  have HS5 := hidd (HSs.out.below hu5)
  have HY5 := hidd (HYs.out.below hu5)
  clear hu5 HSs HYs HB4 HK4
  generalize w4.alloc (.cells #[.bool bf, .bool bsm, .bool bp, .slice (some ⟨p1, 0, none⟩) stops.length stops.length, .slice (some ⟨p2, 0, none⟩) syns.length syns.length, .int .i64 lo, .int .i64 hi] 37) = w5 at *
  generalize w4.heap.size = X at *
  have HX5 := hidd hk5
  clear hk5
  refine (implAzOK_any bf bsm bp (some ⟨p1, 0, none⟩) (some ⟨p2, 0, none⟩) stops.length syns.length stops syns lo hi w5 (HT.out.below (by rw [hB]; exact HB5.out)) HS5.out HY5.out VS.out VY.out mS mY).mono ?_
  rintro e w6 ⟨rfl, hb6⟩
  rw [HR.out]
  have hz5 := HB5.out.size
  have HB6 : Hid (Below B w w6) := HB5.out.trans (hb6.mono (by omega))
  have HK6 := hidd (blk_old HK5.out hb6)
  have HX6 := hidd (blk_old HX5.out hb6)
  have HS6 := hidd (HS5.out.below hb6)
  have HY6 := hidd (HY5.out.below hb6)
  have hRR : (R != R) = false := by cases R <;> rfl
  clear hb6 HS5 HY5 HX5 HK5 HB5
  have hz6 := HB6.out.size
  have HTA := hidd (fun (wx : World) (h1 : HoldS wx aS stops) (h2 : HoldY wx aY syns) => toAz_any bf bsm bp aS aY cS cY stops syns lo hi wx mS mY h1 h2)
  have HSd : Hid (HoldS w6.drew aS stops ∧ HoldY w6.drew aY syns) := ⟨HS.out.below (by rw [hB]; exact HB6.out.drew), HY.out.below (by rw [hB]; exact HB6.out.drew)⟩
  go_wp2_with fail
  refine wp_region_held_drew (S := fun w' => w'.heap[X]? = some (.cells #[.bool bf, .bool bsm, .bool bp, .slice (some ⟨p1, 0, none⟩) stops.length stops.length, .slice (some ⟨p2, 0, none⟩) syns.length syns.length, .int .i64 lo, .int .i64 hi] 37) ∧ w'.heap[B]? = some (.cells #[.bool bf, .bool bsm, .bool bp, .slice aS stops.length cS, .slice aY syns.length cY, .int .i64 lo, .int .i64 hi] 32)) (by kernel_rfl) ?_ (fun hHeld => ?_)
  · exact ⟨HX6.out, HK6.out⟩
  refine wpAnyH_take (i := 0) (v := ?_) rfl (by kernel_rfl) (by kernel_rfl) (by kernel_rfl) (fun _ _ _ h => h) (Or.inl ⟨by kernel_rfl, ?_⟩) (by assumption) ?_
  rotate_left
  · intro w hSw
    have hq := hSw.1
    have c0 := blk_cell hq 0
    have c1 := blk_cell hq 1
    have c2 := blk_cell hq 2
    have c3 := blk_cell hq 3
    have c4 := blk_cell hq 4
    have c5 := blk_cell hq 5
    have c6 := blk_cell hq 6
    simp only [List.getElem?_toArray, List.getElem?_cons_zero, List.getElem?_cons_succ] at c0 c1 c2 c3 c4 c5 c6
    clear hSw hq
    go_simp <;> with_reducible rfl
  (simp only [Act.put, List.getElem_toArray, List.getElem_cons_succ, List.getElem_cons_zero, List.setIfInBounds_toArray, List.set_cons_zero, List.set_cons_succ])
  refine wpAnyH_take (i := 1) (v := ?_) rfl (by kernel_rfl) (by kernel_rfl) (by kernel_rfl) (fun _ _ _ h => h) (Or.inl ⟨by kernel_rfl, ?_⟩) (by assumption) ?_
  rotate_left
  · intro w hSw
    have hq := hSw.2
    have c0 := blk_cell hq 0
    have c1 := blk_cell hq 1
    have c2 := blk_cell hq 2
    have c3 := blk_cell hq 3
    have c4 := blk_cell hq 4
    have c5 := blk_cell hq 5
    have c6 := blk_cell hq 6
    simp only [List.getElem?_toArray, List.getElem?_cons_zero, List.getElem?_cons_succ] at c0 c1 c2 c3 c4 c5 c6
    clear hSw hq
    go_simp <;> with_reducible rfl
  (simp only [Act.put, List.getElem_toArray, List.getElem_cons_succ, List.getElem_cons_zero, List.setIfInBounds_toArray, List.set_cons_zero, List.set_cons_succ])
  refine wpAnyH_ready (rs := [2]) (by kernel_rfl) (by simp) ?_
  refine AllReadyH.cons rfl (fun K hK => ?_) AllReadyH.nil
  go_simp
  refine (HTA.out _ HSd.out.1 HSd.out.2).mono ?_
  rintro e w7 ⟨r1, r2, rfl, ho1, ho2, _, hb7⟩
  have HB7 : Hid (Below B w w7) := HB6.out.drew.trans (hb7.mono (by show B ≤ w6.heap.size; omega))
  have HX7 : Hid (w7.heap[X]? = _) := blk_old (w := w6.drew) HX6.out hb7
  have HK7 : Hid (w7.heap[B]? = _) := blk_old (w := w6.drew) HK6.out hb7
  have HS7 := hidd (HS6.out.below (w' := w6.drew) (Below.refl _ _).drew |>.below hb7)
  have HY7 := hidd (HY6.out.below (w' := w6.drew) (Below.refl _ _).drew |>.below hb7)
  have HS7b := hidd (holdS_own ho1)
  have HY7b := hidd (holdY_own ho2)
  clear ho1 ho2 hb7
  go_wp2_with fail
  refine hK.out _ _ ?_ (fun hHeld2 => ?_)
  · exact ⟨HX7.out, HK7.out⟩
  clear hK K
  try simp only [Act.put, List.getElem_toArray, List.getElem_cons_succ, List.getElem_cons_zero, List.setIfInBounds_toArray, List.set_cons_zero, List.set_cons_succ]
  refine wpAnyH_ready (rs := [3]) (by kernel_rfl) (by simp) ?_
  refine AllReadyH.cons rfl (fun K hK => ?_) AllReadyH.nil
  go_simp
  refine (eqAz_any bf bsm bp p1 p2 r1 r2 _ _ _ _ stops syns lo hi w7 mS mY HS7.out HY7.out HS7b.out HY7b.out).mono ?_
  rintro e w8 ⟨rfl, hb8⟩
  have hz7 := HB7.out.size
  have HB8 : Hid (Below B w w8) := HB7.out.trans (hb8.mono (by omega))
  have HX8 : Hid (w8.heap[X]? = _) := blk_old HX7.out hb8
  have HK8 : Hid (w8.heap[B]? = _) := blk_old HK7.out hb8
  clear hb8
  go_wp2_with fail
  refine hK.out _ _ ?_ (fun hHeld3 => ?_)
  · exact ⟨HX8.out, HK8.out⟩
  clear hK K
  try simp only [Act.put, List.getElem_toArray, List.getElem_cons_succ, List.getElem_cons_zero, List.setIfInBounds_toArray, List.set_cons_zero, List.set_cons_succ]
  refine wpAnyH_take (i := 4) (v := ?_) rfl (by kernel_rfl) (by kernel_rfl) (by kernel_rfl) (fun _ _ _ h => h) (Or.inl ⟨by kernel_rfl, ?_⟩) (by assumption) ?_
  rotate_left
  · (intro w hSw; clear hSw; go_simp <;> with_reducible rfl)
  (simp only [Act.put, List.getElem_toArray, List.getElem_cons_succ, List.getElem_cons_zero, List.setIfInBounds_toArray, List.set_cons_zero, List.set_cons_succ])
  refine wpAnyH_done (by kernel_rfl) ?_ _
  clear hHeld hHeld2 hHeld3
  go_wp2_with fail
  go_ret
  first | exact ⟨rfl, HB8.out⟩ | (rw [hB]; exact ⟨rfl, HB8.out⟩)
end Go.Proofs.YteedakkclppipajDoor
