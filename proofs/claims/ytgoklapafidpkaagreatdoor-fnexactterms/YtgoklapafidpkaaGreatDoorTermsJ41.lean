import Derived.Test.YtgoklapafidpkaaGreatDoorTermsJ00
import Derived.Test.YtgoklapafidpkaaGreatDoorTermsJ07
import Derived.Test.YtgoklapafidpkaaGreatDoorTermsJ24
import Derived.Test.YtgoklapafidpkaaGreatDoorTermsJ09
import Derived.Deep.CutBlock
import Derived.Deep.RegionHeld3
import Derived.BigQuiet
namespace Go.Proofs.YtgoklapafidpkaaGreatDoor
open Go Go.RowKit
set_option linter.unusedVariables false
set_option linter.unusedSimpArgs false
set_option maxRecDepth 100000

set_option maxHeartbeats 40000000 in
theorem specSchema_any (a : Option Addr) (cap : Nat) (l : List Fd) (w : World) (hn : l.length ≤ 1048576) (hA : ∀ i, FdSz (l.getD i fd0)) (hS : HoldF w a l) :
    Calls Tryz.prog 30 #[.agg #[.slice a l.length cap]] w fun e w' => e = .returned (.bool (scOK l)) ∧ Below w.heap.size w w' := by
  have HS := hidd hS
  have HA := hidd hA
  clear hS hA
  have HBa := hidd ((Below.refl w.heap.size w).alloc (Nat.le_refl _) (.cells #[.slice a l.length cap] 33))
  have HX := hidd (heap_alloc_new w (.cells #[.slice a l.length cap] 33))
  by_cases h1 : (l.length : Int) < 1
  · have HR := hidd (scOK_len (l := l) (Or.inl (by omega)))
    go_enter Tryz.func30, Tryz.ntmps30
    go_wp2_with fail
    go_ret
    rw [HR.out]
    exact ⟨rfl, HBa.out⟩
  by_cases h2 : (l.length : Int) > 16
  · have HR := hidd (scOK_len (l := l) (Or.inr (by omega)))
    go_enter Tryz.func30, Tryz.ntmps30
    go_wp2_with fail
    go_ret
    rw [HR.out]
    exact ⟨rfl, HBa.out⟩
  go_enter Tryz.func30, Tryz.ntmps30
  go_wp2_with fail
  obtain ⟨wa, hwa⟩ : ∃ wa, w.alloc (.cells #[.slice a l.length cap] 33) = wa := ⟨_, rfl⟩
  rw [hwa] at HBa HX
  try rw [hwa]
  clear hwa
  go_loopw [3] (fun iv wr => ∃ i : Nat, i ≤ l.length ∧ iv = .int .i64 (i : Int) ∧ (List.range i).all (scAt l) = true ∧ Below wa.heap.size wa wr) (fun iv _ => l.length - (intOf iv).toNat)
  case atStart => exact ⟨0, Nat.zero_le _, rfl, by simp, Below.refl _ _⟩
  case round =>
    obtain ⟨k, hk, rfl, hall, hbel⟩ := hrel
    have HAll := hidd hall
    have HXr := hidd (blk_old HX.out hbel)
    have x0 := blk_cell HXr.out 0
    have HB := hidd hbel
    clear hall hbel
    by_cases hlt : k < l.length
    · have hkz : (k : Int) < (l.length : Int) := by omega
      obtain ⟨b, off, rfl, hbl, hc⟩ := ((HS.out.below HBa.out).below HB.out).resolve_left (fun h => by rw [h] at hlt; simp at hlt)
      obtain ⟨q0, q1, q2, q3, q4, ⟨aS, cS, q5, hSt⟩, ⟨aY, cY, q6, hYt⟩, q7, q8⟩ := hc k hlt
      have hpv : 0 < k → wr.cell? ⟨b, off + (k - 1) * 9, none⟩ = some (.string (bs (l.getD (k - 1) fd0).name)) := fun h => (hc (k - 1) (by omega)).1
      have hal := HA.out k
      have HAt : Hid (scAt l k = (fdOK (l.getD k fd0) && !(decide (0 < k) && leT (l.getD k fd0).name (l.getD (k - 1) fd0).name))) := rfl
      obtain ⟨f, hf⟩ : ∃ f, l.getD k fd0 = f := ⟨_, rfl⟩
      obtain ⟨pn, hpn⟩ : ∃ pn, (l.getD (k - 1) fd0).name = pn := ⟨_, rfl⟩
      rw [hf] at q0 q1 q2 q3 q4 q5 q6 q7 q8 hSt hYt hal HAt
      rw [hpn] at hpv HAt
      clear hf hpn hc
      go_upto_region 7 with fail
      have HBf := hidd ((Below.refl wr.heap.size wr).alloc (Nat.le_refl _) (.cells #[.string (bs f.name), .int .i64 f.kind, .bool f.bf, .bool f.bsm, .bool f.bp, .slice aS f.stops.length cS, .slice aY f.syns.length cY, .int .i64 f.lo, .int .i64 f.hi] 79))
      have HFb := hidd (heap_alloc_new wr (.cells #[.string (bs f.name), .int .i64 f.kind, .bool f.bf, .bool f.bsm, .bool f.bp, .slice aS f.stops.length cS, .slice aY f.syns.length cY, .int .i64 f.lo, .int .i64 f.hi] 79))
      obtain ⟨wb, hwb⟩ : ∃ wb, wr.alloc (.cells #[.string (bs f.name), .int .i64 f.kind, .bool f.bf, .bool f.bsm, .bool f.bp, .slice aS f.stops.length cS, .slice aY f.syns.length cY, .int .i64 f.lo, .int .i64 f.hi] 79) = wb := ⟨_, rfl⟩
      rw [hwb] at HBf HFb
      try rw [hwb]
      clear hwb
      have HSb := hidd (hSt.below HBf.out)
      have HYb := hidd (hYt.below HBf.out)
      have HCn : Hid (∀ W, Below wb.heap.size wb W → Calls Tryz.prog 62 #[.string (bs f.name)] W fun e w' => e = .returned (.bool (nmOK f.name)) ∧ Below W.heap.size W w') := fun W _ => by
        have := specName_any (bs f.name) W (by rw [bs_size]; exact hal.1)
        rw [lst_bs] at this
        exact this.mono fun e w' h => ⟨h.1, by rw [h.2]; exact Below.refl _ _⟩
      have HCa : Hid (∀ W, Below wb.heap.size wb W → Calls Tryz.prog 63 #[.agg #[.bool f.bf, .bool f.bsm, .bool f.bp, .slice aS f.stops.length cS, .slice aY f.syns.length cY, .int .i64 f.lo, .int .i64 f.hi]] W fun e w' => e = .returned (.bool (azOK f.stops f.syns f.lo f.hi)) ∧ Below W.heap.size W w') := fun W hW => specAzOK_any f.bf f.bsm f.bp aS aY cS cY f.stops f.syns f.lo f.hi W (HSb.out.below hW) (HYb.out.below hW) hal.2.2.2.1 hal.2.2.2.2 hal.2.1 hal.2.2.1
      have HCz : Hid (∀ W, Below wb.heap.size wb W → Calls Tryz.prog 64 #[.agg #[.bool f.bf, .bool f.bsm, .bool f.bp, .slice aS f.stops.length cS, .slice aY f.syns.length cY, .int .i64 f.lo, .int .i64 f.hi]] W fun e w' => e = .returned (.bool (zrOK f)) ∧ Below W.heap.size W w') := fun W _ => specZero_any f aS aY cS cY W hal.2.1 hal.2.2.1
      rw [fdOK_eq] at HAt
      obtain ⟨nmv, hnm⟩ : ∃ v, nmOK f.name = v := ⟨_, rfl⟩
      obtain ⟨azv, haz⟩ : ∃ v, azOK f.stops f.syns f.lo f.hi = v := ⟨_, rfl⟩
      rw [hnm] at HCn HAt
      rw [haz] at HCa HAt
      clear hnm haz
      have HXb := hidd (blk_old HXr.out HBf.out)
      have x1 := blk_cell HXb.out 0
      have HPv : Hid (0 < k → wb.cell? ⟨b, off + (k - 1) * 9, none⟩ = some (.string (bs pn))) := fun h => (HBf.out.cell (p := ⟨b, off + (k - 1) * 9, none⟩) hbl).trans (hpv h)
      have hP : wr.heap.size < wb.heap.size := (Array.getElem?_eq_some_iff.1 HFb.out).1
      have hQ : w.heap.size < wb.heap.size := (Array.getElem?_eq_some_iff.1 HXb.out).1
      have hbb : b < wb.heap.size := by have := HBf.out.size; omega
      have HBr : Hid (Below w.heap.size w wb) := (HBa.out.trans (HB.out.mono HBa.out.size)).trans (HBf.out.mono (by have := HBa.out.size; have := HB.out.size; omega))
      have HBaw : Hid (Below wa.heap.size wa wb) := HB.out.trans (HBf.out.mono HB.out.size)
      clear q0 q1 q2 q3 q4 q5 q6 q7 q8 hSt hYt hal HSb HYb hpv x0
      have p0 := blk_cell HFb.out 0
      have p1 := blk_cell HFb.out 1
      have p2 := blk_cell HFb.out 2
      have p3 := blk_cell HFb.out 3
      have p4 := blk_cell HFb.out 4
      have p5 := blk_cell HFb.out 5
      have p6 := blk_cell HFb.out 6
      have p7 := blk_cell HFb.out 7
      have p8 := blk_cell HFb.out 8
      simp only [List.getElem?_toArray, List.getElem?_cons_zero, List.getElem?_cons_succ] at p0 p1 p2 p3 p4 p5 p6 p7 p8 x1
      go_cut [73] (fun cv wy => ∃ B : Bool, cv = .bool B ∧ B = !(scAt l k) ∧ Below wb.heap.size wb wy)
      case first =>
        cases nmv with
        | false =>
          have HRes : Hid (true = !(scAt l k)) := by show _ = _; rw [HAt.out]; simp
          refine wp_region_held_drew (S := (fun w' => w'.cell? ⟨wr.heap.size, 0, none⟩ = some (.string (bs f.name)) ∧ w'.cell? ⟨wr.heap.size, 1, none⟩ = some (.int .i64 f.kind) ∧ w'.cell? ⟨wr.heap.size, 2, none⟩ = some (.bool f.bf) ∧ w'.cell? ⟨wr.heap.size, 3, none⟩ = some (.bool f.bsm) ∧ w'.cell? ⟨wr.heap.size, 4, none⟩ = some (.bool f.bp) ∧ w'.cell? ⟨wr.heap.size, 5, none⟩ = some (.slice aS f.stops.length cS) ∧ w'.cell? ⟨wr.heap.size, 6, none⟩ = some (.slice aY f.syns.length cY) ∧ w'.cell? ⟨wr.heap.size, 7, none⟩ = some (.int .i64 f.lo) ∧ w'.cell? ⟨wr.heap.size, 8, none⟩ = some (.int .i64 f.hi) ∧ w'.cell? ⟨w.heap.size, 0, none⟩ = some (.slice (some ⟨b, off, none⟩) l.length cap))) (by kernel_rfl) ?_ (fun hHeld => ?_)
          · exact ⟨p0, p1, p2, p3, p4, p5, p6, p7, p8, x1⟩
          refine tkX 0 (h := ?_)
          refine tkX 1 (h := ?_)
          (simp only [Act.put, List.getElem_toArray, List.getElem_cons_succ, List.getElem_cons_zero, List.setIfInBounds_toArray, List.set_cons_zero, List.set_cons_succ])
          refine wpAnyH_ready (rs := [2]) (by kernel_rfl) (by simp) ?_
          refine AllReadyH.cons rfl (fun K hK => ?_) AllReadyH.nil
          go_simp
          refine (HCn.out _ (below_drewN (Below.refl wb.heap.size wb) 1)).mono ?_
          rintro e' wv1 ⟨rfl, hbv1⟩
          have HBw1 : Hid (Below wb.heap.size wb wv1) := Below.trans (below_drewN (Below.refl wb.heap.size wb) 1) (hbv1.mono (Below.size (below_drewN (Below.refl wb.heap.size wb) 1)))
          clear hbv1
          go_wp2_with fail
          refine hK.out _ _ ?_ (fun hHeld1 => ?_)
          · exact ⟨(HBw1.out.cell (p := ⟨wr.heap.size, 0, none⟩) hP).trans p0, (HBw1.out.cell (p := ⟨wr.heap.size, 1, none⟩) hP).trans p1, (HBw1.out.cell (p := ⟨wr.heap.size, 2, none⟩) hP).trans p2, (HBw1.out.cell (p := ⟨wr.heap.size, 3, none⟩) hP).trans p3, (HBw1.out.cell (p := ⟨wr.heap.size, 4, none⟩) hP).trans p4, (HBw1.out.cell (p := ⟨wr.heap.size, 5, none⟩) hP).trans p5, (HBw1.out.cell (p := ⟨wr.heap.size, 6, none⟩) hP).trans p6, (HBw1.out.cell (p := ⟨wr.heap.size, 7, none⟩) hP).trans p7, (HBw1.out.cell (p := ⟨wr.heap.size, 8, none⟩) hP).trans p8, (HBw1.out.cell (p := ⟨w.heap.size, 0, none⟩) hQ).trans x1⟩
          clear hK K
          try simp only [Act.put, List.getElem_toArray, List.getElem_cons_succ, List.getElem_cons_zero, List.setIfInBounds_toArray, List.set_cons_zero, List.set_cons_succ]
          refine tkX 3 (h := ?_)
          refine tkX 4 (h := ?_)
          refine tkS 5 (h := ?_)
          refine tkS 6 (h := ?_)
          refine tkS 7 (h := ?_)
          (simp only [Act.put, List.getElem_toArray, List.getElem_cons_succ, List.getElem_cons_zero, List.setIfInBounds_toArray, List.set_cons_zero, List.set_cons_succ])
          refine tkS 8 (h := ?_)
          refine tkS 9 (h := ?_)
          refine tkS 10 (h := ?_)
          refine tkS 11 (h := ?_)
          refine tkS 12 (h := ?_)
          (simp only [Act.put, List.getElem_toArray, List.getElem_cons_succ, List.getElem_cons_zero, List.setIfInBounds_toArray, List.set_cons_zero, List.set_cons_succ])
          refine tkS 13 (h := ?_)
          refine tkS 14 (h := ?_)
          refine tkS 15 (h := ?_)
          refine tkS 16 (h := ?_)
          refine tkS 17 (h := ?_)
          (simp only [Act.put, List.getElem_toArray, List.getElem_cons_succ, List.getElem_cons_zero, List.setIfInBounds_toArray, List.set_cons_zero, List.set_cons_succ])
          refine tkS 18 (h := ?_)
          refine tkX 19 (h := ?_)
          refine tkX 20 (h := ?_)
          refine tkS 21 (h := ?_)
          refine tkS 22 (h := ?_)
          (simp only [Act.put, List.getElem_toArray, List.getElem_cons_succ, List.getElem_cons_zero, List.setIfInBounds_toArray, List.set_cons_zero, List.set_cons_succ])
          refine tkS 23 (h := ?_)
          refine tkX 24 (h := ?_)
          refine tkX 25 (h := ?_)
          refine tkS 26 (h := ?_)
          refine tkS 27 (h := ?_)
          (simp only [Act.put, List.getElem_toArray, List.getElem_cons_succ, List.getElem_cons_zero, List.setIfInBounds_toArray, List.set_cons_zero, List.set_cons_succ])
          refine tkS 28 (h := ?_)
          refine tkX 29 (h := ?_)
          refine tkX 30 (h := ?_)
          refine tkS 31 (h := ?_)
          refine tkS 32 (h := ?_)
          (simp only [Act.put, List.getElem_toArray, List.getElem_cons_succ, List.getElem_cons_zero, List.setIfInBounds_toArray, List.set_cons_zero, List.set_cons_succ])
          refine tkS 33 (h := ?_)
          refine tkS 34 (h := ?_)
          refine tkX 35 (h := ?_)
          refine tkX 36 (h := ?_)
          refine tkS 37 (h := ?_)
          (simp only [Act.put, List.getElem_toArray, List.getElem_cons_succ, List.getElem_cons_zero, List.setIfInBounds_toArray, List.set_cons_zero, List.set_cons_succ])
          refine tkS 38 (h := ?_)
          refine tkS 39 (h := ?_)
          refine tkS 40 (h := ?_)
          refine tkS 41 (h := ?_)
          refine tkS 42 (h := ?_)
          (simp only [Act.put, List.getElem_toArray, List.getElem_cons_succ, List.getElem_cons_zero, List.setIfInBounds_toArray, List.set_cons_zero, List.set_cons_succ])
          refine tkS 43 (h := ?_)
          refine tkS 44 (h := ?_)
          refine tkS 45 (h := ?_)
          refine tkX 46 (h := ?_)
          (simp only [Act.put, List.getElem_toArray, List.getElem_cons_succ, List.getElem_cons_zero, List.setIfInBounds_toArray, List.set_cons_zero, List.set_cons_succ])
          refine wpAnyH_done (by kernel_rfl) ?_ _
          clear hHeld hHeld1
          go_wp2_with fail
          go_meet
          exact ⟨_, rfl, HRes.out, HBw1.out⟩
        | true =>
          by_cases h0 : 0 < k
          · have hk1z : (1 : Int) ≤ (k : Int) := by omega
            have hpn1 : ((k : Int) - 1).toNat = k - 1 := by omega
            have hpz0 : ¬ ((k : Int) - 1 < 0) := by omega
            have hpz1 : (k : Int) - 1 < (l.length : Int) := by omega
            have hpz2 : (0 : Int) ≤ (k : Int) - 1 := by omega
            have hwr : IntKind.i64.wrap ((k : Int) - 1) = (k : Int) - 1 := IntWalk.i64_in _ (by omega)
            have hkd : decide ((k : Int) > 0) = true := decide_eq_true (by omega)
            have hkd2 : decide ((0 : Int) < (k : Int)) = true := decide_eq_true (by omega)
            have pv := HPv.out h0
            cases hl : leT f.name pn with
            | true =>
              have hle : (Op.bytesLess (bs f.name).toList (bs pn).toList || (bs f.name).toList == (bs pn).toList) = true := by rw [Lib.toList_data, Lib.toList_data, show (bs f.name).data.toList = f.name from lst_bs f.name, show (bs pn).data.toList = pn from lst_bs pn]; exact hl
              have HRes : Hid (true = !(scAt l k)) := by show _ = _; rw [HAt.out, hl, decide_eq_true h0]; simp
              clear hl
              refine wp_region_held_drew (S := (fun w' => w'.cell? ⟨wr.heap.size, 0, none⟩ = some (.string (bs f.name)) ∧ w'.cell? ⟨wr.heap.size, 1, none⟩ = some (.int .i64 f.kind) ∧ w'.cell? ⟨wr.heap.size, 2, none⟩ = some (.bool f.bf) ∧ w'.cell? ⟨wr.heap.size, 3, none⟩ = some (.bool f.bsm) ∧ w'.cell? ⟨wr.heap.size, 4, none⟩ = some (.bool f.bp) ∧ w'.cell? ⟨wr.heap.size, 5, none⟩ = some (.slice aS f.stops.length cS) ∧ w'.cell? ⟨wr.heap.size, 6, none⟩ = some (.slice aY f.syns.length cY) ∧ w'.cell? ⟨wr.heap.size, 7, none⟩ = some (.int .i64 f.lo) ∧ w'.cell? ⟨wr.heap.size, 8, none⟩ = some (.int .i64 f.hi) ∧ w'.cell? ⟨w.heap.size, 0, none⟩ = some (.slice (some ⟨b, off, none⟩) l.length cap) ∧ w'.cell? ⟨b, off + (k - 1) * 9, none⟩ = some (.string (bs pn)))) (by kernel_rfl) ?_ (fun hHeld => ?_)
              · exact ⟨p0, p1, p2, p3, p4, p5, p6, p7, p8, x1, pv⟩
              refine tkX 0 (h := ?_)
              refine tkX 1 (h := ?_)
              (simp only [Act.put, List.getElem_toArray, List.getElem_cons_succ, List.getElem_cons_zero, List.setIfInBounds_toArray, List.set_cons_zero, List.set_cons_succ])
              refine wpAnyH_ready (rs := [2]) (by kernel_rfl) (by simp) ?_
              refine AllReadyH.cons rfl (fun K hK => ?_) AllReadyH.nil
              go_simp
              refine (HCn.out _ (below_drewN (Below.refl wb.heap.size wb) 1)).mono ?_
              rintro e' wv1 ⟨rfl, hbv1⟩
              have HBw1 : Hid (Below wb.heap.size wb wv1) := Below.trans (below_drewN (Below.refl wb.heap.size wb) 1) (hbv1.mono (Below.size (below_drewN (Below.refl wb.heap.size wb) 1)))
              clear hbv1
              go_wp2_with fail
              refine hK.out _ _ ?_ (fun hHeld1 => ?_)
              · exact ⟨(HBw1.out.cell (p := ⟨wr.heap.size, 0, none⟩) hP).trans p0, (HBw1.out.cell (p := ⟨wr.heap.size, 1, none⟩) hP).trans p1, (HBw1.out.cell (p := ⟨wr.heap.size, 2, none⟩) hP).trans p2, (HBw1.out.cell (p := ⟨wr.heap.size, 3, none⟩) hP).trans p3, (HBw1.out.cell (p := ⟨wr.heap.size, 4, none⟩) hP).trans p4, (HBw1.out.cell (p := ⟨wr.heap.size, 5, none⟩) hP).trans p5, (HBw1.out.cell (p := ⟨wr.heap.size, 6, none⟩) hP).trans p6, (HBw1.out.cell (p := ⟨wr.heap.size, 7, none⟩) hP).trans p7, (HBw1.out.cell (p := ⟨wr.heap.size, 8, none⟩) hP).trans p8, (HBw1.out.cell (p := ⟨w.heap.size, 0, none⟩) hQ).trans x1, (HBw1.out.cell (p := ⟨b, off + (k - 1) * 9, none⟩) hbb).trans pv⟩
              clear hK K
              try simp only [Act.put, List.getElem_toArray, List.getElem_cons_succ, List.getElem_cons_zero, List.setIfInBounds_toArray, List.set_cons_zero, List.set_cons_succ]
              refine tkX 3 (h := ?_)
              refine tkX 4 (h := ?_)
              refine tkX 5 (h := ?_)
              refine tkX 6 (h := ?_)
              refine tkX 7 (h := ?_)
              (simp only [Act.put, List.getElem_toArray, List.getElem_cons_succ, List.getElem_cons_zero, List.setIfInBounds_toArray, List.set_cons_zero, List.set_cons_succ])
              refine tkX 8 (h := ?_)
              refine tkX 9 (h := ?_)
              refine tkX 10 (h := ?_)
              refine tkX 11 (h := ?_)
              refine tkX 12 (h := ?_)
              (simp only [Act.put, List.getElem_toArray, List.getElem_cons_succ, List.getElem_cons_zero, List.setIfInBounds_toArray, List.set_cons_zero, List.set_cons_succ])
              refine tkX 13 (h := ?_)
              refine tkX 14 (h := ?_)
              refine tkX 15 (h := ?_)
              refine tkX 16 (h := ?_)
              refine tkX 17 (h := ?_)
              (simp only [Act.put, List.getElem_toArray, List.getElem_cons_succ, List.getElem_cons_zero, List.setIfInBounds_toArray, List.set_cons_zero, List.set_cons_succ])
              refine tkX 18 (h := ?_)
              refine tkX 19 (h := ?_)
              refine tkX 20 (h := ?_)
              refine tkS 21 (h := ?_)
              refine tkS 22 (h := ?_)
              (simp only [Act.put, List.getElem_toArray, List.getElem_cons_succ, List.getElem_cons_zero, List.setIfInBounds_toArray, List.set_cons_zero, List.set_cons_succ])
              refine tkS 23 (h := ?_)
              refine tkX 24 (h := ?_)
              refine tkX 25 (h := ?_)
              refine tkS 26 (h := ?_)
              refine tkS 27 (h := ?_)
              (simp only [Act.put, List.getElem_toArray, List.getElem_cons_succ, List.getElem_cons_zero, List.setIfInBounds_toArray, List.set_cons_zero, List.set_cons_succ])
              refine tkS 28 (h := ?_)
              refine tkX 29 (h := ?_)
              refine tkX 30 (h := ?_)
              refine tkS 31 (h := ?_)
              refine tkS 32 (h := ?_)
              (simp only [Act.put, List.getElem_toArray, List.getElem_cons_succ, List.getElem_cons_zero, List.setIfInBounds_toArray, List.set_cons_zero, List.set_cons_succ])
              refine tkS 33 (h := ?_)
              refine tkS 34 (h := ?_)
              refine tkX 35 (h := ?_)
              refine tkX 36 (h := ?_)
              refine tkS 37 (h := ?_)
              (simp only [Act.put, List.getElem_toArray, List.getElem_cons_succ, List.getElem_cons_zero, List.setIfInBounds_toArray, List.set_cons_zero, List.set_cons_succ])
              refine tkS 38 (h := ?_)
              refine tkS 39 (h := ?_)
              refine tkS 40 (h := ?_)
              refine tkS 41 (h := ?_)
              refine tkS 42 (h := ?_)
              (simp only [Act.put, List.getElem_toArray, List.getElem_cons_succ, List.getElem_cons_zero, List.setIfInBounds_toArray, List.set_cons_zero, List.set_cons_succ])
              refine tkS 43 (h := ?_)
              refine tkS 44 (h := ?_)
              refine tkS 45 (h := ?_)
              refine tkX 46 (h := ?_)
              (simp only [Act.put, List.getElem_toArray, List.getElem_cons_succ, List.getElem_cons_zero, List.setIfInBounds_toArray, List.set_cons_zero, List.set_cons_succ])
              refine wpAnyH_done (by kernel_rfl) ?_ _
              clear hHeld hHeld1
              go_wp2_with fail
              go_meet
              exact ⟨_, rfl, HRes.out, HBw1.out⟩
            | false =>
              have hle : (Op.bytesLess (bs f.name).toList (bs pn).toList || (bs f.name).toList == (bs pn).toList) = false := by rw [Lib.toList_data, Lib.toList_data, show (bs f.name).data.toList = f.name from lst_bs f.name, show (bs pn).data.toList = pn from lst_bs pn]; exact hl
              rw [hl] at HAt
              clear hl
              by_cases hk1 : f.kind < 1
              · have hk1d : decide (f.kind < 1) = true := decide_eq_true hk1
                have HRes : Hid (true = !(scAt l k)) := by show _ = _; rw [HAt.out, decide_eq_false (p := 1 ≤ f.kind) (by omega)]; simp
                refine wp_region_held_drew (S := (fun w' => w'.cell? ⟨wr.heap.size, 0, none⟩ = some (.string (bs f.name)) ∧ w'.cell? ⟨wr.heap.size, 1, none⟩ = some (.int .i64 f.kind) ∧ w'.cell? ⟨wr.heap.size, 2, none⟩ = some (.bool f.bf) ∧ w'.cell? ⟨wr.heap.size, 3, none⟩ = some (.bool f.bsm) ∧ w'.cell? ⟨wr.heap.size, 4, none⟩ = some (.bool f.bp) ∧ w'.cell? ⟨wr.heap.size, 5, none⟩ = some (.slice aS f.stops.length cS) ∧ w'.cell? ⟨wr.heap.size, 6, none⟩ = some (.slice aY f.syns.length cY) ∧ w'.cell? ⟨wr.heap.size, 7, none⟩ = some (.int .i64 f.lo) ∧ w'.cell? ⟨wr.heap.size, 8, none⟩ = some (.int .i64 f.hi) ∧ w'.cell? ⟨w.heap.size, 0, none⟩ = some (.slice (some ⟨b, off, none⟩) l.length cap) ∧ w'.cell? ⟨b, off + (k - 1) * 9, none⟩ = some (.string (bs pn)))) (by kernel_rfl) ?_ (fun hHeld => ?_)
                · exact ⟨p0, p1, p2, p3, p4, p5, p6, p7, p8, x1, pv⟩
                refine tkX 0 (h := ?_)
                refine tkX 1 (h := ?_)
                (simp only [Act.put, List.getElem_toArray, List.getElem_cons_succ, List.getElem_cons_zero, List.setIfInBounds_toArray, List.set_cons_zero, List.set_cons_succ])
                refine wpAnyH_ready (rs := [2]) (by kernel_rfl) (by simp) ?_
                refine AllReadyH.cons rfl (fun K hK => ?_) AllReadyH.nil
                go_simp
                refine (HCn.out _ (below_drewN (Below.refl wb.heap.size wb) 1)).mono ?_
                rintro e' wv1 ⟨rfl, hbv1⟩
                have HBw1 : Hid (Below wb.heap.size wb wv1) := Below.trans (below_drewN (Below.refl wb.heap.size wb) 1) (hbv1.mono (Below.size (below_drewN (Below.refl wb.heap.size wb) 1)))
                clear hbv1
                go_wp2_with fail
                refine hK.out _ _ ?_ (fun hHeld1 => ?_)
                · exact ⟨(HBw1.out.cell (p := ⟨wr.heap.size, 0, none⟩) hP).trans p0, (HBw1.out.cell (p := ⟨wr.heap.size, 1, none⟩) hP).trans p1, (HBw1.out.cell (p := ⟨wr.heap.size, 2, none⟩) hP).trans p2, (HBw1.out.cell (p := ⟨wr.heap.size, 3, none⟩) hP).trans p3, (HBw1.out.cell (p := ⟨wr.heap.size, 4, none⟩) hP).trans p4, (HBw1.out.cell (p := ⟨wr.heap.size, 5, none⟩) hP).trans p5, (HBw1.out.cell (p := ⟨wr.heap.size, 6, none⟩) hP).trans p6, (HBw1.out.cell (p := ⟨wr.heap.size, 7, none⟩) hP).trans p7, (HBw1.out.cell (p := ⟨wr.heap.size, 8, none⟩) hP).trans p8, (HBw1.out.cell (p := ⟨w.heap.size, 0, none⟩) hQ).trans x1, (HBw1.out.cell (p := ⟨b, off + (k - 1) * 9, none⟩) hbb).trans pv⟩
                clear hK K
                try simp only [Act.put, List.getElem_toArray, List.getElem_cons_succ, List.getElem_cons_zero, List.setIfInBounds_toArray, List.set_cons_zero, List.set_cons_succ]
                refine tkX 3 (h := ?_)
                refine tkX 4 (h := ?_)
                refine tkX 5 (h := ?_)
                refine tkX 6 (h := ?_)
                refine tkX 7 (h := ?_)
                (simp only [Act.put, List.getElem_toArray, List.getElem_cons_succ, List.getElem_cons_zero, List.setIfInBounds_toArray, List.set_cons_zero, List.set_cons_succ])
                refine tkX 8 (h := ?_)
                refine tkX 9 (h := ?_)
                refine tkX 10 (h := ?_)
                refine tkX 11 (h := ?_)
                refine tkX 12 (h := ?_)
                (simp only [Act.put, List.getElem_toArray, List.getElem_cons_succ, List.getElem_cons_zero, List.setIfInBounds_toArray, List.set_cons_zero, List.set_cons_succ])
                refine tkX 13 (h := ?_)
                refine tkX 14 (h := ?_)
                refine tkX 15 (h := ?_)
                refine tkX 16 (h := ?_)
                refine tkX 17 (h := ?_)
                (simp only [Act.put, List.getElem_toArray, List.getElem_cons_succ, List.getElem_cons_zero, List.setIfInBounds_toArray, List.set_cons_zero, List.set_cons_succ])
                refine tkX 18 (h := ?_)
                refine tkX 19 (h := ?_)
                refine tkX 20 (h := ?_)
                refine tkX 21 (h := ?_)
                refine tkX 22 (h := ?_)
                (simp only [Act.put, List.getElem_toArray, List.getElem_cons_succ, List.getElem_cons_zero, List.setIfInBounds_toArray, List.set_cons_zero, List.set_cons_succ])
                refine tkX 23 (h := ?_)
                refine tkX 24 (h := ?_)
                refine tkX 25 (h := ?_)
                refine tkS 26 (h := ?_)
                refine tkS 27 (h := ?_)
                (simp only [Act.put, List.getElem_toArray, List.getElem_cons_succ, List.getElem_cons_zero, List.setIfInBounds_toArray, List.set_cons_zero, List.set_cons_succ])
                refine tkS 28 (h := ?_)
                refine tkX 29 (h := ?_)
                refine tkX 30 (h := ?_)
                refine tkS 31 (h := ?_)
                refine tkS 32 (h := ?_)
                (simp only [Act.put, List.getElem_toArray, List.getElem_cons_succ, List.getElem_cons_zero, List.setIfInBounds_toArray, List.set_cons_zero, List.set_cons_succ])
                refine tkS 33 (h := ?_)
                refine tkS 34 (h := ?_)
                refine tkX 35 (h := ?_)
                refine tkX 36 (h := ?_)
                refine tkS 37 (h := ?_)
                (simp only [Act.put, List.getElem_toArray, List.getElem_cons_succ, List.getElem_cons_zero, List.setIfInBounds_toArray, List.set_cons_zero, List.set_cons_succ])
                refine tkS 38 (h := ?_)
                refine tkS 39 (h := ?_)
                refine tkS 40 (h := ?_)
                refine tkS 41 (h := ?_)
                refine tkS 42 (h := ?_)
                (simp only [Act.put, List.getElem_toArray, List.getElem_cons_succ, List.getElem_cons_zero, List.setIfInBounds_toArray, List.set_cons_zero, List.set_cons_succ])
                refine tkS 43 (h := ?_)
                refine tkS 44 (h := ?_)
                refine tkS 45 (h := ?_)
                refine tkX 46 (h := ?_)
                (simp only [Act.put, List.getElem_toArray, List.getElem_cons_succ, List.getElem_cons_zero, List.setIfInBounds_toArray, List.set_cons_zero, List.set_cons_succ])
                refine wpAnyH_done (by kernel_rfl) ?_ _
                clear hHeld hHeld1
                go_wp2_with fail
                go_meet
                exact ⟨_, rfl, HRes.out, HBw1.out⟩
              have hk1d : decide (f.kind < 1) = false := decide_eq_false hk1
              by_cases hk3 : f.kind > 3
              · have hk3d : decide (f.kind > 3) = true := decide_eq_true hk3
                have hk3e : decide (3 < f.kind) = true := decide_eq_true hk3
                have HRes : Hid (true = !(scAt l k)) := by show _ = _; rw [HAt.out, decide_eq_false (p := f.kind ≤ 3) (by omega)]; simp
                refine wp_region_held_drew (S := (fun w' => w'.cell? ⟨wr.heap.size, 0, none⟩ = some (.string (bs f.name)) ∧ w'.cell? ⟨wr.heap.size, 1, none⟩ = some (.int .i64 f.kind) ∧ w'.cell? ⟨wr.heap.size, 2, none⟩ = some (.bool f.bf) ∧ w'.cell? ⟨wr.heap.size, 3, none⟩ = some (.bool f.bsm) ∧ w'.cell? ⟨wr.heap.size, 4, none⟩ = some (.bool f.bp) ∧ w'.cell? ⟨wr.heap.size, 5, none⟩ = some (.slice aS f.stops.length cS) ∧ w'.cell? ⟨wr.heap.size, 6, none⟩ = some (.slice aY f.syns.length cY) ∧ w'.cell? ⟨wr.heap.size, 7, none⟩ = some (.int .i64 f.lo) ∧ w'.cell? ⟨wr.heap.size, 8, none⟩ = some (.int .i64 f.hi) ∧ w'.cell? ⟨w.heap.size, 0, none⟩ = some (.slice (some ⟨b, off, none⟩) l.length cap) ∧ w'.cell? ⟨b, off + (k - 1) * 9, none⟩ = some (.string (bs pn)))) (by kernel_rfl) ?_ (fun hHeld => ?_)
                · exact ⟨p0, p1, p2, p3, p4, p5, p6, p7, p8, x1, pv⟩
                refine tkX 0 (h := ?_)
                refine tkX 1 (h := ?_)
                (simp only [Act.put, List.getElem_toArray, List.getElem_cons_succ, List.getElem_cons_zero, List.setIfInBounds_toArray, List.set_cons_zero, List.set_cons_succ])
                refine wpAnyH_ready (rs := [2]) (by kernel_rfl) (by simp) ?_
                refine AllReadyH.cons rfl (fun K hK => ?_) AllReadyH.nil
                go_simp
                refine (HCn.out _ (below_drewN (Below.refl wb.heap.size wb) 1)).mono ?_
                rintro e' wv1 ⟨rfl, hbv1⟩
                have HBw1 : Hid (Below wb.heap.size wb wv1) := Below.trans (below_drewN (Below.refl wb.heap.size wb) 1) (hbv1.mono (Below.size (below_drewN (Below.refl wb.heap.size wb) 1)))
                clear hbv1
                go_wp2_with fail
                refine hK.out _ _ ?_ (fun hHeld1 => ?_)
                · exact ⟨(HBw1.out.cell (p := ⟨wr.heap.size, 0, none⟩) hP).trans p0, (HBw1.out.cell (p := ⟨wr.heap.size, 1, none⟩) hP).trans p1, (HBw1.out.cell (p := ⟨wr.heap.size, 2, none⟩) hP).trans p2, (HBw1.out.cell (p := ⟨wr.heap.size, 3, none⟩) hP).trans p3, (HBw1.out.cell (p := ⟨wr.heap.size, 4, none⟩) hP).trans p4, (HBw1.out.cell (p := ⟨wr.heap.size, 5, none⟩) hP).trans p5, (HBw1.out.cell (p := ⟨wr.heap.size, 6, none⟩) hP).trans p6, (HBw1.out.cell (p := ⟨wr.heap.size, 7, none⟩) hP).trans p7, (HBw1.out.cell (p := ⟨wr.heap.size, 8, none⟩) hP).trans p8, (HBw1.out.cell (p := ⟨w.heap.size, 0, none⟩) hQ).trans x1, (HBw1.out.cell (p := ⟨b, off + (k - 1) * 9, none⟩) hbb).trans pv⟩
                clear hK K
                try simp only [Act.put, List.getElem_toArray, List.getElem_cons_succ, List.getElem_cons_zero, List.setIfInBounds_toArray, List.set_cons_zero, List.set_cons_succ]
                refine tkX 3 (h := ?_)
                refine tkX 4 (h := ?_)
                refine tkX 5 (h := ?_)
                refine tkX 6 (h := ?_)
                refine tkX 7 (h := ?_)
                (simp only [Act.put, List.getElem_toArray, List.getElem_cons_succ, List.getElem_cons_zero, List.setIfInBounds_toArray, List.set_cons_zero, List.set_cons_succ])
                refine tkX 8 (h := ?_)
                refine tkX 9 (h := ?_)
                refine tkX 10 (h := ?_)
                refine tkX 11 (h := ?_)
                refine tkX 12 (h := ?_)
                (simp only [Act.put, List.getElem_toArray, List.getElem_cons_succ, List.getElem_cons_zero, List.setIfInBounds_toArray, List.set_cons_zero, List.set_cons_succ])
                refine tkX 13 (h := ?_)
                refine tkX 14 (h := ?_)
                refine tkX 15 (h := ?_)
                refine tkX 16 (h := ?_)
                refine tkX 17 (h := ?_)
                (simp only [Act.put, List.getElem_toArray, List.getElem_cons_succ, List.getElem_cons_zero, List.setIfInBounds_toArray, List.set_cons_zero, List.set_cons_succ])
                refine tkX 18 (h := ?_)
                refine tkX 19 (h := ?_)
                refine tkX 20 (h := ?_)
                refine tkX 21 (h := ?_)
                refine tkX 22 (h := ?_)
                (simp only [Act.put, List.getElem_toArray, List.getElem_cons_succ, List.getElem_cons_zero, List.setIfInBounds_toArray, List.set_cons_zero, List.set_cons_succ])
                refine tkX 23 (h := ?_)
                refine tkX 24 (h := ?_)
                refine tkX 25 (h := ?_)
                refine tkX 26 (h := ?_)
                refine tkX 27 (h := ?_)
                (simp only [Act.put, List.getElem_toArray, List.getElem_cons_succ, List.getElem_cons_zero, List.setIfInBounds_toArray, List.set_cons_zero, List.set_cons_succ])
                refine tkX 28 (h := ?_)
                refine tkX 29 (h := ?_)
                refine tkX 30 (h := ?_)
                refine tkS 31 (h := ?_)
                refine tkS 32 (h := ?_)
                (simp only [Act.put, List.getElem_toArray, List.getElem_cons_succ, List.getElem_cons_zero, List.setIfInBounds_toArray, List.set_cons_zero, List.set_cons_succ])
                refine tkS 33 (h := ?_)
                refine tkS 34 (h := ?_)
                refine tkX 35 (h := ?_)
                refine tkX 36 (h := ?_)
                refine tkS 37 (h := ?_)
                (simp only [Act.put, List.getElem_toArray, List.getElem_cons_succ, List.getElem_cons_zero, List.setIfInBounds_toArray, List.set_cons_zero, List.set_cons_succ])
                refine tkS 38 (h := ?_)
                refine tkS 39 (h := ?_)
                refine tkS 40 (h := ?_)
                refine tkS 41 (h := ?_)
                refine tkS 42 (h := ?_)
                (simp only [Act.put, List.getElem_toArray, List.getElem_cons_succ, List.getElem_cons_zero, List.setIfInBounds_toArray, List.set_cons_zero, List.set_cons_succ])
                refine tkS 43 (h := ?_)
                refine tkS 44 (h := ?_)
                refine tkS 45 (h := ?_)
                refine tkX 46 (h := ?_)
                (simp only [Act.put, List.getElem_toArray, List.getElem_cons_succ, List.getElem_cons_zero, List.setIfInBounds_toArray, List.set_cons_zero, List.set_cons_succ])
                refine wpAnyH_done (by kernel_rfl) ?_ _
                clear hHeld hHeld1
                go_wp2_with fail
                go_meet
                exact ⟨_, rfl, HRes.out, HBw1.out⟩
              have hk3d : decide (f.kind > 3) = false := decide_eq_false hk3
              have hk3e : decide (3 < f.kind) = false := decide_eq_false hk3
              cases azv with
              | false =>
                have HRes : Hid (true = !(scAt l k)) := by show _ = _; rw [HAt.out]; simp
                refine wp_region_held_drew (S := (fun w' => w'.cell? ⟨wr.heap.size, 0, none⟩ = some (.string (bs f.name)) ∧ w'.cell? ⟨wr.heap.size, 1, none⟩ = some (.int .i64 f.kind) ∧ w'.cell? ⟨wr.heap.size, 2, none⟩ = some (.bool f.bf) ∧ w'.cell? ⟨wr.heap.size, 3, none⟩ = some (.bool f.bsm) ∧ w'.cell? ⟨wr.heap.size, 4, none⟩ = some (.bool f.bp) ∧ w'.cell? ⟨wr.heap.size, 5, none⟩ = some (.slice aS f.stops.length cS) ∧ w'.cell? ⟨wr.heap.size, 6, none⟩ = some (.slice aY f.syns.length cY) ∧ w'.cell? ⟨wr.heap.size, 7, none⟩ = some (.int .i64 f.lo) ∧ w'.cell? ⟨wr.heap.size, 8, none⟩ = some (.int .i64 f.hi) ∧ w'.cell? ⟨w.heap.size, 0, none⟩ = some (.slice (some ⟨b, off, none⟩) l.length cap) ∧ w'.cell? ⟨b, off + (k - 1) * 9, none⟩ = some (.string (bs pn)))) (by kernel_rfl) ?_ (fun hHeld => ?_)
                · exact ⟨p0, p1, p2, p3, p4, p5, p6, p7, p8, x1, pv⟩
                refine tkX 0 (h := ?_)
                refine tkX 1 (h := ?_)
                (simp only [Act.put, List.getElem_toArray, List.getElem_cons_succ, List.getElem_cons_zero, List.setIfInBounds_toArray, List.set_cons_zero, List.set_cons_succ])
                refine wpAnyH_ready (rs := [2]) (by kernel_rfl) (by simp) ?_
                refine AllReadyH.cons rfl (fun K hK => ?_) AllReadyH.nil
                go_simp
                refine (HCn.out _ (below_drewN (Below.refl wb.heap.size wb) 1)).mono ?_
                rintro e' wv1 ⟨rfl, hbv1⟩
                have HBw1 : Hid (Below wb.heap.size wb wv1) := Below.trans (below_drewN (Below.refl wb.heap.size wb) 1) (hbv1.mono (Below.size (below_drewN (Below.refl wb.heap.size wb) 1)))
                clear hbv1
                go_wp2_with fail
                refine hK.out _ _ ?_ (fun hHeld1 => ?_)
                · exact ⟨(HBw1.out.cell (p := ⟨wr.heap.size, 0, none⟩) hP).trans p0, (HBw1.out.cell (p := ⟨wr.heap.size, 1, none⟩) hP).trans p1, (HBw1.out.cell (p := ⟨wr.heap.size, 2, none⟩) hP).trans p2, (HBw1.out.cell (p := ⟨wr.heap.size, 3, none⟩) hP).trans p3, (HBw1.out.cell (p := ⟨wr.heap.size, 4, none⟩) hP).trans p4, (HBw1.out.cell (p := ⟨wr.heap.size, 5, none⟩) hP).trans p5, (HBw1.out.cell (p := ⟨wr.heap.size, 6, none⟩) hP).trans p6, (HBw1.out.cell (p := ⟨wr.heap.size, 7, none⟩) hP).trans p7, (HBw1.out.cell (p := ⟨wr.heap.size, 8, none⟩) hP).trans p8, (HBw1.out.cell (p := ⟨w.heap.size, 0, none⟩) hQ).trans x1, (HBw1.out.cell (p := ⟨b, off + (k - 1) * 9, none⟩) hbb).trans pv⟩
                clear hK K
                try simp only [Act.put, List.getElem_toArray, List.getElem_cons_succ, List.getElem_cons_zero, List.setIfInBounds_toArray, List.set_cons_zero, List.set_cons_succ]
                refine tkX 3 (h := ?_)
                refine tkX 4 (h := ?_)
                refine tkX 5 (h := ?_)
                refine tkX 6 (h := ?_)
                refine tkX 7 (h := ?_)
                (simp only [Act.put, List.getElem_toArray, List.getElem_cons_succ, List.getElem_cons_zero, List.setIfInBounds_toArray, List.set_cons_zero, List.set_cons_succ])
                refine tkX 8 (h := ?_)
                refine tkX 9 (h := ?_)
                refine tkX 10 (h := ?_)
                refine tkX 11 (h := ?_)
                refine tkX 12 (h := ?_)
                (simp only [Act.put, List.getElem_toArray, List.getElem_cons_succ, List.getElem_cons_zero, List.setIfInBounds_toArray, List.set_cons_zero, List.set_cons_succ])
                refine tkX 13 (h := ?_)
                refine tkX 14 (h := ?_)
                refine tkX 15 (h := ?_)
                refine tkX 16 (h := ?_)
                refine tkX 17 (h := ?_)
                (simp only [Act.put, List.getElem_toArray, List.getElem_cons_succ, List.getElem_cons_zero, List.setIfInBounds_toArray, List.set_cons_zero, List.set_cons_succ])
                refine tkX 18 (h := ?_)
                refine tkX 19 (h := ?_)
                refine tkX 20 (h := ?_)
                refine tkX 21 (h := ?_)
                refine tkX 22 (h := ?_)
                (simp only [Act.put, List.getElem_toArray, List.getElem_cons_succ, List.getElem_cons_zero, List.setIfInBounds_toArray, List.set_cons_zero, List.set_cons_succ])
                refine tkX 23 (h := ?_)
                refine tkX 24 (h := ?_)
                refine tkX 25 (h := ?_)
                refine tkX 26 (h := ?_)
                refine tkX 27 (h := ?_)
                (simp only [Act.put, List.getElem_toArray, List.getElem_cons_succ, List.getElem_cons_zero, List.setIfInBounds_toArray, List.set_cons_zero, List.set_cons_succ])
                refine tkX 28 (h := ?_)
                refine tkX 29 (h := ?_)
                refine tkX 30 (h := ?_)
                refine tkX 31 (h := ?_)
                refine tkX 32 (h := ?_)
                (simp only [Act.put, List.getElem_toArray, List.getElem_cons_succ, List.getElem_cons_zero, List.setIfInBounds_toArray, List.set_cons_zero, List.set_cons_succ])
                refine wpAnyH_ready (rs := [33]) (by kernel_rfl) (by simp) ?_
                refine AllReadyH.cons rfl (fun K hK => ?_) AllReadyH.nil
                go_simp
                refine (HCa.out _ HBw1.out).mono ?_
                rintro e' wv2 ⟨rfl, hbv2⟩
                have HBw2 : Hid (Below wb.heap.size wb wv2) := Below.trans HBw1.out (hbv2.mono (Below.size HBw1.out))
                clear hbv2
                go_wp2_with fail
                refine hK.out _ _ ?_ (fun hHeld2 => ?_)
                · exact ⟨(HBw2.out.cell (p := ⟨wr.heap.size, 0, none⟩) hP).trans p0, (HBw2.out.cell (p := ⟨wr.heap.size, 1, none⟩) hP).trans p1, (HBw2.out.cell (p := ⟨wr.heap.size, 2, none⟩) hP).trans p2, (HBw2.out.cell (p := ⟨wr.heap.size, 3, none⟩) hP).trans p3, (HBw2.out.cell (p := ⟨wr.heap.size, 4, none⟩) hP).trans p4, (HBw2.out.cell (p := ⟨wr.heap.size, 5, none⟩) hP).trans p5, (HBw2.out.cell (p := ⟨wr.heap.size, 6, none⟩) hP).trans p6, (HBw2.out.cell (p := ⟨wr.heap.size, 7, none⟩) hP).trans p7, (HBw2.out.cell (p := ⟨wr.heap.size, 8, none⟩) hP).trans p8, (HBw2.out.cell (p := ⟨w.heap.size, 0, none⟩) hQ).trans x1, (HBw2.out.cell (p := ⟨b, off + (k - 1) * 9, none⟩) hbb).trans pv⟩
                clear hK K
                try simp only [Act.put, List.getElem_toArray, List.getElem_cons_succ, List.getElem_cons_zero, List.setIfInBounds_toArray, List.set_cons_zero, List.set_cons_succ]
                refine tkX 34 (h := ?_)
                refine tkX 35 (h := ?_)
                refine tkX 36 (h := ?_)
                refine tkS 37 (h := ?_)
                refine tkS 38 (h := ?_)
                (simp only [Act.put, List.getElem_toArray, List.getElem_cons_succ, List.getElem_cons_zero, List.setIfInBounds_toArray, List.set_cons_zero, List.set_cons_succ])
                refine tkS 39 (h := ?_)
                refine tkS 40 (h := ?_)
                refine tkS 41 (h := ?_)
                refine tkS 42 (h := ?_)
                refine tkS 43 (h := ?_)
                (simp only [Act.put, List.getElem_toArray, List.getElem_cons_succ, List.getElem_cons_zero, List.setIfInBounds_toArray, List.set_cons_zero, List.set_cons_succ])
                refine tkS 44 (h := ?_)
                refine tkS 45 (h := ?_)
                refine tkX 46 (h := ?_)
                (simp only [Act.put, List.getElem_toArray, List.getElem_cons_succ, List.getElem_cons_zero, List.setIfInBounds_toArray, List.set_cons_zero, List.set_cons_succ])
                refine wpAnyH_done (by kernel_rfl) ?_ _
                clear hHeld hHeld1 hHeld2
                go_wp2_with fail
                go_meet
                exact ⟨_, rfl, HRes.out, HBw2.out⟩
              | true =>
                by_cases hkk : f.kind = 1
                · have hkd1 : decide (f.kind = 1) = true := decide_eq_true hkk
                  have HRes : Hid (false = !(scAt l k)) := by show _ = _; rw [HAt.out, decide_eq_true (p := 1 ≤ f.kind) (by omega), decide_eq_true (p := f.kind ≤ 3) (by omega), hkd1]; simp
                  refine wp_region_held_drew (S := (fun w' => w'.cell? ⟨wr.heap.size, 0, none⟩ = some (.string (bs f.name)) ∧ w'.cell? ⟨wr.heap.size, 1, none⟩ = some (.int .i64 f.kind) ∧ w'.cell? ⟨wr.heap.size, 2, none⟩ = some (.bool f.bf) ∧ w'.cell? ⟨wr.heap.size, 3, none⟩ = some (.bool f.bsm) ∧ w'.cell? ⟨wr.heap.size, 4, none⟩ = some (.bool f.bp) ∧ w'.cell? ⟨wr.heap.size, 5, none⟩ = some (.slice aS f.stops.length cS) ∧ w'.cell? ⟨wr.heap.size, 6, none⟩ = some (.slice aY f.syns.length cY) ∧ w'.cell? ⟨wr.heap.size, 7, none⟩ = some (.int .i64 f.lo) ∧ w'.cell? ⟨wr.heap.size, 8, none⟩ = some (.int .i64 f.hi) ∧ w'.cell? ⟨w.heap.size, 0, none⟩ = some (.slice (some ⟨b, off, none⟩) l.length cap) ∧ w'.cell? ⟨b, off + (k - 1) * 9, none⟩ = some (.string (bs pn)))) (by kernel_rfl) ?_ (fun hHeld => ?_)
                  · exact ⟨p0, p1, p2, p3, p4, p5, p6, p7, p8, x1, pv⟩
                  refine tkX 0 (h := ?_)
                  refine tkX 1 (h := ?_)
                  (simp only [Act.put, List.getElem_toArray, List.getElem_cons_succ, List.getElem_cons_zero, List.setIfInBounds_toArray, List.set_cons_zero, List.set_cons_succ])
                  refine wpAnyH_ready (rs := [2]) (by kernel_rfl) (by simp) ?_
                  refine AllReadyH.cons rfl (fun K hK => ?_) AllReadyH.nil
                  go_simp
                  refine (HCn.out _ (below_drewN (Below.refl wb.heap.size wb) 1)).mono ?_
                  rintro e' wv1 ⟨rfl, hbv1⟩
                  have HBw1 : Hid (Below wb.heap.size wb wv1) := Below.trans (below_drewN (Below.refl wb.heap.size wb) 1) (hbv1.mono (Below.size (below_drewN (Below.refl wb.heap.size wb) 1)))
                  clear hbv1
                  go_wp2_with fail
                  refine hK.out _ _ ?_ (fun hHeld1 => ?_)
                  · exact ⟨(HBw1.out.cell (p := ⟨wr.heap.size, 0, none⟩) hP).trans p0, (HBw1.out.cell (p := ⟨wr.heap.size, 1, none⟩) hP).trans p1, (HBw1.out.cell (p := ⟨wr.heap.size, 2, none⟩) hP).trans p2, (HBw1.out.cell (p := ⟨wr.heap.size, 3, none⟩) hP).trans p3, (HBw1.out.cell (p := ⟨wr.heap.size, 4, none⟩) hP).trans p4, (HBw1.out.cell (p := ⟨wr.heap.size, 5, none⟩) hP).trans p5, (HBw1.out.cell (p := ⟨wr.heap.size, 6, none⟩) hP).trans p6, (HBw1.out.cell (p := ⟨wr.heap.size, 7, none⟩) hP).trans p7, (HBw1.out.cell (p := ⟨wr.heap.size, 8, none⟩) hP).trans p8, (HBw1.out.cell (p := ⟨w.heap.size, 0, none⟩) hQ).trans x1, (HBw1.out.cell (p := ⟨b, off + (k - 1) * 9, none⟩) hbb).trans pv⟩
                  clear hK K
                  try simp only [Act.put, List.getElem_toArray, List.getElem_cons_succ, List.getElem_cons_zero, List.setIfInBounds_toArray, List.set_cons_zero, List.set_cons_succ]
                  refine tkX 3 (h := ?_)
                  refine tkX 4 (h := ?_)
                  refine tkX 5 (h := ?_)
                  refine tkX 6 (h := ?_)
                  refine tkX 7 (h := ?_)
                  (simp only [Act.put, List.getElem_toArray, List.getElem_cons_succ, List.getElem_cons_zero, List.setIfInBounds_toArray, List.set_cons_zero, List.set_cons_succ])
                  refine tkX 8 (h := ?_)
                  refine tkX 9 (h := ?_)
                  refine tkX 10 (h := ?_)
                  refine tkX 11 (h := ?_)
                  refine tkX 12 (h := ?_)
                  (simp only [Act.put, List.getElem_toArray, List.getElem_cons_succ, List.getElem_cons_zero, List.setIfInBounds_toArray, List.set_cons_zero, List.set_cons_succ])
                  refine tkX 13 (h := ?_)
                  refine tkX 14 (h := ?_)
                  refine tkX 15 (h := ?_)
                  refine tkX 16 (h := ?_)
                  refine tkX 17 (h := ?_)
                  (simp only [Act.put, List.getElem_toArray, List.getElem_cons_succ, List.getElem_cons_zero, List.setIfInBounds_toArray, List.set_cons_zero, List.set_cons_succ])
                  refine tkX 18 (h := ?_)
                  refine tkX 19 (h := ?_)
                  refine tkX 20 (h := ?_)
                  refine tkX 21 (h := ?_)
                  refine tkX 22 (h := ?_)
                  (simp only [Act.put, List.getElem_toArray, List.getElem_cons_succ, List.getElem_cons_zero, List.setIfInBounds_toArray, List.set_cons_zero, List.set_cons_succ])
                  refine tkX 23 (h := ?_)
                  refine tkX 24 (h := ?_)
                  refine tkX 25 (h := ?_)
                  refine tkX 26 (h := ?_)
                  refine tkX 27 (h := ?_)
                  (simp only [Act.put, List.getElem_toArray, List.getElem_cons_succ, List.getElem_cons_zero, List.setIfInBounds_toArray, List.set_cons_zero, List.set_cons_succ])
                  refine tkX 28 (h := ?_)
                  refine tkX 29 (h := ?_)
                  refine tkX 30 (h := ?_)
                  refine tkX 31 (h := ?_)
                  refine tkX 32 (h := ?_)
                  (simp only [Act.put, List.getElem_toArray, List.getElem_cons_succ, List.getElem_cons_zero, List.setIfInBounds_toArray, List.set_cons_zero, List.set_cons_succ])
                  refine wpAnyH_ready (rs := [33]) (by kernel_rfl) (by simp) ?_
                  refine AllReadyH.cons rfl (fun K hK => ?_) AllReadyH.nil
                  go_simp
                  refine (HCa.out _ HBw1.out).mono ?_
                  rintro e' wv2 ⟨rfl, hbv2⟩
                  have HBw2 : Hid (Below wb.heap.size wb wv2) := Below.trans HBw1.out (hbv2.mono (Below.size HBw1.out))
                  clear hbv2
                  go_wp2_with fail
                  refine hK.out _ _ ?_ (fun hHeld2 => ?_)
                  · exact ⟨(HBw2.out.cell (p := ⟨wr.heap.size, 0, none⟩) hP).trans p0, (HBw2.out.cell (p := ⟨wr.heap.size, 1, none⟩) hP).trans p1, (HBw2.out.cell (p := ⟨wr.heap.size, 2, none⟩) hP).trans p2, (HBw2.out.cell (p := ⟨wr.heap.size, 3, none⟩) hP).trans p3, (HBw2.out.cell (p := ⟨wr.heap.size, 4, none⟩) hP).trans p4, (HBw2.out.cell (p := ⟨wr.heap.size, 5, none⟩) hP).trans p5, (HBw2.out.cell (p := ⟨wr.heap.size, 6, none⟩) hP).trans p6, (HBw2.out.cell (p := ⟨wr.heap.size, 7, none⟩) hP).trans p7, (HBw2.out.cell (p := ⟨wr.heap.size, 8, none⟩) hP).trans p8, (HBw2.out.cell (p := ⟨w.heap.size, 0, none⟩) hQ).trans x1, (HBw2.out.cell (p := ⟨b, off + (k - 1) * 9, none⟩) hbb).trans pv⟩
                  clear hK K
                  try simp only [Act.put, List.getElem_toArray, List.getElem_cons_succ, List.getElem_cons_zero, List.setIfInBounds_toArray, List.set_cons_zero, List.set_cons_succ]
                  refine tkX 34 (h := ?_)
                  refine tkX 35 (h := ?_)
                  refine tkX 36 (h := ?_)
                  refine tkX 37 (h := ?_)
                  refine tkX 38 (h := ?_)
                  (simp only [Act.put, List.getElem_toArray, List.getElem_cons_succ, List.getElem_cons_zero, List.setIfInBounds_toArray, List.set_cons_zero, List.set_cons_succ])
                  refine tkX 39 (h := ?_)
                  refine tkX 40 (h := ?_)
                  refine tkS 41 (h := ?_)
                  refine tkS 42 (h := ?_)
                  refine tkS 43 (h := ?_)
                  (simp only [Act.put, List.getElem_toArray, List.getElem_cons_succ, List.getElem_cons_zero, List.setIfInBounds_toArray, List.set_cons_zero, List.set_cons_succ])
                  refine tkS 44 (h := ?_)
                  refine tkX 45 (h := ?_)
                  refine tkX 46 (h := ?_)
                  (simp only [Act.put, List.getElem_toArray, List.getElem_cons_succ, List.getElem_cons_zero, List.setIfInBounds_toArray, List.set_cons_zero, List.set_cons_succ])
                  refine wpAnyH_done (by kernel_rfl) ?_ _
                  clear hHeld hHeld1 hHeld2
                  go_wp2_with fail
                  go_meet
                  exact ⟨_, rfl, HRes.out, HBw2.out⟩
                · have hkd1 : decide (f.kind = 1) = false := decide_eq_false hkk
                  have hkn : (f.kind != 1) = true := by rw [bne_iff_ne]; exact hkk
                  have HRes : Hid ((!(zrOK f)) = !(scAt l k)) := by show _ = _; rw [HAt.out, decide_eq_true (p := 1 ≤ f.kind) (by omega), decide_eq_true (p := f.kind ≤ 3) (by omega), hkd1]; simp
                  refine wp_region_held_drew (S := (fun w' => w'.cell? ⟨wr.heap.size, 0, none⟩ = some (.string (bs f.name)) ∧ w'.cell? ⟨wr.heap.size, 1, none⟩ = some (.int .i64 f.kind) ∧ w'.cell? ⟨wr.heap.size, 2, none⟩ = some (.bool f.bf) ∧ w'.cell? ⟨wr.heap.size, 3, none⟩ = some (.bool f.bsm) ∧ w'.cell? ⟨wr.heap.size, 4, none⟩ = some (.bool f.bp) ∧ w'.cell? ⟨wr.heap.size, 5, none⟩ = some (.slice aS f.stops.length cS) ∧ w'.cell? ⟨wr.heap.size, 6, none⟩ = some (.slice aY f.syns.length cY) ∧ w'.cell? ⟨wr.heap.size, 7, none⟩ = some (.int .i64 f.lo) ∧ w'.cell? ⟨wr.heap.size, 8, none⟩ = some (.int .i64 f.hi) ∧ w'.cell? ⟨w.heap.size, 0, none⟩ = some (.slice (some ⟨b, off, none⟩) l.length cap) ∧ w'.cell? ⟨b, off + (k - 1) * 9, none⟩ = some (.string (bs pn)))) (by kernel_rfl) ?_ (fun hHeld => ?_)
                  · exact ⟨p0, p1, p2, p3, p4, p5, p6, p7, p8, x1, pv⟩
                  refine tkX 0 (h := ?_)
                  refine tkX 1 (h := ?_)
                  (simp only [Act.put, List.getElem_toArray, List.getElem_cons_succ, List.getElem_cons_zero, List.setIfInBounds_toArray, List.set_cons_zero, List.set_cons_succ])
                  refine wpAnyH_ready (rs := [2]) (by kernel_rfl) (by simp) ?_
                  refine AllReadyH.cons rfl (fun K hK => ?_) AllReadyH.nil
                  go_simp
                  refine (HCn.out _ (below_drewN (Below.refl wb.heap.size wb) 1)).mono ?_
                  rintro e' wv1 ⟨rfl, hbv1⟩
                  have HBw1 : Hid (Below wb.heap.size wb wv1) := Below.trans (below_drewN (Below.refl wb.heap.size wb) 1) (hbv1.mono (Below.size (below_drewN (Below.refl wb.heap.size wb) 1)))
                  clear hbv1
                  go_wp2_with fail
                  refine hK.out _ _ ?_ (fun hHeld1 => ?_)
                  · exact ⟨(HBw1.out.cell (p := ⟨wr.heap.size, 0, none⟩) hP).trans p0, (HBw1.out.cell (p := ⟨wr.heap.size, 1, none⟩) hP).trans p1, (HBw1.out.cell (p := ⟨wr.heap.size, 2, none⟩) hP).trans p2, (HBw1.out.cell (p := ⟨wr.heap.size, 3, none⟩) hP).trans p3, (HBw1.out.cell (p := ⟨wr.heap.size, 4, none⟩) hP).trans p4, (HBw1.out.cell (p := ⟨wr.heap.size, 5, none⟩) hP).trans p5, (HBw1.out.cell (p := ⟨wr.heap.size, 6, none⟩) hP).trans p6, (HBw1.out.cell (p := ⟨wr.heap.size, 7, none⟩) hP).trans p7, (HBw1.out.cell (p := ⟨wr.heap.size, 8, none⟩) hP).trans p8, (HBw1.out.cell (p := ⟨w.heap.size, 0, none⟩) hQ).trans x1, (HBw1.out.cell (p := ⟨b, off + (k - 1) * 9, none⟩) hbb).trans pv⟩
                  clear hK K
                  try simp only [Act.put, List.getElem_toArray, List.getElem_cons_succ, List.getElem_cons_zero, List.setIfInBounds_toArray, List.set_cons_zero, List.set_cons_succ]
                  refine tkX 3 (h := ?_)
                  refine tkX 4 (h := ?_)
                  refine tkX 5 (h := ?_)
                  refine tkX 6 (h := ?_)
                  refine tkX 7 (h := ?_)
                  (simp only [Act.put, List.getElem_toArray, List.getElem_cons_succ, List.getElem_cons_zero, List.setIfInBounds_toArray, List.set_cons_zero, List.set_cons_succ])
                  refine tkX 8 (h := ?_)
                  refine tkX 9 (h := ?_)
                  refine tkX 10 (h := ?_)
                  refine tkX 11 (h := ?_)
                  refine tkX 12 (h := ?_)
                  (simp only [Act.put, List.getElem_toArray, List.getElem_cons_succ, List.getElem_cons_zero, List.setIfInBounds_toArray, List.set_cons_zero, List.set_cons_succ])
                  refine tkX 13 (h := ?_)
                  refine tkX 14 (h := ?_)
                  refine tkX 15 (h := ?_)
                  refine tkX 16 (h := ?_)
                  refine tkX 17 (h := ?_)
                  (simp only [Act.put, List.getElem_toArray, List.getElem_cons_succ, List.getElem_cons_zero, List.setIfInBounds_toArray, List.set_cons_zero, List.set_cons_succ])
                  refine tkX 18 (h := ?_)
                  refine tkX 19 (h := ?_)
                  refine tkX 20 (h := ?_)
                  refine tkX 21 (h := ?_)
                  refine tkX 22 (h := ?_)
                  (simp only [Act.put, List.getElem_toArray, List.getElem_cons_succ, List.getElem_cons_zero, List.setIfInBounds_toArray, List.set_cons_zero, List.set_cons_succ])
                  refine tkX 23 (h := ?_)
                  refine tkX 24 (h := ?_)
                  refine tkX 25 (h := ?_)
                  refine tkX 26 (h := ?_)
                  refine tkX 27 (h := ?_)
                  (simp only [Act.put, List.getElem_toArray, List.getElem_cons_succ, List.getElem_cons_zero, List.setIfInBounds_toArray, List.set_cons_zero, List.set_cons_succ])
                  refine tkX 28 (h := ?_)
                  refine tkX 29 (h := ?_)
                  refine tkX 30 (h := ?_)
                  refine tkX 31 (h := ?_)
                  refine tkX 32 (h := ?_)
                  (simp only [Act.put, List.getElem_toArray, List.getElem_cons_succ, List.getElem_cons_zero, List.setIfInBounds_toArray, List.set_cons_zero, List.set_cons_succ])
                  refine wpAnyH_ready (rs := [33]) (by kernel_rfl) (by simp) ?_
                  refine AllReadyH.cons rfl (fun K hK => ?_) AllReadyH.nil
                  go_simp
                  refine (HCa.out _ HBw1.out).mono ?_
                  rintro e' wv2 ⟨rfl, hbv2⟩
                  have HBw2 : Hid (Below wb.heap.size wb wv2) := Below.trans HBw1.out (hbv2.mono (Below.size HBw1.out))
                  clear hbv2
                  go_wp2_with fail
                  refine hK.out _ _ ?_ (fun hHeld2 => ?_)
                  · exact ⟨(HBw2.out.cell (p := ⟨wr.heap.size, 0, none⟩) hP).trans p0, (HBw2.out.cell (p := ⟨wr.heap.size, 1, none⟩) hP).trans p1, (HBw2.out.cell (p := ⟨wr.heap.size, 2, none⟩) hP).trans p2, (HBw2.out.cell (p := ⟨wr.heap.size, 3, none⟩) hP).trans p3, (HBw2.out.cell (p := ⟨wr.heap.size, 4, none⟩) hP).trans p4, (HBw2.out.cell (p := ⟨wr.heap.size, 5, none⟩) hP).trans p5, (HBw2.out.cell (p := ⟨wr.heap.size, 6, none⟩) hP).trans p6, (HBw2.out.cell (p := ⟨wr.heap.size, 7, none⟩) hP).trans p7, (HBw2.out.cell (p := ⟨wr.heap.size, 8, none⟩) hP).trans p8, (HBw2.out.cell (p := ⟨w.heap.size, 0, none⟩) hQ).trans x1, (HBw2.out.cell (p := ⟨b, off + (k - 1) * 9, none⟩) hbb).trans pv⟩
                  clear hK K
                  try simp only [Act.put, List.getElem_toArray, List.getElem_cons_succ, List.getElem_cons_zero, List.setIfInBounds_toArray, List.set_cons_zero, List.set_cons_succ]
                  refine tkX 34 (h := ?_)
                  refine tkX 35 (h := ?_)
                  refine tkX 36 (h := ?_)
                  refine tkX 37 (h := ?_)
                  refine tkX 38 (h := ?_)
                  (simp only [Act.put, List.getElem_toArray, List.getElem_cons_succ, List.getElem_cons_zero, List.setIfInBounds_toArray, List.set_cons_zero, List.set_cons_succ])
                  refine tkX 39 (h := ?_)
                  refine tkX 40 (h := ?_)
                  refine tkX 41 (h := ?_)
                  refine tkX 42 (h := ?_)
                  (simp only [Act.put, List.getElem_toArray, List.getElem_cons_succ, List.getElem_cons_zero, List.setIfInBounds_toArray, List.set_cons_zero, List.set_cons_succ])
                  refine wpAnyH_ready (rs := [43]) (by kernel_rfl) (by simp) ?_
                  refine AllReadyH.cons rfl (fun K hK => ?_) AllReadyH.nil
                  go_simp
                  refine (HCz.out _ HBw2.out).mono ?_
                  rintro e' wv3 ⟨rfl, hbv3⟩
                  have HBw3 : Hid (Below wb.heap.size wb wv3) := Below.trans HBw2.out (hbv3.mono (Below.size HBw2.out))
                  clear hbv3
                  go_wp2_with fail
                  refine hK.out _ _ ?_ (fun hHeld3 => ?_)
                  · exact ⟨(HBw3.out.cell (p := ⟨wr.heap.size, 0, none⟩) hP).trans p0, (HBw3.out.cell (p := ⟨wr.heap.size, 1, none⟩) hP).trans p1, (HBw3.out.cell (p := ⟨wr.heap.size, 2, none⟩) hP).trans p2, (HBw3.out.cell (p := ⟨wr.heap.size, 3, none⟩) hP).trans p3, (HBw3.out.cell (p := ⟨wr.heap.size, 4, none⟩) hP).trans p4, (HBw3.out.cell (p := ⟨wr.heap.size, 5, none⟩) hP).trans p5, (HBw3.out.cell (p := ⟨wr.heap.size, 6, none⟩) hP).trans p6, (HBw3.out.cell (p := ⟨wr.heap.size, 7, none⟩) hP).trans p7, (HBw3.out.cell (p := ⟨wr.heap.size, 8, none⟩) hP).trans p8, (HBw3.out.cell (p := ⟨w.heap.size, 0, none⟩) hQ).trans x1, (HBw3.out.cell (p := ⟨b, off + (k - 1) * 9, none⟩) hbb).trans pv⟩
                  clear hK K
                  try simp only [Act.put, List.getElem_toArray, List.getElem_cons_succ, List.getElem_cons_zero, List.setIfInBounds_toArray, List.set_cons_zero, List.set_cons_succ]
                  refine tkX 44 (h := ?_)
                  refine tkX 45 (h := ?_)
                  refine tkX 46 (h := ?_)
                  (simp only [Act.put, List.getElem_toArray, List.getElem_cons_succ, List.getElem_cons_zero, List.setIfInBounds_toArray, List.set_cons_zero, List.set_cons_succ])
                  refine wpAnyH_done (by kernel_rfl) ?_ _
                  clear hHeld hHeld1 hHeld2 hHeld3
                  go_wp2_with fail
                  go_meet
                  exact ⟨_, rfl, HRes.out, HBw3.out⟩
          · obtain rfl : k = 0 := by omega
            have hkd : decide ((0 : Int) > 0) = false := rfl
            by_cases hk1 : f.kind < 1
            · have hk1d : decide (f.kind < 1) = true := decide_eq_true hk1
              have HRes : Hid (true = !(scAt l 0)) := by show _ = _; rw [HAt.out, decide_eq_false (p := 1 ≤ f.kind) (by omega)]; simp
              refine wp_region_held_drew (S := (fun w' => w'.cell? ⟨wr.heap.size, 0, none⟩ = some (.string (bs f.name)) ∧ w'.cell? ⟨wr.heap.size, 1, none⟩ = some (.int .i64 f.kind) ∧ w'.cell? ⟨wr.heap.size, 2, none⟩ = some (.bool f.bf) ∧ w'.cell? ⟨wr.heap.size, 3, none⟩ = some (.bool f.bsm) ∧ w'.cell? ⟨wr.heap.size, 4, none⟩ = some (.bool f.bp) ∧ w'.cell? ⟨wr.heap.size, 5, none⟩ = some (.slice aS f.stops.length cS) ∧ w'.cell? ⟨wr.heap.size, 6, none⟩ = some (.slice aY f.syns.length cY) ∧ w'.cell? ⟨wr.heap.size, 7, none⟩ = some (.int .i64 f.lo) ∧ w'.cell? ⟨wr.heap.size, 8, none⟩ = some (.int .i64 f.hi) ∧ w'.cell? ⟨w.heap.size, 0, none⟩ = some (.slice (some ⟨b, off, none⟩) l.length cap))) (by kernel_rfl) ?_ (fun hHeld => ?_)
              · exact ⟨p0, p1, p2, p3, p4, p5, p6, p7, p8, x1⟩
              refine tkX 0 (h := ?_)
              refine tkX 1 (h := ?_)
              (simp only [Act.put, List.getElem_toArray, List.getElem_cons_succ, List.getElem_cons_zero, List.setIfInBounds_toArray, List.set_cons_zero, List.set_cons_succ])
              refine wpAnyH_ready (rs := [2]) (by kernel_rfl) (by simp) ?_
              refine AllReadyH.cons rfl (fun K hK => ?_) AllReadyH.nil
              go_simp
              refine (HCn.out _ (below_drewN (Below.refl wb.heap.size wb) 1)).mono ?_
              rintro e' wv1 ⟨rfl, hbv1⟩
              have HBw1 : Hid (Below wb.heap.size wb wv1) := Below.trans (below_drewN (Below.refl wb.heap.size wb) 1) (hbv1.mono (Below.size (below_drewN (Below.refl wb.heap.size wb) 1)))
              clear hbv1
              go_wp2_with fail
              refine hK.out _ _ ?_ (fun hHeld1 => ?_)
              · exact ⟨(HBw1.out.cell (p := ⟨wr.heap.size, 0, none⟩) hP).trans p0, (HBw1.out.cell (p := ⟨wr.heap.size, 1, none⟩) hP).trans p1, (HBw1.out.cell (p := ⟨wr.heap.size, 2, none⟩) hP).trans p2, (HBw1.out.cell (p := ⟨wr.heap.size, 3, none⟩) hP).trans p3, (HBw1.out.cell (p := ⟨wr.heap.size, 4, none⟩) hP).trans p4, (HBw1.out.cell (p := ⟨wr.heap.size, 5, none⟩) hP).trans p5, (HBw1.out.cell (p := ⟨wr.heap.size, 6, none⟩) hP).trans p6, (HBw1.out.cell (p := ⟨wr.heap.size, 7, none⟩) hP).trans p7, (HBw1.out.cell (p := ⟨wr.heap.size, 8, none⟩) hP).trans p8, (HBw1.out.cell (p := ⟨w.heap.size, 0, none⟩) hQ).trans x1⟩
              clear hK K
              try simp only [Act.put, List.getElem_toArray, List.getElem_cons_succ, List.getElem_cons_zero, List.setIfInBounds_toArray, List.set_cons_zero, List.set_cons_succ]
              refine tkX 3 (h := ?_)
              refine tkX 4 (h := ?_)
              refine tkX 5 (h := ?_)
              refine tkX 6 (h := ?_)
              refine tkX 7 (h := ?_)
              (simp only [Act.put, List.getElem_toArray, List.getElem_cons_succ, List.getElem_cons_zero, List.setIfInBounds_toArray, List.set_cons_zero, List.set_cons_succ])
              refine tkS 8 (h := ?_)
              refine tkS 9 (h := ?_)
              refine tkS 10 (h := ?_)
              refine tkS 11 (h := ?_)
              refine tkS 12 (h := ?_)
              (simp only [Act.put, List.getElem_toArray, List.getElem_cons_succ, List.getElem_cons_zero, List.setIfInBounds_toArray, List.set_cons_zero, List.set_cons_succ])
              refine tkS 13 (h := ?_)
              refine tkS 14 (h := ?_)
              refine tkS 15 (h := ?_)
              refine tkS 16 (h := ?_)
              refine tkS 17 (h := ?_)
              (simp only [Act.put, List.getElem_toArray, List.getElem_cons_succ, List.getElem_cons_zero, List.setIfInBounds_toArray, List.set_cons_zero, List.set_cons_succ])
              refine tkX 18 (h := ?_)
              refine tkX 19 (h := ?_)
              refine tkX 20 (h := ?_)
              refine tkX 21 (h := ?_)
              refine tkX 22 (h := ?_)
              (simp only [Act.put, List.getElem_toArray, List.getElem_cons_succ, List.getElem_cons_zero, List.setIfInBounds_toArray, List.set_cons_zero, List.set_cons_succ])
              refine tkX 23 (h := ?_)
              refine tkX 24 (h := ?_)
              refine tkX 25 (h := ?_)
              refine tkS 26 (h := ?_)
              refine tkS 27 (h := ?_)
              (simp only [Act.put, List.getElem_toArray, List.getElem_cons_succ, List.getElem_cons_zero, List.setIfInBounds_toArray, List.set_cons_zero, List.set_cons_succ])
              refine tkS 28 (h := ?_)
              refine tkX 29 (h := ?_)
              refine tkX 30 (h := ?_)
              refine tkS 31 (h := ?_)
              refine tkS 32 (h := ?_)
              (simp only [Act.put, List.getElem_toArray, List.getElem_cons_succ, List.getElem_cons_zero, List.setIfInBounds_toArray, List.set_cons_zero, List.set_cons_succ])
              refine tkS 33 (h := ?_)
              refine tkS 34 (h := ?_)
              refine tkX 35 (h := ?_)
              refine tkX 36 (h := ?_)
              refine tkS 37 (h := ?_)
              (simp only [Act.put, List.getElem_toArray, List.getElem_cons_succ, List.getElem_cons_zero, List.setIfInBounds_toArray, List.set_cons_zero, List.set_cons_succ])
              refine tkS 38 (h := ?_)
              refine tkS 39 (h := ?_)
              refine tkS 40 (h := ?_)
              refine tkS 41 (h := ?_)
              refine tkS 42 (h := ?_)
              (simp only [Act.put, List.getElem_toArray, List.getElem_cons_succ, List.getElem_cons_zero, List.setIfInBounds_toArray, List.set_cons_zero, List.set_cons_succ])
              refine tkS 43 (h := ?_)
              refine tkS 44 (h := ?_)
              refine tkS 45 (h := ?_)
              refine tkX 46 (h := ?_)
              (simp only [Act.put, List.getElem_toArray, List.getElem_cons_succ, List.getElem_cons_zero, List.setIfInBounds_toArray, List.set_cons_zero, List.set_cons_succ])
              refine wpAnyH_done (by kernel_rfl) ?_ _
              clear hHeld hHeld1
              go_wp2_with fail
              go_meet
              exact ⟨_, rfl, HRes.out, HBw1.out⟩
            have hk1d : decide (f.kind < 1) = false := decide_eq_false hk1
            by_cases hk3 : f.kind > 3
            · have hk3d : decide (f.kind > 3) = true := decide_eq_true hk3
              have hk3e : decide (3 < f.kind) = true := decide_eq_true hk3
              have HRes : Hid (true = !(scAt l 0)) := by show _ = _; rw [HAt.out, decide_eq_false (p := f.kind ≤ 3) (by omega)]; simp
              refine wp_region_held_drew (S := (fun w' => w'.cell? ⟨wr.heap.size, 0, none⟩ = some (.string (bs f.name)) ∧ w'.cell? ⟨wr.heap.size, 1, none⟩ = some (.int .i64 f.kind) ∧ w'.cell? ⟨wr.heap.size, 2, none⟩ = some (.bool f.bf) ∧ w'.cell? ⟨wr.heap.size, 3, none⟩ = some (.bool f.bsm) ∧ w'.cell? ⟨wr.heap.size, 4, none⟩ = some (.bool f.bp) ∧ w'.cell? ⟨wr.heap.size, 5, none⟩ = some (.slice aS f.stops.length cS) ∧ w'.cell? ⟨wr.heap.size, 6, none⟩ = some (.slice aY f.syns.length cY) ∧ w'.cell? ⟨wr.heap.size, 7, none⟩ = some (.int .i64 f.lo) ∧ w'.cell? ⟨wr.heap.size, 8, none⟩ = some (.int .i64 f.hi) ∧ w'.cell? ⟨w.heap.size, 0, none⟩ = some (.slice (some ⟨b, off, none⟩) l.length cap))) (by kernel_rfl) ?_ (fun hHeld => ?_)
              · exact ⟨p0, p1, p2, p3, p4, p5, p6, p7, p8, x1⟩
              refine tkX 0 (h := ?_)
              refine tkX 1 (h := ?_)
              (simp only [Act.put, List.getElem_toArray, List.getElem_cons_succ, List.getElem_cons_zero, List.setIfInBounds_toArray, List.set_cons_zero, List.set_cons_succ])
              refine wpAnyH_ready (rs := [2]) (by kernel_rfl) (by simp) ?_
              refine AllReadyH.cons rfl (fun K hK => ?_) AllReadyH.nil
              go_simp
              refine (HCn.out _ (below_drewN (Below.refl wb.heap.size wb) 1)).mono ?_
              rintro e' wv1 ⟨rfl, hbv1⟩
              have HBw1 : Hid (Below wb.heap.size wb wv1) := Below.trans (below_drewN (Below.refl wb.heap.size wb) 1) (hbv1.mono (Below.size (below_drewN (Below.refl wb.heap.size wb) 1)))
              clear hbv1
              go_wp2_with fail
              refine hK.out _ _ ?_ (fun hHeld1 => ?_)
              · exact ⟨(HBw1.out.cell (p := ⟨wr.heap.size, 0, none⟩) hP).trans p0, (HBw1.out.cell (p := ⟨wr.heap.size, 1, none⟩) hP).trans p1, (HBw1.out.cell (p := ⟨wr.heap.size, 2, none⟩) hP).trans p2, (HBw1.out.cell (p := ⟨wr.heap.size, 3, none⟩) hP).trans p3, (HBw1.out.cell (p := ⟨wr.heap.size, 4, none⟩) hP).trans p4, (HBw1.out.cell (p := ⟨wr.heap.size, 5, none⟩) hP).trans p5, (HBw1.out.cell (p := ⟨wr.heap.size, 6, none⟩) hP).trans p6, (HBw1.out.cell (p := ⟨wr.heap.size, 7, none⟩) hP).trans p7, (HBw1.out.cell (p := ⟨wr.heap.size, 8, none⟩) hP).trans p8, (HBw1.out.cell (p := ⟨w.heap.size, 0, none⟩) hQ).trans x1⟩
              clear hK K
              try simp only [Act.put, List.getElem_toArray, List.getElem_cons_succ, List.getElem_cons_zero, List.setIfInBounds_toArray, List.set_cons_zero, List.set_cons_succ]
              refine tkX 3 (h := ?_)
              refine tkX 4 (h := ?_)
              refine tkX 5 (h := ?_)
              refine tkX 6 (h := ?_)
              refine tkX 7 (h := ?_)
              (simp only [Act.put, List.getElem_toArray, List.getElem_cons_succ, List.getElem_cons_zero, List.setIfInBounds_toArray, List.set_cons_zero, List.set_cons_succ])
              refine tkS 8 (h := ?_)
              refine tkS 9 (h := ?_)
              refine tkS 10 (h := ?_)
              refine tkS 11 (h := ?_)
              refine tkS 12 (h := ?_)
              (simp only [Act.put, List.getElem_toArray, List.getElem_cons_succ, List.getElem_cons_zero, List.setIfInBounds_toArray, List.set_cons_zero, List.set_cons_succ])
              refine tkS 13 (h := ?_)
              refine tkS 14 (h := ?_)
              refine tkS 15 (h := ?_)
              refine tkS 16 (h := ?_)
              refine tkS 17 (h := ?_)
              (simp only [Act.put, List.getElem_toArray, List.getElem_cons_succ, List.getElem_cons_zero, List.setIfInBounds_toArray, List.set_cons_zero, List.set_cons_succ])
              refine tkX 18 (h := ?_)
              refine tkX 19 (h := ?_)
              refine tkX 20 (h := ?_)
              refine tkX 21 (h := ?_)
              refine tkX 22 (h := ?_)
              (simp only [Act.put, List.getElem_toArray, List.getElem_cons_succ, List.getElem_cons_zero, List.setIfInBounds_toArray, List.set_cons_zero, List.set_cons_succ])
              refine tkX 23 (h := ?_)
              refine tkX 24 (h := ?_)
              refine tkX 25 (h := ?_)
              refine tkX 26 (h := ?_)
              refine tkX 27 (h := ?_)
              (simp only [Act.put, List.getElem_toArray, List.getElem_cons_succ, List.getElem_cons_zero, List.setIfInBounds_toArray, List.set_cons_zero, List.set_cons_succ])
              refine tkX 28 (h := ?_)
              refine tkX 29 (h := ?_)
              refine tkX 30 (h := ?_)
              refine tkS 31 (h := ?_)
              refine tkS 32 (h := ?_)
              (simp only [Act.put, List.getElem_toArray, List.getElem_cons_succ, List.getElem_cons_zero, List.setIfInBounds_toArray, List.set_cons_zero, List.set_cons_succ])
              refine tkS 33 (h := ?_)
              refine tkS 34 (h := ?_)
              refine tkX 35 (h := ?_)
              refine tkX 36 (h := ?_)
              refine tkS 37 (h := ?_)
              (simp only [Act.put, List.getElem_toArray, List.getElem_cons_succ, List.getElem_cons_zero, List.setIfInBounds_toArray, List.set_cons_zero, List.set_cons_succ])
              refine tkS 38 (h := ?_)
              refine tkS 39 (h := ?_)
              refine tkS 40 (h := ?_)
              refine tkS 41 (h := ?_)
              refine tkS 42 (h := ?_)
              (simp only [Act.put, List.getElem_toArray, List.getElem_cons_succ, List.getElem_cons_zero, List.setIfInBounds_toArray, List.set_cons_zero, List.set_cons_succ])
              refine tkS 43 (h := ?_)
              refine tkS 44 (h := ?_)
              refine tkS 45 (h := ?_)
              refine tkX 46 (h := ?_)
              (simp only [Act.put, List.getElem_toArray, List.getElem_cons_succ, List.getElem_cons_zero, List.setIfInBounds_toArray, List.set_cons_zero, List.set_cons_succ])
              refine wpAnyH_done (by kernel_rfl) ?_ _
              clear hHeld hHeld1
              go_wp2_with fail
              go_meet
              exact ⟨_, rfl, HRes.out, HBw1.out⟩
            have hk3d : decide (f.kind > 3) = false := decide_eq_false hk3
            have hk3e : decide (3 < f.kind) = false := decide_eq_false hk3
            cases azv with
            | false =>
              have HRes : Hid (true = !(scAt l 0)) := by show _ = _; rw [HAt.out]; simp
              refine wp_region_held_drew (S := (fun w' => w'.cell? ⟨wr.heap.size, 0, none⟩ = some (.string (bs f.name)) ∧ w'.cell? ⟨wr.heap.size, 1, none⟩ = some (.int .i64 f.kind) ∧ w'.cell? ⟨wr.heap.size, 2, none⟩ = some (.bool f.bf) ∧ w'.cell? ⟨wr.heap.size, 3, none⟩ = some (.bool f.bsm) ∧ w'.cell? ⟨wr.heap.size, 4, none⟩ = some (.bool f.bp) ∧ w'.cell? ⟨wr.heap.size, 5, none⟩ = some (.slice aS f.stops.length cS) ∧ w'.cell? ⟨wr.heap.size, 6, none⟩ = some (.slice aY f.syns.length cY) ∧ w'.cell? ⟨wr.heap.size, 7, none⟩ = some (.int .i64 f.lo) ∧ w'.cell? ⟨wr.heap.size, 8, none⟩ = some (.int .i64 f.hi) ∧ w'.cell? ⟨w.heap.size, 0, none⟩ = some (.slice (some ⟨b, off, none⟩) l.length cap))) (by kernel_rfl) ?_ (fun hHeld => ?_)
              · exact ⟨p0, p1, p2, p3, p4, p5, p6, p7, p8, x1⟩
              refine tkX 0 (h := ?_)
              refine tkX 1 (h := ?_)
              (simp only [Act.put, List.getElem_toArray, List.getElem_cons_succ, List.getElem_cons_zero, List.setIfInBounds_toArray, List.set_cons_zero, List.set_cons_succ])
              refine wpAnyH_ready (rs := [2]) (by kernel_rfl) (by simp) ?_
              refine AllReadyH.cons rfl (fun K hK => ?_) AllReadyH.nil
              go_simp
              refine (HCn.out _ (below_drewN (Below.refl wb.heap.size wb) 1)).mono ?_
              rintro e' wv1 ⟨rfl, hbv1⟩
              have HBw1 : Hid (Below wb.heap.size wb wv1) := Below.trans (below_drewN (Below.refl wb.heap.size wb) 1) (hbv1.mono (Below.size (below_drewN (Below.refl wb.heap.size wb) 1)))
              clear hbv1
              go_wp2_with fail
              refine hK.out _ _ ?_ (fun hHeld1 => ?_)
              · exact ⟨(HBw1.out.cell (p := ⟨wr.heap.size, 0, none⟩) hP).trans p0, (HBw1.out.cell (p := ⟨wr.heap.size, 1, none⟩) hP).trans p1, (HBw1.out.cell (p := ⟨wr.heap.size, 2, none⟩) hP).trans p2, (HBw1.out.cell (p := ⟨wr.heap.size, 3, none⟩) hP).trans p3, (HBw1.out.cell (p := ⟨wr.heap.size, 4, none⟩) hP).trans p4, (HBw1.out.cell (p := ⟨wr.heap.size, 5, none⟩) hP).trans p5, (HBw1.out.cell (p := ⟨wr.heap.size, 6, none⟩) hP).trans p6, (HBw1.out.cell (p := ⟨wr.heap.size, 7, none⟩) hP).trans p7, (HBw1.out.cell (p := ⟨wr.heap.size, 8, none⟩) hP).trans p8, (HBw1.out.cell (p := ⟨w.heap.size, 0, none⟩) hQ).trans x1⟩
              clear hK K
              try simp only [Act.put, List.getElem_toArray, List.getElem_cons_succ, List.getElem_cons_zero, List.setIfInBounds_toArray, List.set_cons_zero, List.set_cons_succ]
              refine tkX 3 (h := ?_)
              refine tkX 4 (h := ?_)
              refine tkX 5 (h := ?_)
              refine tkX 6 (h := ?_)
              refine tkX 7 (h := ?_)
              (simp only [Act.put, List.getElem_toArray, List.getElem_cons_succ, List.getElem_cons_zero, List.setIfInBounds_toArray, List.set_cons_zero, List.set_cons_succ])
              refine tkS 8 (h := ?_)
              refine tkS 9 (h := ?_)
              refine tkS 10 (h := ?_)
              refine tkS 11 (h := ?_)
              refine tkS 12 (h := ?_)
              (simp only [Act.put, List.getElem_toArray, List.getElem_cons_succ, List.getElem_cons_zero, List.setIfInBounds_toArray, List.set_cons_zero, List.set_cons_succ])
              refine tkS 13 (h := ?_)
              refine tkS 14 (h := ?_)
              refine tkS 15 (h := ?_)
              refine tkS 16 (h := ?_)
              refine tkS 17 (h := ?_)
              (simp only [Act.put, List.getElem_toArray, List.getElem_cons_succ, List.getElem_cons_zero, List.setIfInBounds_toArray, List.set_cons_zero, List.set_cons_succ])
              refine tkX 18 (h := ?_)
              refine tkX 19 (h := ?_)
              refine tkX 20 (h := ?_)
              refine tkX 21 (h := ?_)
              refine tkX 22 (h := ?_)
              (simp only [Act.put, List.getElem_toArray, List.getElem_cons_succ, List.getElem_cons_zero, List.setIfInBounds_toArray, List.set_cons_zero, List.set_cons_succ])
              refine tkX 23 (h := ?_)
              refine tkX 24 (h := ?_)
              refine tkX 25 (h := ?_)
              refine tkX 26 (h := ?_)
              refine tkX 27 (h := ?_)
              (simp only [Act.put, List.getElem_toArray, List.getElem_cons_succ, List.getElem_cons_zero, List.setIfInBounds_toArray, List.set_cons_zero, List.set_cons_succ])
              refine tkX 28 (h := ?_)
              refine tkX 29 (h := ?_)
              refine tkX 30 (h := ?_)
              refine tkX 31 (h := ?_)
              refine tkX 32 (h := ?_)
              (simp only [Act.put, List.getElem_toArray, List.getElem_cons_succ, List.getElem_cons_zero, List.setIfInBounds_toArray, List.set_cons_zero, List.set_cons_succ])
              refine wpAnyH_ready (rs := [33]) (by kernel_rfl) (by simp) ?_
              refine AllReadyH.cons rfl (fun K hK => ?_) AllReadyH.nil
              go_simp
              refine (HCa.out _ HBw1.out).mono ?_
              rintro e' wv2 ⟨rfl, hbv2⟩
              have HBw2 : Hid (Below wb.heap.size wb wv2) := Below.trans HBw1.out (hbv2.mono (Below.size HBw1.out))
              clear hbv2
              go_wp2_with fail
              refine hK.out _ _ ?_ (fun hHeld2 => ?_)
              · exact ⟨(HBw2.out.cell (p := ⟨wr.heap.size, 0, none⟩) hP).trans p0, (HBw2.out.cell (p := ⟨wr.heap.size, 1, none⟩) hP).trans p1, (HBw2.out.cell (p := ⟨wr.heap.size, 2, none⟩) hP).trans p2, (HBw2.out.cell (p := ⟨wr.heap.size, 3, none⟩) hP).trans p3, (HBw2.out.cell (p := ⟨wr.heap.size, 4, none⟩) hP).trans p4, (HBw2.out.cell (p := ⟨wr.heap.size, 5, none⟩) hP).trans p5, (HBw2.out.cell (p := ⟨wr.heap.size, 6, none⟩) hP).trans p6, (HBw2.out.cell (p := ⟨wr.heap.size, 7, none⟩) hP).trans p7, (HBw2.out.cell (p := ⟨wr.heap.size, 8, none⟩) hP).trans p8, (HBw2.out.cell (p := ⟨w.heap.size, 0, none⟩) hQ).trans x1⟩
              clear hK K
              try simp only [Act.put, List.getElem_toArray, List.getElem_cons_succ, List.getElem_cons_zero, List.setIfInBounds_toArray, List.set_cons_zero, List.set_cons_succ]
              refine tkX 34 (h := ?_)
              refine tkX 35 (h := ?_)
              refine tkX 36 (h := ?_)
              refine tkS 37 (h := ?_)
              refine tkS 38 (h := ?_)
              (simp only [Act.put, List.getElem_toArray, List.getElem_cons_succ, List.getElem_cons_zero, List.setIfInBounds_toArray, List.set_cons_zero, List.set_cons_succ])
              refine tkS 39 (h := ?_)
              refine tkS 40 (h := ?_)
              refine tkS 41 (h := ?_)
              refine tkS 42 (h := ?_)
              refine tkS 43 (h := ?_)
              (simp only [Act.put, List.getElem_toArray, List.getElem_cons_succ, List.getElem_cons_zero, List.setIfInBounds_toArray, List.set_cons_zero, List.set_cons_succ])
              refine tkS 44 (h := ?_)
              refine tkS 45 (h := ?_)
              refine tkX 46 (h := ?_)
              (simp only [Act.put, List.getElem_toArray, List.getElem_cons_succ, List.getElem_cons_zero, List.setIfInBounds_toArray, List.set_cons_zero, List.set_cons_succ])
              refine wpAnyH_done (by kernel_rfl) ?_ _
              clear hHeld hHeld1 hHeld2
              go_wp2_with fail
              go_meet
              exact ⟨_, rfl, HRes.out, HBw2.out⟩
            | true =>
              by_cases hkk : f.kind = 1
              · have hkd1 : decide (f.kind = 1) = true := decide_eq_true hkk
                have HRes : Hid (false = !(scAt l 0)) := by show _ = _; rw [HAt.out, decide_eq_true (p := 1 ≤ f.kind) (by omega), decide_eq_true (p := f.kind ≤ 3) (by omega), hkd1]; simp
                refine wp_region_held_drew (S := (fun w' => w'.cell? ⟨wr.heap.size, 0, none⟩ = some (.string (bs f.name)) ∧ w'.cell? ⟨wr.heap.size, 1, none⟩ = some (.int .i64 f.kind) ∧ w'.cell? ⟨wr.heap.size, 2, none⟩ = some (.bool f.bf) ∧ w'.cell? ⟨wr.heap.size, 3, none⟩ = some (.bool f.bsm) ∧ w'.cell? ⟨wr.heap.size, 4, none⟩ = some (.bool f.bp) ∧ w'.cell? ⟨wr.heap.size, 5, none⟩ = some (.slice aS f.stops.length cS) ∧ w'.cell? ⟨wr.heap.size, 6, none⟩ = some (.slice aY f.syns.length cY) ∧ w'.cell? ⟨wr.heap.size, 7, none⟩ = some (.int .i64 f.lo) ∧ w'.cell? ⟨wr.heap.size, 8, none⟩ = some (.int .i64 f.hi) ∧ w'.cell? ⟨w.heap.size, 0, none⟩ = some (.slice (some ⟨b, off, none⟩) l.length cap))) (by kernel_rfl) ?_ (fun hHeld => ?_)
                · exact ⟨p0, p1, p2, p3, p4, p5, p6, p7, p8, x1⟩
                refine tkX 0 (h := ?_)
                refine tkX 1 (h := ?_)
                (simp only [Act.put, List.getElem_toArray, List.getElem_cons_succ, List.getElem_cons_zero, List.setIfInBounds_toArray, List.set_cons_zero, List.set_cons_succ])
                refine wpAnyH_ready (rs := [2]) (by kernel_rfl) (by simp) ?_
                refine AllReadyH.cons rfl (fun K hK => ?_) AllReadyH.nil
                go_simp
                refine (HCn.out _ (below_drewN (Below.refl wb.heap.size wb) 1)).mono ?_
                rintro e' wv1 ⟨rfl, hbv1⟩
                have HBw1 : Hid (Below wb.heap.size wb wv1) := Below.trans (below_drewN (Below.refl wb.heap.size wb) 1) (hbv1.mono (Below.size (below_drewN (Below.refl wb.heap.size wb) 1)))
                clear hbv1
                go_wp2_with fail
                refine hK.out _ _ ?_ (fun hHeld1 => ?_)
                · exact ⟨(HBw1.out.cell (p := ⟨wr.heap.size, 0, none⟩) hP).trans p0, (HBw1.out.cell (p := ⟨wr.heap.size, 1, none⟩) hP).trans p1, (HBw1.out.cell (p := ⟨wr.heap.size, 2, none⟩) hP).trans p2, (HBw1.out.cell (p := ⟨wr.heap.size, 3, none⟩) hP).trans p3, (HBw1.out.cell (p := ⟨wr.heap.size, 4, none⟩) hP).trans p4, (HBw1.out.cell (p := ⟨wr.heap.size, 5, none⟩) hP).trans p5, (HBw1.out.cell (p := ⟨wr.heap.size, 6, none⟩) hP).trans p6, (HBw1.out.cell (p := ⟨wr.heap.size, 7, none⟩) hP).trans p7, (HBw1.out.cell (p := ⟨wr.heap.size, 8, none⟩) hP).trans p8, (HBw1.out.cell (p := ⟨w.heap.size, 0, none⟩) hQ).trans x1⟩
                clear hK K
                try simp only [Act.put, List.getElem_toArray, List.getElem_cons_succ, List.getElem_cons_zero, List.setIfInBounds_toArray, List.set_cons_zero, List.set_cons_succ]
                refine tkX 3 (h := ?_)
                refine tkX 4 (h := ?_)
                refine tkX 5 (h := ?_)
                refine tkX 6 (h := ?_)
                refine tkX 7 (h := ?_)
                (simp only [Act.put, List.getElem_toArray, List.getElem_cons_succ, List.getElem_cons_zero, List.setIfInBounds_toArray, List.set_cons_zero, List.set_cons_succ])
                refine tkS 8 (h := ?_)
                refine tkS 9 (h := ?_)
                refine tkS 10 (h := ?_)
                refine tkS 11 (h := ?_)
                refine tkS 12 (h := ?_)
                (simp only [Act.put, List.getElem_toArray, List.getElem_cons_succ, List.getElem_cons_zero, List.setIfInBounds_toArray, List.set_cons_zero, List.set_cons_succ])
                refine tkS 13 (h := ?_)
                refine tkS 14 (h := ?_)
                refine tkS 15 (h := ?_)
                refine tkS 16 (h := ?_)
                refine tkS 17 (h := ?_)
                (simp only [Act.put, List.getElem_toArray, List.getElem_cons_succ, List.getElem_cons_zero, List.setIfInBounds_toArray, List.set_cons_zero, List.set_cons_succ])
                refine tkX 18 (h := ?_)
                refine tkX 19 (h := ?_)
                refine tkX 20 (h := ?_)
                refine tkX 21 (h := ?_)
                refine tkX 22 (h := ?_)
                (simp only [Act.put, List.getElem_toArray, List.getElem_cons_succ, List.getElem_cons_zero, List.setIfInBounds_toArray, List.set_cons_zero, List.set_cons_succ])
                refine tkX 23 (h := ?_)
                refine tkX 24 (h := ?_)
                refine tkX 25 (h := ?_)
                refine tkX 26 (h := ?_)
                refine tkX 27 (h := ?_)
                (simp only [Act.put, List.getElem_toArray, List.getElem_cons_succ, List.getElem_cons_zero, List.setIfInBounds_toArray, List.set_cons_zero, List.set_cons_succ])
                refine tkX 28 (h := ?_)
                refine tkX 29 (h := ?_)
                refine tkX 30 (h := ?_)
                refine tkX 31 (h := ?_)
                refine tkX 32 (h := ?_)
                (simp only [Act.put, List.getElem_toArray, List.getElem_cons_succ, List.getElem_cons_zero, List.setIfInBounds_toArray, List.set_cons_zero, List.set_cons_succ])
                refine wpAnyH_ready (rs := [33]) (by kernel_rfl) (by simp) ?_
                refine AllReadyH.cons rfl (fun K hK => ?_) AllReadyH.nil
                go_simp
                refine (HCa.out _ HBw1.out).mono ?_
                rintro e' wv2 ⟨rfl, hbv2⟩
                have HBw2 : Hid (Below wb.heap.size wb wv2) := Below.trans HBw1.out (hbv2.mono (Below.size HBw1.out))
                clear hbv2
                go_wp2_with fail
                refine hK.out _ _ ?_ (fun hHeld2 => ?_)
                · exact ⟨(HBw2.out.cell (p := ⟨wr.heap.size, 0, none⟩) hP).trans p0, (HBw2.out.cell (p := ⟨wr.heap.size, 1, none⟩) hP).trans p1, (HBw2.out.cell (p := ⟨wr.heap.size, 2, none⟩) hP).trans p2, (HBw2.out.cell (p := ⟨wr.heap.size, 3, none⟩) hP).trans p3, (HBw2.out.cell (p := ⟨wr.heap.size, 4, none⟩) hP).trans p4, (HBw2.out.cell (p := ⟨wr.heap.size, 5, none⟩) hP).trans p5, (HBw2.out.cell (p := ⟨wr.heap.size, 6, none⟩) hP).trans p6, (HBw2.out.cell (p := ⟨wr.heap.size, 7, none⟩) hP).trans p7, (HBw2.out.cell (p := ⟨wr.heap.size, 8, none⟩) hP).trans p8, (HBw2.out.cell (p := ⟨w.heap.size, 0, none⟩) hQ).trans x1⟩
                clear hK K
                try simp only [Act.put, List.getElem_toArray, List.getElem_cons_succ, List.getElem_cons_zero, List.setIfInBounds_toArray, List.set_cons_zero, List.set_cons_succ]
                refine tkX 34 (h := ?_)
                refine tkX 35 (h := ?_)
                refine tkX 36 (h := ?_)
                refine tkX 37 (h := ?_)
                refine tkX 38 (h := ?_)
                (simp only [Act.put, List.getElem_toArray, List.getElem_cons_succ, List.getElem_cons_zero, List.setIfInBounds_toArray, List.set_cons_zero, List.set_cons_succ])
                refine tkX 39 (h := ?_)
                refine tkX 40 (h := ?_)
                refine tkS 41 (h := ?_)
                refine tkS 42 (h := ?_)
                refine tkS 43 (h := ?_)
                (simp only [Act.put, List.getElem_toArray, List.getElem_cons_succ, List.getElem_cons_zero, List.setIfInBounds_toArray, List.set_cons_zero, List.set_cons_succ])
                refine tkS 44 (h := ?_)
                refine tkX 45 (h := ?_)
                refine tkX 46 (h := ?_)
                (simp only [Act.put, List.getElem_toArray, List.getElem_cons_succ, List.getElem_cons_zero, List.setIfInBounds_toArray, List.set_cons_zero, List.set_cons_succ])
                refine wpAnyH_done (by kernel_rfl) ?_ _
                clear hHeld hHeld1 hHeld2
                go_wp2_with fail
                go_meet
                exact ⟨_, rfl, HRes.out, HBw2.out⟩
              · have hkd1 : decide (f.kind = 1) = false := decide_eq_false hkk
                have hkn : (f.kind != 1) = true := by rw [bne_iff_ne]; exact hkk
                have HRes : Hid ((!(zrOK f)) = !(scAt l 0)) := by show _ = _; rw [HAt.out, decide_eq_true (p := 1 ≤ f.kind) (by omega), decide_eq_true (p := f.kind ≤ 3) (by omega), hkd1]; simp
                refine wp_region_held_drew (S := (fun w' => w'.cell? ⟨wr.heap.size, 0, none⟩ = some (.string (bs f.name)) ∧ w'.cell? ⟨wr.heap.size, 1, none⟩ = some (.int .i64 f.kind) ∧ w'.cell? ⟨wr.heap.size, 2, none⟩ = some (.bool f.bf) ∧ w'.cell? ⟨wr.heap.size, 3, none⟩ = some (.bool f.bsm) ∧ w'.cell? ⟨wr.heap.size, 4, none⟩ = some (.bool f.bp) ∧ w'.cell? ⟨wr.heap.size, 5, none⟩ = some (.slice aS f.stops.length cS) ∧ w'.cell? ⟨wr.heap.size, 6, none⟩ = some (.slice aY f.syns.length cY) ∧ w'.cell? ⟨wr.heap.size, 7, none⟩ = some (.int .i64 f.lo) ∧ w'.cell? ⟨wr.heap.size, 8, none⟩ = some (.int .i64 f.hi) ∧ w'.cell? ⟨w.heap.size, 0, none⟩ = some (.slice (some ⟨b, off, none⟩) l.length cap))) (by kernel_rfl) ?_ (fun hHeld => ?_)
                · exact ⟨p0, p1, p2, p3, p4, p5, p6, p7, p8, x1⟩
                refine tkX 0 (h := ?_)
                refine tkX 1 (h := ?_)
                (simp only [Act.put, List.getElem_toArray, List.getElem_cons_succ, List.getElem_cons_zero, List.setIfInBounds_toArray, List.set_cons_zero, List.set_cons_succ])
                refine wpAnyH_ready (rs := [2]) (by kernel_rfl) (by simp) ?_
                refine AllReadyH.cons rfl (fun K hK => ?_) AllReadyH.nil
                go_simp
                refine (HCn.out _ (below_drewN (Below.refl wb.heap.size wb) 1)).mono ?_
                rintro e' wv1 ⟨rfl, hbv1⟩
                have HBw1 : Hid (Below wb.heap.size wb wv1) := Below.trans (below_drewN (Below.refl wb.heap.size wb) 1) (hbv1.mono (Below.size (below_drewN (Below.refl wb.heap.size wb) 1)))
                clear hbv1
                go_wp2_with fail
                refine hK.out _ _ ?_ (fun hHeld1 => ?_)
                · exact ⟨(HBw1.out.cell (p := ⟨wr.heap.size, 0, none⟩) hP).trans p0, (HBw1.out.cell (p := ⟨wr.heap.size, 1, none⟩) hP).trans p1, (HBw1.out.cell (p := ⟨wr.heap.size, 2, none⟩) hP).trans p2, (HBw1.out.cell (p := ⟨wr.heap.size, 3, none⟩) hP).trans p3, (HBw1.out.cell (p := ⟨wr.heap.size, 4, none⟩) hP).trans p4, (HBw1.out.cell (p := ⟨wr.heap.size, 5, none⟩) hP).trans p5, (HBw1.out.cell (p := ⟨wr.heap.size, 6, none⟩) hP).trans p6, (HBw1.out.cell (p := ⟨wr.heap.size, 7, none⟩) hP).trans p7, (HBw1.out.cell (p := ⟨wr.heap.size, 8, none⟩) hP).trans p8, (HBw1.out.cell (p := ⟨w.heap.size, 0, none⟩) hQ).trans x1⟩
                clear hK K
                try simp only [Act.put, List.getElem_toArray, List.getElem_cons_succ, List.getElem_cons_zero, List.setIfInBounds_toArray, List.set_cons_zero, List.set_cons_succ]
                refine tkX 3 (h := ?_)
                refine tkX 4 (h := ?_)
                refine tkX 5 (h := ?_)
                refine tkX 6 (h := ?_)
                refine tkX 7 (h := ?_)
                (simp only [Act.put, List.getElem_toArray, List.getElem_cons_succ, List.getElem_cons_zero, List.setIfInBounds_toArray, List.set_cons_zero, List.set_cons_succ])
                refine tkS 8 (h := ?_)
                refine tkS 9 (h := ?_)
                refine tkS 10 (h := ?_)
                refine tkS 11 (h := ?_)
                refine tkS 12 (h := ?_)
                (simp only [Act.put, List.getElem_toArray, List.getElem_cons_succ, List.getElem_cons_zero, List.setIfInBounds_toArray, List.set_cons_zero, List.set_cons_succ])
                refine tkS 13 (h := ?_)
                refine tkS 14 (h := ?_)
                refine tkS 15 (h := ?_)
                refine tkS 16 (h := ?_)
                refine tkS 17 (h := ?_)
                (simp only [Act.put, List.getElem_toArray, List.getElem_cons_succ, List.getElem_cons_zero, List.setIfInBounds_toArray, List.set_cons_zero, List.set_cons_succ])
                refine tkX 18 (h := ?_)
                refine tkX 19 (h := ?_)
                refine tkX 20 (h := ?_)
                refine tkX 21 (h := ?_)
                refine tkX 22 (h := ?_)
                (simp only [Act.put, List.getElem_toArray, List.getElem_cons_succ, List.getElem_cons_zero, List.setIfInBounds_toArray, List.set_cons_zero, List.set_cons_succ])
                refine tkX 23 (h := ?_)
                refine tkX 24 (h := ?_)
                refine tkX 25 (h := ?_)
                refine tkX 26 (h := ?_)
                refine tkX 27 (h := ?_)
                (simp only [Act.put, List.getElem_toArray, List.getElem_cons_succ, List.getElem_cons_zero, List.setIfInBounds_toArray, List.set_cons_zero, List.set_cons_succ])
                refine tkX 28 (h := ?_)
                refine tkX 29 (h := ?_)
                refine tkX 30 (h := ?_)
                refine tkX 31 (h := ?_)
                refine tkX 32 (h := ?_)
                (simp only [Act.put, List.getElem_toArray, List.getElem_cons_succ, List.getElem_cons_zero, List.setIfInBounds_toArray, List.set_cons_zero, List.set_cons_succ])
                refine wpAnyH_ready (rs := [33]) (by kernel_rfl) (by simp) ?_
                refine AllReadyH.cons rfl (fun K hK => ?_) AllReadyH.nil
                go_simp
                refine (HCa.out _ HBw1.out).mono ?_
                rintro e' wv2 ⟨rfl, hbv2⟩
                have HBw2 : Hid (Below wb.heap.size wb wv2) := Below.trans HBw1.out (hbv2.mono (Below.size HBw1.out))
                clear hbv2
                go_wp2_with fail
                refine hK.out _ _ ?_ (fun hHeld2 => ?_)
                · exact ⟨(HBw2.out.cell (p := ⟨wr.heap.size, 0, none⟩) hP).trans p0, (HBw2.out.cell (p := ⟨wr.heap.size, 1, none⟩) hP).trans p1, (HBw2.out.cell (p := ⟨wr.heap.size, 2, none⟩) hP).trans p2, (HBw2.out.cell (p := ⟨wr.heap.size, 3, none⟩) hP).trans p3, (HBw2.out.cell (p := ⟨wr.heap.size, 4, none⟩) hP).trans p4, (HBw2.out.cell (p := ⟨wr.heap.size, 5, none⟩) hP).trans p5, (HBw2.out.cell (p := ⟨wr.heap.size, 6, none⟩) hP).trans p6, (HBw2.out.cell (p := ⟨wr.heap.size, 7, none⟩) hP).trans p7, (HBw2.out.cell (p := ⟨wr.heap.size, 8, none⟩) hP).trans p8, (HBw2.out.cell (p := ⟨w.heap.size, 0, none⟩) hQ).trans x1⟩
                clear hK K
                try simp only [Act.put, List.getElem_toArray, List.getElem_cons_succ, List.getElem_cons_zero, List.setIfInBounds_toArray, List.set_cons_zero, List.set_cons_succ]
                refine tkX 34 (h := ?_)
                refine tkX 35 (h := ?_)
                refine tkX 36 (h := ?_)
                refine tkX 37 (h := ?_)
                refine tkX 38 (h := ?_)
                (simp only [Act.put, List.getElem_toArray, List.getElem_cons_succ, List.getElem_cons_zero, List.setIfInBounds_toArray, List.set_cons_zero, List.set_cons_succ])
                refine tkX 39 (h := ?_)
                refine tkX 40 (h := ?_)
                refine tkX 41 (h := ?_)
                refine tkX 42 (h := ?_)
                (simp only [Act.put, List.getElem_toArray, List.getElem_cons_succ, List.getElem_cons_zero, List.setIfInBounds_toArray, List.set_cons_zero, List.set_cons_succ])
                refine wpAnyH_ready (rs := [43]) (by kernel_rfl) (by simp) ?_
                refine AllReadyH.cons rfl (fun K hK => ?_) AllReadyH.nil
                go_simp
                refine (HCz.out _ HBw2.out).mono ?_
                rintro e' wv3 ⟨rfl, hbv3⟩
                have HBw3 : Hid (Below wb.heap.size wb wv3) := Below.trans HBw2.out (hbv3.mono (Below.size HBw2.out))
                clear hbv3
                go_wp2_with fail
                refine hK.out _ _ ?_ (fun hHeld3 => ?_)
                · exact ⟨(HBw3.out.cell (p := ⟨wr.heap.size, 0, none⟩) hP).trans p0, (HBw3.out.cell (p := ⟨wr.heap.size, 1, none⟩) hP).trans p1, (HBw3.out.cell (p := ⟨wr.heap.size, 2, none⟩) hP).trans p2, (HBw3.out.cell (p := ⟨wr.heap.size, 3, none⟩) hP).trans p3, (HBw3.out.cell (p := ⟨wr.heap.size, 4, none⟩) hP).trans p4, (HBw3.out.cell (p := ⟨wr.heap.size, 5, none⟩) hP).trans p5, (HBw3.out.cell (p := ⟨wr.heap.size, 6, none⟩) hP).trans p6, (HBw3.out.cell (p := ⟨wr.heap.size, 7, none⟩) hP).trans p7, (HBw3.out.cell (p := ⟨wr.heap.size, 8, none⟩) hP).trans p8, (HBw3.out.cell (p := ⟨w.heap.size, 0, none⟩) hQ).trans x1⟩
                clear hK K
                try simp only [Act.put, List.getElem_toArray, List.getElem_cons_succ, List.getElem_cons_zero, List.setIfInBounds_toArray, List.set_cons_zero, List.set_cons_succ]
                refine tkX 44 (h := ?_)
                refine tkX 45 (h := ?_)
                refine tkX 46 (h := ?_)
                (simp only [Act.put, List.getElem_toArray, List.getElem_cons_succ, List.getElem_cons_zero, List.setIfInBounds_toArray, List.set_cons_zero, List.set_cons_succ])
                refine wpAnyH_done (by kernel_rfl) ?_ _
                clear hHeld hHeld1 hHeld2 hHeld3
                go_wp2_with fail
                go_meet
                exact ⟨_, rfl, HRes.out, HBw3.out⟩
      case rest =>
        obtain ⟨B, rfl, hB, hby⟩ := hcut
        have HBy := hidd hby
        clear hby
        cases B with
        | true =>
          have HR := hidd (scOK_no hlt (by simpa using hB.symm))
          clear hB
          go_wp2_with fail
          go_ret
          rw [HR.out]
          exact ⟨rfl, HBr.out.trans (HBy.out.mono HBr.out.size)⟩
        | false =>
          have HN := hidd (all_range_take (scAt l) l.length k HAll.out (by simpa using hB.symm))
          clear hB
          go_wp2_with fail
          go_roundw
          case rel => exact ⟨k + 1, by omega, by go_num, HN.out, HBaw.out.trans (HBy.out.mono HBaw.out.size)⟩
          case measure => simp [intOf]; omega
    · have hkz : ¬ (k : Int) < (l.length : Int) := by omega
      obtain rfl : k = l.length := by omega
      have HR := hidd (scOK_yes (l := l) (by omega) (by omega) HAll.out)
      go_wp2_with fail
      go_ret
      rw [HR.out]
      exact ⟨rfl, HBa.out.trans (HB.out.mono HBa.out.size)⟩
end Go.Proofs.YtgoklapafidpkaaGreatDoor
