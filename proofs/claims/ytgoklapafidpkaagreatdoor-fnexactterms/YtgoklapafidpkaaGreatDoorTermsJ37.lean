import Derived.Test.YtgoklapafidpkaaGreatDoorTermsJ00
import Derived.Test.YtgoklapafidpkaaGreatDoorTermsJ07
import Derived.Test.YtgoklapafidpkaaGreatDoorTermsJ24
import Derived.Test.YtgoklapafidpkaaGreatDoorTermsJ09
import Derived.Deep.CutBlock
import Derived.Deep.RegionHeld3
import Derived.BigQuiet
import Derived.Test.YtgoklapafidpkaaGreatDoorTermsJ35
namespace Go.Proofs.YtgoklapafidpkaaGreatDoor
open Go Go.RowKit
set_option linter.unusedVariables false
set_option linter.unusedSimpArgs false
set_option maxRecDepth 100000

set_option maxHeartbeats 4000000 in
theorem fdValid_any (f : Fd) (aS aY : Option Addr) (cS cY : Nat) (w : World) (hT : Tabs w) (hal : FdSz f) (hS : HoldS w aS f.stops) (hY : HoldY w aY f.syns) :
    Calls Tryz.prog 71 #[.agg #[.string (bs f.name), .int .i64 f.kind, .bool f.bf, .bool f.bsm, .bool f.bp, .slice aS f.stops.length cS, .slice aY f.syns.length cY, .int .i64 f.lo, .int .i64 f.hi]] w fun e w' => e = .returned (.bool (fdOK f)) ∧ Below w.heap.size w w' := by
  have HBa := hidd ((Below.refl w.heap.size w).alloc (Nat.le_refl _) (.cells #[.string (bs f.name), .int .i64 f.kind, .bool f.bf, .bool f.bsm, .bool f.bp, .slice aS f.stops.length cS, .slice aY f.syns.length cY, .int .i64 f.lo, .int .i64 f.hi] 79))
  have HX := hidd (heap_alloc_new w (.cells #[.string (bs f.name), .int .i64 f.kind, .bool f.bf, .bool f.bsm, .bool f.bp, .slice aS f.stops.length cS, .slice aY f.syns.length cY, .int .i64 f.lo, .int .i64 f.hi] 79))
  have HCn : Hid (∀ W, Calls Tryz.prog 107 #[.string (bs f.name)] W fun e w' => e = .returned (.bool (nmOK f.name)) ∧ w' = W) := fun W => by
    have := nameOK_any (bs f.name) W (by rw [bs_size]; exact hal.1)
    rwa [lst_bs] at this
  have HCa : Hid (∀ W, Below w.heap.size w W → Calls Tryz.prog 108 #[.agg #[.bool f.bf, .bool f.bsm, .bool f.bp, .slice aS f.stops.length cS, .slice aY f.syns.length cY, .int .i64 f.lo, .int .i64 f.hi]] W fun e w' => e = .returned (.bool (azOK f.stops f.syns f.lo f.hi)) ∧ Below W.heap.size W w') := fun W hW => implAzOK_any f.bf f.bsm f.bp aS aY cS cY f.stops f.syns f.lo f.hi W (hT.below hW) (hS.below hW) (hY.below hW) hal.2.2.2.1 hal.2.2.2.2 hal.2.1 hal.2.2.1
  have HCz : Hid (∀ W, Calls Tryz.prog 109 #[.agg #[.bool f.bf, .bool f.bsm, .bool f.bp, .slice aS f.stops.length cS, .slice aY f.syns.length cY, .int .i64 f.lo, .int .i64 f.hi]] W fun e w' => e = .returned (.bool (zrOK f)) ∧ Below W.heap.size W w') := fun W => isZero_any f aS aY cS cY W hal.2.1 hal.2.2.1
  obtain ⟨R, hR⟩ : ∃ R, fdOK f = R := ⟨_, rfl⟩
  rw [hR]
  rw [fdOK] at hR
  have HR := hidd hR
  clear hR hT hS hY hal
  go_enter Tryz.func71, Tryz.ntmps71
  by_cases h1 : f.kind = 1
  · rw [if_pos h1] at HR
    go_wp2_with fail
    refine (HCn.out _).mono ?_
    rintro e w' ⟨rfl, hw⟩
    subst hw
    cases hnm : nmOK f.name with
    | false =>
      rw [hnm] at HR
      go_wp2_with fail
      go_ret
      rw [← HR.out]
      exact ⟨rfl, (Below.refl _ _).alloc (Nat.le_refl _) _⟩
    | true =>
      rw [hnm] at HR
      go_wp2_with fail
      refine (HCa.out _ ((Below.refl _ _).alloc (Nat.le_refl _) _)).mono ?_
      rintro e w3 ⟨rfl, hb3⟩
      go_wp2_with fail
      go_ret
      rw [← HR.out]
      exact ⟨by simp, ((Below.refl _ _).alloc (Nat.le_refl _) _).trans (hb3.mono (by simp))⟩
  · rw [if_neg h1] at HR
    by_cases h23 : f.kind = 2 ∨ f.kind = 3
    · rw [if_pos h23] at HR
      rcases h23 with h2 | h2
      all_goals
        go_wp2_with fail
        refine (HCn.out _).mono ?_
        rintro e w' ⟨rfl, hw⟩
        subst hw
        cases hnm : nmOK f.name with
        | false =>
          rw [hnm] at HR
          go_wp2_with fail
          go_ret
          rw [← HR.out]
          exact ⟨rfl, (Below.refl _ _).alloc (Nat.le_refl _) _⟩
        | true =>
          rw [hnm] at HR
          go_wp2_with fail
          refine (HCz.out _).mono ?_
          rintro e w3 ⟨rfl, hb3⟩
          go_wp2_with fail
          go_ret
          rw [← HR.out]
          exact ⟨by simp, ((Below.refl _ _).alloc (Nat.le_refl _) _).trans (hb3.mono (by simp))⟩
    · have h2 : ¬ f.kind = 2 := fun h => h23 (Or.inl h)
      have h3 : ¬ f.kind = 3 := fun h => h23 (Or.inr h)
      rw [if_neg h23, Bool.and_false] at HR
      clear h23
      go_wp2_with fail
      go_ret
      rw [← HR.out]
      exact ⟨rfl, (Below.refl _ _).alloc (Nat.le_refl _) _⟩
set_option maxHeartbeats 8000000 in
theorem implSchema_any (a : Option Addr) (cap : Nat) (l : List Fd) (w : World) (hT : Tabs w) (hn : l.length ≤ 1048576) (hA : ∀ i, FdSz (l.getD i fd0)) (hS : HoldF w a l) :
    Calls Tryz.prog 34 #[.agg #[.slice a l.length cap]] w fun e w' => e = .returned (.bool (scOK l)) ∧ Below w.heap.size w w' := by
  have HS := hidd hS
  have HA := hidd hA
  have HT := hidd hT
  clear hS hA hT
  have HBa := hidd ((Below.refl w.heap.size w).alloc (Nat.le_refl _) (.cells #[.slice a l.length cap] 33))
  have HX := hidd (heap_alloc_new w (.cells #[.slice a l.length cap] 33))
  go_enter Tryz.func34, Tryz.ntmps34
  by_cases hin : ¬ (1 ≤ l.length ∧ l.length ≤ 16)
  · have HR := hidd (scOK_len (l := l) (by omega))
    have HW : Hid ((decide ((1 : Int) ≤ (l.length : Int)) && decide ((l.length : Int) ≤ 16)) = false) := by
      show _ = _
      by_cases h1 : 1 ≤ l.length
      · rw [decide_eq_false (p := (l.length : Int) ≤ 16) (by omega), Bool.and_false]
      · rw [decide_eq_false (p := (1 : Int) ≤ (l.length : Int)) (by omega), Bool.false_and]
    clear hin
    go_wp2_with fail
    refine (within_any _ _ _ _).mono ?_
    rintro e w' ⟨rfl, hw⟩
    subst hw
    rw [HW.out]
    clear HW
    go_wp2_with fail
    go_ret
    rw [HR.out]
    exact ⟨rfl, HBa.out⟩
  have h1 : 1 ≤ l.length := by omega
  have h16 : l.length ≤ 16 := by omega
  have HW : Hid ((decide ((1 : Int) ≤ (l.length : Int)) && decide ((l.length : Int) ≤ 16)) = true) := by show _ = _; rw [decide_eq_true (by omega), decide_eq_true (by omega)]; rfl
  clear hin
  go_wp2_with fail
  refine (within_any _ _ _ _).mono ?_
  rintro e w' ⟨rfl, hw⟩
  subst hw
  rw [HW.out]
  clear HW
  go_wp2_with fail
  obtain ⟨wa, hwa⟩ : ∃ wa, w.alloc (.cells #[.slice a l.length cap] 33) = wa := ⟨_, rfl⟩
  rw [hwa] at HBa HX
  try rw [hwa]
  clear hwa
  go_loopw [13] (fun iv wr => ∃ i : Nat, i ≤ l.length ∧ iv = .int .i64 (i : Int) ∧ (List.range i).all (scAt l) = true ∧ Below wa.heap.size wa wr) (fun iv _ => l.length - (intOf iv).toNat)
  case atStart => exact ⟨0, Nat.zero_le _, rfl, by simp, Below.refl _ _⟩
  case round =>
    obtain ⟨k, hk, rfl, hall, hbel⟩ := hrel
    have HAll := hidd hall
    have HXr := hidd (blk_old HX.out hbel)
    have x0 := blk_cell HXr.out 0
    have HB := hidd hbel
    clear hall hbel
    by_cases hlt : k < l.length
    · have hkz : (k : Int) < (l.length : Int) := by omega
      obtain ⟨b, off, rfl, hbl, hc⟩ := ((HS.out.below HBa.out).below HB.out).resolve_left (fun h => by rw [h] at hlt; simp at hlt)
      obtain ⟨q0, q1, q2, q3, q4, ⟨aS, cS, q5, hSt⟩, ⟨aY, cY, q6, hYt⟩, q7, q8⟩ := hc k hlt
      have hpv : 0 < k → wr.cell? ⟨b, off + (k - 1) * 9, none⟩ = some (.string (bs (l.getD (k - 1) fd0).name)) := fun h => (hc (k - 1) (by omega)).1
      have hal := HA.out k
      have HAt : Hid (scAt l k = (fdOK (l.getD k fd0) && !(decide (0 < k) && leT (l.getD k fd0).name (l.getD (k - 1) fd0).name))) := rfl
      obtain ⟨f, hf⟩ : ∃ f, l.getD k fd0 = f := ⟨_, rfl⟩
      obtain ⟨pn, hpn⟩ : ∃ pn, (l.getD (k - 1) fd0).name = pn := ⟨_, rfl⟩
      rw [hf] at q0 q1 q2 q3 q4 q5 q6 q7 q8 hSt hYt hal HAt
      rw [hpn] at hpv HAt
      clear hf hpn hc
      go_upto_region 6 with fail
      have HBf := hidd ((Below.refl wr.heap.size wr).alloc (Nat.le_refl _) (.cells #[.string (bs f.name), .int .i64 f.kind, .bool f.bf, .bool f.bsm, .bool f.bp, .slice aS f.stops.length cS, .slice aY f.syns.length cY, .int .i64 f.lo, .int .i64 f.hi] 79))
      have HFb := hidd (heap_alloc_new wr (.cells #[.string (bs f.name), .int .i64 f.kind, .bool f.bf, .bool f.bsm, .bool f.bp, .slice aS f.stops.length cS, .slice aY f.syns.length cY, .int .i64 f.lo, .int .i64 f.hi] 79))
      obtain ⟨wb, hwb⟩ : ∃ wb, wr.alloc (.cells #[.string (bs f.name), .int .i64 f.kind, .bool f.bf, .bool f.bsm, .bool f.bp, .slice aS f.stops.length cS, .slice aY f.syns.length cY, .int .i64 f.lo, .int .i64 f.hi] 79) = wb := ⟨_, rfl⟩
      rw [hwb] at HBf HFb
      try rw [hwb]
      clear hwb
      have HSb := hidd (hSt.below HBf.out)
      have HYb := hidd (hYt.below HBf.out)
      have HCv : Hid (∀ W, Below wb.heap.size wb W → Calls Tryz.prog 71 #[.agg #[.string (bs f.name), .int .i64 f.kind, .bool f.bf, .bool f.bsm, .bool f.bp, .slice aS f.stops.length cS, .slice aY f.syns.length cY, .int .i64 f.lo, .int .i64 f.hi]] W fun e w' => e = .returned (.bool (fdOK f)) ∧ Below W.heap.size W w') := fun W hW => fdValid_any f aS aY cS cY W ((((HT.out.below HBa.out).below HB.out).below HBf.out).below hW) hal (HSb.out.below hW) (HYb.out.below hW)
      have HXb := hidd (blk_old HXr.out HBf.out)
      have x1 := blk_cell HXb.out 0
      have HPv : Hid (0 < k → wb.cell? ⟨b, off + (k - 1) * 9, none⟩ = some (.string (bs pn))) := fun h => (HBf.out.cell (p := ⟨b, off + (k - 1) * 9, none⟩) hbl).trans (hpv h)
      have hP : wr.heap.size < wb.heap.size := (Array.getElem?_eq_some_iff.1 HFb.out).1
      have hQ : w.heap.size < wb.heap.size := (Array.getElem?_eq_some_iff.1 HXb.out).1
      have hbb : b < wb.heap.size := by have := HBf.out.size; omega
      have HBr : Hid (Below w.heap.size w wb) := (HBa.out.trans (HB.out.mono HBa.out.size)).trans (HBf.out.mono (by have := HBa.out.size; have := HB.out.size; omega))
      have HBaw : Hid (Below wa.heap.size wa wb) := HB.out.trans (HBf.out.mono HB.out.size)
      clear q0 q1 q2 q3 q4 q5 q6 q7 q8 hSt hYt hal HSb HYb hpv x0
      have p0 := blk_cell HFb.out 0
      have p1 := blk_cell HFb.out 1
      have p2 := blk_cell HFb.out 2
      have p3 := blk_cell HFb.out 3
      have p4 := blk_cell HFb.out 4
      have p5 := blk_cell HFb.out 5
      have p6 := blk_cell HFb.out 6
      have p7 := blk_cell HFb.out 7
      have p8 := blk_cell HFb.out 8
      simp only [List.getElem?_toArray, List.getElem?_cons_zero, List.getElem?_cons_succ] at p0 p1 p2 p3 p4 p5 p6 p7 p8 x1
      go_cut [36] (fun cv wy => ∃ B : Bool, cv = .bool B ∧ B = !(scAt l k) ∧ Below wb.heap.size wb wy)
      case first =>
        by_cases h0 : 0 < k
        · have hk1z : (1 : Int) ≤ (k : Int) := by omega
          have hpn1 : ((k : Int) - 1).toNat = k - 1 := by omega
          have hpz0 : ¬ ((k : Int) - 1 < 0) := by omega
          have hpz1 : (k : Int) - 1 < (l.length : Int) := by omega
          have hpz2 : (0 : Int) ≤ (k : Int) - 1 := by omega
          have hwr : IntKind.i64.wrap ((k : Int) - 1) = (k : Int) - 1 := IntWalk.i64_in _ (by omega)
          have hkd : decide ((k : Int) > 0) = true := decide_eq_true (by omega)
          have hkd2 : decide ((0 : Int) < (k : Int)) = true := decide_eq_true (by omega)
          have pv := HPv.out h0
          cases hl : leT f.name pn with
          | true =>
            have hle : (Op.bytesLess (bs f.name).toList (bs pn).toList || (bs f.name).toList == (bs pn).toList) = true := by rw [Lib.toList_data, Lib.toList_data, show (bs f.name).data.toList = f.name from lst_bs f.name, show (bs pn).data.toList = pn from lst_bs pn]; exact hl
            have HRes : Hid (true = !(scAt l k)) := by show _ = _; rw [HAt.out, hl, decide_eq_true h0]; simp
            clear hl
            refine wp_region_held_drew (S := (fun w' => w'.cell? ⟨wr.heap.size, 0, none⟩ = some (.string (bs f.name)) ∧ w'.cell? ⟨wr.heap.size, 1, none⟩ = some (.int .i64 f.kind) ∧ w'.cell? ⟨wr.heap.size, 2, none⟩ = some (.bool f.bf) ∧ w'.cell? ⟨wr.heap.size, 3, none⟩ = some (.bool f.bsm) ∧ w'.cell? ⟨wr.heap.size, 4, none⟩ = some (.bool f.bp) ∧ w'.cell? ⟨wr.heap.size, 5, none⟩ = some (.slice aS f.stops.length cS) ∧ w'.cell? ⟨wr.heap.size, 6, none⟩ = some (.slice aY f.syns.length cY) ∧ w'.cell? ⟨wr.heap.size, 7, none⟩ = some (.int .i64 f.lo) ∧ w'.cell? ⟨wr.heap.size, 8, none⟩ = some (.int .i64 f.hi) ∧ w'.cell? ⟨w.heap.size, 0, none⟩ = some (.slice (some ⟨b, off, none⟩) l.length cap) ∧ w'.cell? ⟨b, off + (k - 1) * 9, none⟩ = some (.string (bs pn)))) (by kernel_rfl) ?_ (fun hHeld => ?_)
            · exact ⟨p0, p1, p2, p3, p4, p5, p6, p7, p8, x1, pv⟩
            refine tkX 0 (h := ?_)
            refine tkX 1 (h := ?_)
            refine tkX 2 (h := ?_)
            refine tkX 3 (h := ?_)
            refine tkX 4 (h := ?_)
            (simp only [Act.put, List.getElem_toArray, List.getElem_cons_succ, List.getElem_cons_zero, List.setIfInBounds_toArray, List.set_cons_zero, List.set_cons_succ])
            refine tkX 5 (h := ?_)
            refine tkX 6 (h := ?_)
            refine tkX 7 (h := ?_)
            refine tkX 8 (h := ?_)
            refine tkX 9 (h := ?_)
            (simp only [Act.put, List.getElem_toArray, List.getElem_cons_succ, List.getElem_cons_zero, List.setIfInBounds_toArray, List.set_cons_zero, List.set_cons_succ])
            refine tkX 10 (h := ?_)
            refine tkX 11 (h := ?_)
            refine tkX 12 (h := ?_)
            refine tkX 13 (h := ?_)
            refine tkX 14 (h := ?_)
            (simp only [Act.put, List.getElem_toArray, List.getElem_cons_succ, List.getElem_cons_zero, List.setIfInBounds_toArray, List.set_cons_zero, List.set_cons_succ])
            refine tkS 15 (h := ?_)
            refine tkS 16 (h := ?_)
            refine tkS 17 (h := ?_)
            refine tkX 18 (h := ?_)
            (simp only [Act.put, List.getElem_toArray, List.getElem_cons_succ, List.getElem_cons_zero, List.setIfInBounds_toArray, List.set_cons_zero, List.set_cons_succ])
            refine wpAnyH_done (by kernel_rfl) ?_ _
            clear hHeld
            go_wp2_with fail
            go_meet
            exact ⟨_, rfl, HRes.out, below_drewN (Below.refl _ _) 1⟩
          | false =>
            have hle : (Op.bytesLess (bs f.name).toList (bs pn).toList || (bs f.name).toList == (bs pn).toList) = false := by rw [Lib.toList_data, Lib.toList_data, show (bs f.name).data.toList = f.name from lst_bs f.name, show (bs pn).data.toList = pn from lst_bs pn]; exact hl
            have HRes : Hid ((!fdOK f) = !(scAt l k)) := by show _ = _; rw [HAt.out, hl]; simp
            clear hl
            refine wp_region_held_drew (S := (fun w' => w'.cell? ⟨wr.heap.size, 0, none⟩ = some (.string (bs f.name)) ∧ w'.cell? ⟨wr.heap.size, 1, none⟩ = some (.int .i64 f.kind) ∧ w'.cell? ⟨wr.heap.size, 2, none⟩ = some (.bool f.bf) ∧ w'.cell? ⟨wr.heap.size, 3, none⟩ = some (.bool f.bsm) ∧ w'.cell? ⟨wr.heap.size, 4, none⟩ = some (.bool f.bp) ∧ w'.cell? ⟨wr.heap.size, 5, none⟩ = some (.slice aS f.stops.length cS) ∧ w'.cell? ⟨wr.heap.size, 6, none⟩ = some (.slice aY f.syns.length cY) ∧ w'.cell? ⟨wr.heap.size, 7, none⟩ = some (.int .i64 f.lo) ∧ w'.cell? ⟨wr.heap.size, 8, none⟩ = some (.int .i64 f.hi) ∧ w'.cell? ⟨w.heap.size, 0, none⟩ = some (.slice (some ⟨b, off, none⟩) l.length cap) ∧ w'.cell? ⟨b, off + (k - 1) * 9, none⟩ = some (.string (bs pn)))) (by kernel_rfl) ?_ (fun hHeld => ?_)
            · exact ⟨p0, p1, p2, p3, p4, p5, p6, p7, p8, x1, pv⟩
            refine tkX 0 (h := ?_)
            refine tkX 1 (h := ?_)
            refine tkX 2 (h := ?_)
            refine tkX 3 (h := ?_)
            refine tkX 4 (h := ?_)
            (simp only [Act.put, List.getElem_toArray, List.getElem_cons_succ, List.getElem_cons_zero, List.setIfInBounds_toArray, List.set_cons_zero, List.set_cons_succ])
            refine tkX 5 (h := ?_)
            refine tkX 6 (h := ?_)
            refine tkX 7 (h := ?_)
            refine tkX 8 (h := ?_)
            refine tkX 9 (h := ?_)
            (simp only [Act.put, List.getElem_toArray, List.getElem_cons_succ, List.getElem_cons_zero, List.setIfInBounds_toArray, List.set_cons_zero, List.set_cons_succ])
            refine tkX 10 (h := ?_)
            refine tkX 11 (h := ?_)
            refine tkX 12 (h := ?_)
            refine tkX 13 (h := ?_)
            refine tkX 14 (h := ?_)
            (simp only [Act.put, List.getElem_toArray, List.getElem_cons_succ, List.getElem_cons_zero, List.setIfInBounds_toArray, List.set_cons_zero, List.set_cons_succ])
            refine tkX 15 (h := ?_)
            (simp only [Act.put, List.getElem_toArray, List.getElem_cons_succ, List.getElem_cons_zero, List.setIfInBounds_toArray, List.set_cons_zero, List.set_cons_succ])
            refine wpAnyH_ready (rs := [16]) (by kernel_rfl) (by simp) ?_
            refine AllReadyH.cons rfl (fun K hK => ?_) AllReadyH.nil
            go_simp
            refine (HCv.out _ (below_drewN (Below.refl wb.heap.size wb) 1)).mono ?_
            rintro e' wv1 ⟨rfl, hbv1⟩
            have HBw1 : Hid (Below wb.heap.size wb wv1) := Below.trans (below_drewN (Below.refl wb.heap.size wb) 1) (hbv1.mono (Below.size (below_drewN (Below.refl wb.heap.size wb) 1)))
            clear hbv1
            go_wp2_with fail
            refine hK.out _ _ ?_ (fun hHeld1 => ?_)
            · exact ⟨(HBw1.out.cell (p := ⟨wr.heap.size, 0, none⟩) hP).trans p0, (HBw1.out.cell (p := ⟨wr.heap.size, 1, none⟩) hP).trans p1, (HBw1.out.cell (p := ⟨wr.heap.size, 2, none⟩) hP).trans p2, (HBw1.out.cell (p := ⟨wr.heap.size, 3, none⟩) hP).trans p3, (HBw1.out.cell (p := ⟨wr.heap.size, 4, none⟩) hP).trans p4, (HBw1.out.cell (p := ⟨wr.heap.size, 5, none⟩) hP).trans p5, (HBw1.out.cell (p := ⟨wr.heap.size, 6, none⟩) hP).trans p6, (HBw1.out.cell (p := ⟨wr.heap.size, 7, none⟩) hP).trans p7, (HBw1.out.cell (p := ⟨wr.heap.size, 8, none⟩) hP).trans p8, (HBw1.out.cell (p := ⟨w.heap.size, 0, none⟩) hQ).trans x1, (HBw1.out.cell (p := ⟨b, off + (k - 1) * 9, none⟩) hbb).trans pv⟩
            clear hK K
            try simp only [Act.put, List.getElem_toArray, List.getElem_cons_succ, List.getElem_cons_zero, List.setIfInBounds_toArray, List.set_cons_zero, List.set_cons_succ]
            refine tkX 17 (h := ?_)
            refine tkX 18 (h := ?_)
            (simp only [Act.put, List.getElem_toArray, List.getElem_cons_succ, List.getElem_cons_zero, List.setIfInBounds_toArray, List.set_cons_zero, List.set_cons_succ])
            refine wpAnyH_done (by kernel_rfl) ?_ _
            clear hHeld hHeld1
            go_wp2_with fail
            go_meet
            exact ⟨_, rfl, HRes.out, HBw1.out⟩
        · obtain rfl : k = 0 := by omega
          have HRes : Hid ((!fdOK f) = !(scAt l 0)) := by show _ = _; rw [HAt.out]; simp
          have hkd : decide ((0 : Int) > 0) = false := rfl
          refine wp_region_held_drew (S := (fun w' => w'.cell? ⟨wr.heap.size, 0, none⟩ = some (.string (bs f.name)) ∧ w'.cell? ⟨wr.heap.size, 1, none⟩ = some (.int .i64 f.kind) ∧ w'.cell? ⟨wr.heap.size, 2, none⟩ = some (.bool f.bf) ∧ w'.cell? ⟨wr.heap.size, 3, none⟩ = some (.bool f.bsm) ∧ w'.cell? ⟨wr.heap.size, 4, none⟩ = some (.bool f.bp) ∧ w'.cell? ⟨wr.heap.size, 5, none⟩ = some (.slice aS f.stops.length cS) ∧ w'.cell? ⟨wr.heap.size, 6, none⟩ = some (.slice aY f.syns.length cY) ∧ w'.cell? ⟨wr.heap.size, 7, none⟩ = some (.int .i64 f.lo) ∧ w'.cell? ⟨wr.heap.size, 8, none⟩ = some (.int .i64 f.hi) ∧ w'.cell? ⟨w.heap.size, 0, none⟩ = some (.slice (some ⟨b, off, none⟩) l.length cap))) (by kernel_rfl) ?_ (fun hHeld => ?_)
          · exact ⟨p0, p1, p2, p3, p4, p5, p6, p7, p8, x1⟩
          refine tkX 0 (h := ?_)
          refine tkX 1 (h := ?_)
          refine tkX 2 (h := ?_)
          refine tkS 3 (h := ?_)
          refine tkS 4 (h := ?_)
          (simp only [Act.put, List.getElem_toArray, List.getElem_cons_succ, List.getElem_cons_zero, List.setIfInBounds_toArray, List.set_cons_zero, List.set_cons_succ])
          refine tkS 5 (h := ?_)
          refine tkS 6 (h := ?_)
          refine tkS 7 (h := ?_)
          refine tkS 8 (h := ?_)
          refine tkS 9 (h := ?_)
          (simp only [Act.put, List.getElem_toArray, List.getElem_cons_succ, List.getElem_cons_zero, List.setIfInBounds_toArray, List.set_cons_zero, List.set_cons_succ])
          refine tkS 10 (h := ?_)
          refine tkS 11 (h := ?_)
          refine tkS 12 (h := ?_)
          refine tkX 13 (h := ?_)
          refine tkX 14 (h := ?_)
          (simp only [Act.put, List.getElem_toArray, List.getElem_cons_succ, List.getElem_cons_zero, List.setIfInBounds_toArray, List.set_cons_zero, List.set_cons_succ])
          refine tkX 15 (h := ?_)
          (simp only [Act.put, List.getElem_toArray, List.getElem_cons_succ, List.getElem_cons_zero, List.setIfInBounds_toArray, List.set_cons_zero, List.set_cons_succ])
          refine wpAnyH_ready (rs := [16]) (by kernel_rfl) (by simp) ?_
          refine AllReadyH.cons rfl (fun K hK => ?_) AllReadyH.nil
          go_simp
          refine (HCv.out _ (below_drewN (Below.refl wb.heap.size wb) 1)).mono ?_
          rintro e' wv1 ⟨rfl, hbv1⟩
          have HBw1 : Hid (Below wb.heap.size wb wv1) := Below.trans (below_drewN (Below.refl wb.heap.size wb) 1) (hbv1.mono (Below.size (below_drewN (Below.refl wb.heap.size wb) 1)))
          clear hbv1
          go_wp2_with fail
          refine hK.out _ _ ?_ (fun hHeld1 => ?_)
          · exact ⟨(HBw1.out.cell (p := ⟨wr.heap.size, 0, none⟩) hP).trans p0, (HBw1.out.cell (p := ⟨wr.heap.size, 1, none⟩) hP).trans p1, (HBw1.out.cell (p := ⟨wr.heap.size, 2, none⟩) hP).trans p2, (HBw1.out.cell (p := ⟨wr.heap.size, 3, none⟩) hP).trans p3, (HBw1.out.cell (p := ⟨wr.heap.size, 4, none⟩) hP).trans p4, (HBw1.out.cell (p := ⟨wr.heap.size, 5, none⟩) hP).trans p5, (HBw1.out.cell (p := ⟨wr.heap.size, 6, none⟩) hP).trans p6, (HBw1.out.cell (p := ⟨wr.heap.size, 7, none⟩) hP).trans p7, (HBw1.out.cell (p := ⟨wr.heap.size, 8, none⟩) hP).trans p8, (HBw1.out.cell (p := ⟨w.heap.size, 0, none⟩) hQ).trans x1⟩
          clear hK K
          try simp only [Act.put, List.getElem_toArray, List.getElem_cons_succ, List.getElem_cons_zero, List.setIfInBounds_toArray, List.set_cons_zero, List.set_cons_succ]
          refine tkX 17 (h := ?_)
          refine tkX 18 (h := ?_)
          (simp only [Act.put, List.getElem_toArray, List.getElem_cons_succ, List.getElem_cons_zero, List.setIfInBounds_toArray, List.set_cons_zero, List.set_cons_succ])
          refine wpAnyH_done (by kernel_rfl) ?_ _
          clear hHeld hHeld1
          go_wp2_with fail
          go_meet
          exact ⟨_, rfl, HRes.out, HBw1.out⟩
      case rest =>
        obtain ⟨B, rfl, hB, hby⟩ := hcut
        have HBy := hidd hby
        clear hby
        cases B with
        | true =>
          have HR := hidd (scOK_no hlt (by simpa using hB.symm))
          clear hB
          go_wp2_with fail
          go_ret
          rw [HR.out]
          exact ⟨rfl, HBr.out.trans (HBy.out.mono HBr.out.size)⟩
        | false =>
          have HN := hidd (all_range_take (scAt l) l.length k HAll.out (by simpa using hB.symm))
          clear hB
          go_wp2_with fail
          go_roundw
          case rel => exact ⟨k + 1, by omega, by go_num, HN.out, HBaw.out.trans (HBy.out.mono HBaw.out.size)⟩
          case measure => simp [intOf]; omega
    · have hkz : ¬ (k : Int) < (l.length : Int) := by omega
      obtain rfl : k = l.length := by omega
      have HR := hidd (scOK_yes (l := l) (by omega) (by omega) HAll.out)
      go_wp2_with fail
      go_ret
      rw [HR.out]
      exact ⟨rfl, HBa.out.trans (HB.out.mono HBa.out.size)⟩
end Go.Proofs.YtgoklapafidpkaaGreatDoor

namespace Go.Proofs.YtgoklapafidpkaaGreatDoor
open Go Go.RowKit
set_option linter.unusedVariables false
set_option maxRecDepth 100000

set_option maxHeartbeats 4000000 in
theorem implDocOK_any (a : Option Addr) (cap : Nat) (l : List Fd) (id : List UInt8) (av : Option Addr) (cv : Nat) (V : List Vl) (w : World) (hT : Tabs w) (hn : l.length ≤ 1048576) (hA : ∀ i, FdSz (l.getD i fd0)) (hS : HoldF w a l) (hid : id.length ≤ 1048576) (hV : VsSz V) (hH : HoldV w av V) :
    Calls Tryz.prog 11 #[.agg #[.slice a l.length cap], .agg #[.string ⟨id.toArray⟩, .slice av V.length cv]] w fun e w' => e = .returned (.bool (scOK l && dOK l id V)) ∧ Below w.heap.size w w' := by
  have HBa := hidd (((Below.refl w.heap.size w).alloc (Nat.le_refl _) (.cells #[.slice a l.length cap] 33)).alloc (by simp) (.cells #[.string ⟨id.toArray⟩, .slice av V.length cv] 37))
  have HX := hidd (box_two w (.cells #[.slice a l.length cap] 33) (.cells #[.string ⟨id.toArray⟩, .slice av V.length cv] 37))
  have HCs : Hid (∀ W, Below w.heap.size w W → Calls Tryz.prog 34 #[.agg #[.slice a l.length cap]] W fun e w' => e = .returned (.bool (scOK l)) ∧ Below W.heap.size W w') := fun W hW => implSchema_any a cap l W (hT.below hW) hn hA (hS.below hW)
  have HCf : Hid (∀ W, Below w.heap.size w W → Calls Tryz.prog 35 #[.agg #[.slice a l.length cap], .agg #[.string ⟨id.toArray⟩, .slice av V.length cv]] W fun e w' => e = .returned (.bool (dOK l id V)) ∧ Below W.heap.size W w') := fun W hW => fits_any a cap l id av cv V W (hT.below hW) hn hA (hS.below hW) hid hV (hH.below hW)
  clear hT hA hS hV hH
  generalize scOK l = S1 at *
  generalize dOK l id V = S2 at *
  go_enter Tryz.func11, Tryz.ntmps11
  go_upto_region 1 with fail
  obtain ⟨wa, hwa⟩ : ∃ wa, (w.alloc (.cells #[.slice a l.length cap] 33)).alloc (.cells #[.string ⟨id.toArray⟩, .slice av V.length cv] 37) = wa := ⟨_, rfl⟩
  rw [hwa] at HBa HX
  try rw [hwa]
  clear hwa
  have x0 : wa.cell? ⟨w.heap.size, 0, none⟩ = some (.slice a l.length cap) := blkc HX.out.1 0
  go_wp2_with fail
  refine (HCs.out _ HBa.out).mono ?_
  rintro e wb ⟨rfl, hbb⟩
  have HBb := hidd (HBa.out.trans (hbb.mono HBa.out.size))
  have HX1 := hidd (blko HX.out.1 hbb)
  have HX2 := hidd (blko HX.out.2 hbb)
  clear hbb x0
  cases S1 with
  | false =>
    go_wp2_with fail
    go_ret
    exact ⟨rfl, HBb.out⟩
  | true =>
    have x0 : wb.cell? ⟨w.heap.size, 0, none⟩ = some (.slice a l.length cap) := blkc HX1.out 0
    have x1 : wb.cell? ⟨w.heap.size + 1, 0, none⟩ = some (.string ⟨id.toArray⟩) := blkc HX2.out 0
    have x2 : wb.cell? ⟨w.heap.size + 1, 1, none⟩ = some (.slice av V.length cv) := blkc HX2.out 1
    go_wp2_with fail
    refine (HCf.out _ HBb.out).mono ?_
    rintro e wd ⟨rfl, hbd⟩
    go_wp2_with fail
    go_ret
    exact ⟨rfl, HBb.out.trans (hbd.mono HBb.out.size)⟩
end Go.Proofs.YtgoklapafidpkaaGreatDoor
