import Derived.Test.YtgoklapafidpkaaGreatDoorTermsJ00
import Derived.Test.YtgoklapafidpkaaGreatDoorTermsJ34
import Derived.Deep.CutBlock
import Derived.Deep.RegionHeld3
import Derived.BigQuiet
namespace Go.Proofs.YtgoklapafidpkaaGreatDoor
open Go Go.RowKit
set_option linter.unusedVariables false
set_option linter.unusedSimpArgs false
set_option maxRecDepth 100000

/-- Lengths that a law lets through. -/
def VsSz (V : List Vl) : Prop := V.length ≤ 1048576 ∧ (∀ i, (V.getD i vl0).1.length ≤ 1048576 ∧ (V.getD i vl0).2.1.length ≤ 1048576 ∧ (V.getD i vl0).2.2.length ≤ 1048576) ∧ bodyV V ≤ 1048576
theorem VsSz.text {V : List Vl} (h : VsSz V) (i k : Nat) (hi : i < V.length) (hk : k < (V.getD i vl0).2.1.length) : ((V.getD i vl0).2.1.getD k []).length ≤ 1048576 := by
  have h1 := txSum_mem (getD_in (d := []) hk)
  have h2 := bodyV_mem (getD_in (d := vl0) hi)
  have := h.2.2
  omega
set_option maxHeartbeats 16000000 in
theorem fits_any (a : Option Addr) (cap : Nat) (l : List Fd) (id : List UInt8) (av : Option Addr) (cv : Nat) (V : List Vl) (w : World) (hT : Tabs w) (hn : l.length ≤ 1048576) (hA : ∀ i, FdSz (l.getD i fd0)) (hS : HoldF w a l) (hid : id.length ≤ 1048576) (hV : VsSz V) (hH : HoldV w av V) :
    Calls Tryz.prog 35 #[.agg #[.slice a l.length cap], .agg #[.string ⟨id.toArray⟩, .slice av V.length cv]] w fun e w' => e = .returned (.bool (dOK l id V)) ∧ Below w.heap.size w w' := by
  have HT := hidd hT
  have HA := hidd hA
  have HS := hidd hS
  have HV := hidd hV
  have HH := hidd hH
  have hVn := hV.1
  clear hT hA hS hV hH
  have HBa := hidd (((Below.refl w.heap.size w).alloc (Nat.le_refl _) (.cells #[.slice a l.length cap] 33)).alloc (by simp) (.cells #[.string ⟨id.toArray⟩, .slice av V.length cv] 37))
  have HX := hidd (box_two w (.cells #[.slice a l.length cap] 33) (.cells #[.string ⟨id.toArray⟩, .slice av V.length cv] 37))
  have HCi : Hid (∀ W, Calls Tryz.prog 72 #[.string ⟨id.toArray⟩] W fun e w' => e = .returned (.bool (idV id)) ∧ w' = W) := fun W => by
    have := implId_any (bs id) W (by rw [bs_size]; exact hid)
    rwa [lst_bs] at this
  have HCb : Hid (∀ W, Below w.heap.size w W → Calls Tryz.prog 73 #[.agg #[.string ⟨id.toArray⟩, .slice av V.length cv]] W fun e w' => e = .returned (.int .i64 (bodyV V : Int)) ∧ Below W.heap.size W w') := fun W hW => bodySize_any id av cv V W hVn HV.out.2.1 HV.out.2.2 (HH.out.below hW)
  obtain ⟨R, hR⟩ : ∃ R, dOK l id V = R := ⟨_, rfl⟩
  rw [hR]
  have HR := hidd hR
  clear hR
  go_enter Tryz.func35, Tryz.ntmps35
  go_upto_region 1 with fail
  obtain ⟨wa, hwa⟩ : ∃ wa, (w.alloc (.cells #[.slice a l.length cap] 33)).alloc (.cells #[.string ⟨id.toArray⟩, .slice av V.length cv] 37) = wa := ⟨_, rfl⟩
  rw [hwa] at HBa HX
  try rw [hwa]
  clear hwa
  have x0 : wa.cell? ⟨w.heap.size + 1, 0, none⟩ = some (.string ⟨id.toArray⟩) := blkc HX.out.2 0
  have x1 : wa.cell? ⟨w.heap.size + 1, 1, none⟩ = some (.slice av V.length cv) := blkc HX.out.2 1
  go_wp2_with fail
  refine (HCi.out _).mono ?_
  rintro e w' ⟨rfl, hw⟩
  have hw' := hw.symm
  subst hw'
  clear hw
  cases hidv : idV id with
  | false =>
    have HE : Hid (R = false) := HR.out.symm.trans (dOK_id hidv)
    clear hidv
    go_wp2_with fail
    go_ret
    rw [HE.out]
    exact ⟨rfl, HBa.out⟩
  | true =>
  go_wp2_with fail
  refine (HCb.out _ HBa.out).mono ?_
  rintro e wb ⟨rfl, hbb⟩
  have HBb := hidd (HBa.out.trans (hbb.mono HBa.out.size))
  have HXb := hidd (blko HX.out.2 hbb)
  have HXs := hidd (blko HX.out.1 hbb)
  clear hbb x0 x1 HBa HX
  have x1 : wb.cell? ⟨w.heap.size + 1, 1, none⟩ = some (.slice av V.length cv) := blkc HXb.out 1
  by_cases hbd : 4000 < bodyV V
  · have HE : Hid (R = false) := HR.out.symm.trans (dOK_body hbd)
    have zbd : (4000 : Int) < (bodyV V : Int) := by omega
    generalize bodyV V = X at *
    go_wp2_with fail
    go_ret
    rw [HE.out]
    exact ⟨rfl, HBb.out⟩
  have zbd : ¬ (4000 : Int) < (bodyV V : Int) := by omega
  have HE : Hid ((List.range V.length).all (vlAt l V) = R) := by show _ = _; rw [← HR.out, dOK, hidv, decide_eq_true (p := bodyV V ≤ 4000) (by omega)]; rfl
  clear hidv
  clear hbd HR
  generalize bodyV V = X at *
  go_wp2_with fail
  clear zbd HCb HCi
  go_loopw [21] (fun iv wr => ∃ i : Nat, i ≤ V.length ∧ iv = .int .i64 (i : Int) ∧ (List.range i).all (vlAt l V) = true ∧ Below wb.heap.size wb wr) (fun iv _ => V.length - (intOf iv).toNat)
  case atStart => exact ⟨0, Nat.zero_le _, rfl, by simp, Below.refl _ _⟩
  case round =>
    clear x1
    obtain ⟨k, hk, rfl, hall, hbel⟩ := hrel
    have HAll := hidd hall
    have HXr := hidd (blko HXb.out hbel)
    have HXq := hidd (blko HXs.out hbel)
    have HB := hidd (HBb.out.trans (hbel.mono HBb.out.size))
    have HBl := hidd hbel
    clear hall hbel
    by_cases hlt : k < V.length
    · have hkz : (k : Int) < (V.length : Int) := by omega
      have HAt : Hid (vlAt l V k = (vlFit l (V.getD k vl0) && !(decide (0 < k) && leT (V.getD k vl0).1 (V.getD (k - 1) vl0).1))) := rfl
      have HNo : Hid (vlAt l V k = false → R = false) := fun h => by
        rw [← HE.out, List.all_eq_false]
        exact ⟨k, List.mem_range.2 hlt, by simp [h]⟩
      have HYes : Hid (vlAt l V k = true → (List.range (k + 1)).all (vlAt l V) = true) := fun h => all_range_take (vlAt l V) 0 k HAll.out h
      obtain ⟨b, off, rfl, hbl, hc⟩ := (HH.out.below HB.out).resolve_left (fun h => by rw [h] at hlt; simp at hlt)
      obtain ⟨q0, ⟨at_, ct, q1, hTx⟩, an, cn, q2, hZ⟩ := hc k hlt
      have hpv : 0 < k → wr.cell? ⟨b, off + (k - 1) * 3, none⟩ = some (.string (bs (V.getD (k - 1) vl0).1)) := fun h => (hc (k - 1) (by omega)).1
      have HSt := hidd (fun j hj => HV.out.text k j hlt hj)
      have hal := HV.out.2.1 k
      obtain ⟨pn, hpn⟩ : ∃ pn, (V.getD (k - 1) vl0).1 = pn := ⟨_, rfl⟩
      rw [hpn] at hpv HAt
      clear hpn hc
      generalize V.getD k vl0 = s at *
      obtain ⟨f, tx, nz⟩ := s
      dsimp only at q0 q1 q2 hTx hZ hal HAt HSt
      obtain ⟨hal0, hal1, hal2⟩ := hal
      have HTx := hidd hTx
      have HZ := hidd hZ
      have HPv := hidd hpv
      clear hTx hZ hpv
      have x1 : wr.cell? ⟨w.heap.size + 1, 1, none⟩ = some (.slice (some ⟨b, off, none⟩) V.length cv) := blkc HXr.out 1
      go_upto_region 6 with fail
      have HBf := hidd ((Below.refl wr.heap.size wr).alloc (Nat.le_refl _) (.cells #[.string ⟨f.toArray⟩, .slice at_ tx.length ct, .slice an nz.length cn] 60))
      have HFb := hidd (heap_alloc_new wr (.cells #[.string ⟨f.toArray⟩, .slice at_ tx.length ct, .slice an nz.length cn] 60))
      obtain ⟨wv, hwv⟩ : ∃ wv, wr.alloc (.cells #[.string ⟨f.toArray⟩, .slice at_ tx.length ct, .slice an nz.length cn] 60) = wv := ⟨_, rfl⟩
      rw [hwv] at HBf HFb
      try rw [hwv]
      clear hwv q0 q1 q2 x1
      have p0 : wv.cell? ⟨wr.heap.size, 0, none⟩ = some (.string (bs f)) := blkc HFb.out 0
      have x1 : wv.cell? ⟨w.heap.size + 1, 1, none⟩ = some (.slice (some ⟨b, off, none⟩) V.length cv) := blkc (blko HXr.out HBf.out) 1
      have HPw : Hid (0 < k → wv.cell? ⟨b, off + (k - 1) * 3, none⟩ = some (.string (bs pn))) := fun h => (HBf.out.cell (p := ⟨b, off + (k - 1) * 3, none⟩) hbl).trans (HPv.out h)
      have hbb : b < wv.heap.size := by have := HBf.out.size; omega
      have hwrv : wr.heap.size < wv.heap.size := (Array.getElem?_eq_some_iff.1 HFb.out).1
      have hQ : w.heap.size + 1 < wv.heap.size := (Array.getElem?_eq_some_iff.1 (blko HXr.out HBf.out)).1
      go_cut [39] (fun cv wy => cv = .bool (decide (0 < k) && leT f pn) ∧ Below wv.heap.size wv wy)
      case first =>
        by_cases h0 : 0 < k
        · have hk1z : (1 : Int) ≤ (k : Int) := by omega
          have hpn1 : ((k : Int) - 1).toNat = k - 1 := by omega
          have hpz0 : ¬ ((k : Int) - 1 < 0) := by omega
          have hpz1 : (k : Int) - 1 < (V.length : Int) := by omega
          have hpz2 : (0 : Int) ≤ (k : Int) - 1 := by omega
          have hwr : IntKind.i64.wrap ((k : Int) - 1) = (k : Int) - 1 := IntWalk.i64_in _ (by omega)
          have hkd : decide ((k : Int) > 0) = true := decide_eq_true (by omega)
          have hkd2 : decide ((0 : Int) < (k : Int)) = true := decide_eq_true (by omega)
          have pv := HPw.out h0
          have hle : (Op.bytesLess (bs f).toList (bs pn).toList || (bs f).toList == (bs pn).toList) = leT f pn := by rw [bs_toList, bs_toList]; rfl
          go_quiet (fail)
          go_wp2_with fail
          go_meet
          refine ⟨?_, below_drewN (Below.refl _ _) _⟩
          rw [decide_eq_true h0, Bool.true_and, ← hle]
        · have hkd : decide ((k : Int) > 0) = false := decide_eq_false (by omega)
          have hkd2 : decide ((0 : Int) < (k : Int)) = false := decide_eq_false (by omega)
          go_quiet (fail)
          go_wp2_with fail
          go_meet
          refine ⟨?_, below_drewN (Below.refl _ _) _⟩
          rw [decide_eq_false h0, Bool.false_and]
      case rest =>
        obtain ⟨rfl, hby⟩ := hcut
        have HBy := hidd (HB.out.trans ((HBf.out.trans (hby.mono HBf.out.size)).mono HB.out.size))
        have HBz := hidd (HBl.out.trans ((HBf.out.trans (hby.mono HBf.out.size)).mono HBl.out.size))
        have HFy := hidd (blko HFb.out hby)
        have HXy := hidd (blko (blko HXq.out HBf.out) hby)
        have HTy := hidd ((HTx.out.below HBf.out).below hby)
        have HZy := hidd ((HZ.out.below HBf.out).below hby)
        clear hby p0 x1 HPw HPv HTx HZ
        cases hg : (decide (0 < k) && leT f pn) with
        | true =>
          have HE2 : Hid (R = false) := HNo.out (by rw [HAt.out, hg]; simp)
          go_wp2_with fail
          go_ret
          rw [HE2.out]
          exact ⟨rfl, HBy.out⟩
        | false =>
          have HAt2 : Hid (vlAt l V k = vlFit l (f, tx, nz)) := by show _ = _; rw [HAt.out, hg]; simp
          clear hg HAt
          have p0 : wc.cell? ⟨wr.heap.size, 0, none⟩ = some (.string (bs f)) := blkc HFy.out 0
          have y0 : wc.cell? ⟨w.heap.size, 0, none⟩ = some (.slice a l.length cap) := blkc HXy.out 0
          by_cases hit : fldIx l f < l.length
          · obtain ⟨g, hg⟩ : ∃ g, l.getD (fldIx l f) fd0 = g := ⟨_, rfl⟩
            have HFld := hidd (fieldHit_any a cap l f wc hn (HS.out.below HBy.out) hit g hg)
            have HFit : Hid (vlFit l (f, tx, nz) = takesV g (f, tx, nz)) := by show _ = _; rw [vlFit]; dsimp only; rw [decide_eq_true hit, hg, Bool.true_and]
            have hgz : FdSz g := by rw [← hg]; exact HA.out _
            have HGz := hidd hgz
            clear hg hgz
            go_wp2_with fail
            refine HFld.out.mono ?_
            rintro e w8 ⟨aS, cS, aY, cY, rfl, hS8, hY8, hb8⟩
            have HS8 := hidd hS8
            have HY8 := hidd hY8
            have HB8 := hidd hb8
            clear hS8 hY8 hb8 p0 y0 HFld
            dsimp only
            go_upto_region 9 with fail
            have HB9 := hidd ((Below.refl w8.heap.size w8).alloc (Nat.le_refl _) (.cells #[.string (bs g.name), .int .i64 g.kind, .bool g.bf, .bool g.bsm, .bool g.bp, .slice aS g.stops.length cS, .slice aY g.syns.length cY, .int .i64 g.lo, .int .i64 g.hi] 79))
            have HX9 := hidd (heap_alloc_new w8 (.cells #[.string (bs g.name), .int .i64 g.kind, .bool g.bf, .bool g.bsm, .bool g.bp, .slice aS g.stops.length cS, .slice aY g.syns.length cY, .int .i64 g.lo, .int .i64 g.hi] 79))
            obtain ⟨w9, hw9⟩ : ∃ w9, w8.alloc (.cells #[.string (bs g.name), .int .i64 g.kind, .bool g.bf, .bool g.bsm, .bool g.bp, .slice aS g.stops.length cS, .slice aY g.syns.length cY, .int .i64 g.lo, .int .i64 g.hi] 79) = w9 := ⟨_, rfl⟩
            rw [hw9] at HB9 HX9
            try rw [hw9]
            clear hw9
            have HF9 := hidd (blko (blko HFy.out HB8.out) HB9.out)
            have hl8 : w8.heap.size < w9.heap.size := (Array.getElem?_eq_some_iff.1 HX9.out).1
            have hlr : wr.heap.size < w9.heap.size := (Array.getElem?_eq_some_iff.1 HF9.out).1
            have HBc9 := hidd (HB8.out.trans (HB9.out.mono HB8.out.size))
            have HBy9 := hidd (HBy.out.trans (HBc9.out.mono HBy.out.size))
            have HBz9 := hidd (HBz.out.trans (HBc9.out.mono HBz.out.size))
            have HCc : Hid (∀ W, Below w9.heap.size w9 W → Calls Tryz.prog 75 #[.agg #[.string ⟨f.toArray⟩, .slice at_ tx.length ct, .slice an nz.length cn]] W fun e w' => e = .returned (ctV at_ an tx.length ct nz.length cn) ∧ Below W.heap.size W w') := fun W _ => content_any f at_ an tx.length ct nz.length cn W hal1 hal2
            have HCt : Hid (∀ W, Below w9.heap.size w9 W → Calls Tryz.prog 74 #[.agg #[.string (bs g.name), .int .i64 g.kind, .bool g.bf, .bool g.bsm, .bool g.bp, .slice aS g.stops.length cS, .slice aY g.syns.length cY, .int .i64 g.lo, .int .i64 g.hi], ctV at_ an tx.length ct nz.length cn] W fun e w' => e = .returned (.bool (takesV g (f, tx, nz))) ∧ Below W.heap.size W w') := fun W hW => takes_any g aS aY cS cY f at_ an ct cn tx nz W ((HT.out.below HBy9.out).below hW) HGz.out ((HS8.out.below HB9.out).below hW) ((HY8.out.below HB9.out).below hW) hal1 hal2 HSt.out ((HTy.out.below HBc9.out).below hW) ((HZy.out.below HBc9.out).below hW)
            rw [HFit.out] at HAt2
            clear HFit HS8 HY8 HGz HTy HZy
            have p0 : w9.cell? ⟨w8.heap.size, 0, none⟩ = some (.string (bs g.name)) := blkc HX9.out 0
            have p1 : w9.cell? ⟨w8.heap.size, 1, none⟩ = some (.int .i64 g.kind) := blkc HX9.out 1
            have p2 : w9.cell? ⟨w8.heap.size, 2, none⟩ = some (.bool g.bf) := blkc HX9.out 2
            have p3 : w9.cell? ⟨w8.heap.size, 3, none⟩ = some (.bool g.bsm) := blkc HX9.out 3
            have p4 : w9.cell? ⟨w8.heap.size, 4, none⟩ = some (.bool g.bp) := blkc HX9.out 4
            have p5 : w9.cell? ⟨w8.heap.size, 5, none⟩ = some (.slice aS g.stops.length cS) := blkc HX9.out 5
            have p6 : w9.cell? ⟨w8.heap.size, 6, none⟩ = some (.slice aY g.syns.length cY) := blkc HX9.out 6
            have p7 : w9.cell? ⟨w8.heap.size, 7, none⟩ = some (.int .i64 g.lo) := blkc HX9.out 7
            have p8 : w9.cell? ⟨w8.heap.size, 8, none⟩ = some (.int .i64 g.hi) := blkc HX9.out 8
            have r0 : w9.cell? ⟨wr.heap.size, 0, none⟩ = some (.string ⟨f.toArray⟩) := blkc HF9.out 0
            have r1 : w9.cell? ⟨wr.heap.size, 1, none⟩ = some (.slice at_ tx.length ct) := blkc HF9.out 1
            have r2 : w9.cell? ⟨wr.heap.size, 2, none⟩ = some (.slice an nz.length cn) := blkc HF9.out 2
            generalize ctV at_ an tx.length ct nz.length cn = CV at *
            generalize takesV g (f, tx, nz) = TK at *
            go_cut [55] (fun cv wy => cv = .bool (!TK) ∧ Below w9.heap.size w9 wy)
            case first =>
              refine wp_region_held_drew (S := (fun w' => w'.cell? ⟨w8.heap.size, 0, none⟩ = some (.string (bs g.name)) ∧ w'.cell? ⟨w8.heap.size, 1, none⟩ = some (.int .i64 g.kind) ∧ w'.cell? ⟨w8.heap.size, 2, none⟩ = some (.bool g.bf) ∧ w'.cell? ⟨w8.heap.size, 3, none⟩ = some (.bool g.bsm) ∧ w'.cell? ⟨w8.heap.size, 4, none⟩ = some (.bool g.bp) ∧ w'.cell? ⟨w8.heap.size, 5, none⟩ = some (.slice aS g.stops.length cS) ∧ w'.cell? ⟨w8.heap.size, 6, none⟩ = some (.slice aY g.syns.length cY) ∧ w'.cell? ⟨w8.heap.size, 7, none⟩ = some (.int .i64 g.lo) ∧ w'.cell? ⟨w8.heap.size, 8, none⟩ = some (.int .i64 g.hi) ∧ w'.cell? ⟨wr.heap.size, 0, none⟩ = some (.string ⟨f.toArray⟩) ∧ w'.cell? ⟨wr.heap.size, 1, none⟩ = some (.slice at_ tx.length ct) ∧ w'.cell? ⟨wr.heap.size, 2, none⟩ = some (.slice an nz.length cn))) (by kernel_rfl) ?_ (fun hHeld => ?_)
              · exact ⟨p0, p1, p2, p3, p4, p5, p6, p7, p8, r0, r1, r2⟩
              refine tkX 0 (h := ?_)
              refine tkX 1 (h := ?_)
              refine tkX 2 (h := ?_)
              refine tkX 3 (h := ?_)
              refine tkX 4 (h := ?_)
              (simp only [Act.put, List.getElem_toArray, List.getElem_cons_succ, List.getElem_cons_zero, List.setIfInBounds_toArray, List.set_cons_zero, List.set_cons_succ])
              refine wpAnyH_ready (rs := [5]) (by kernel_rfl) (by simp) ?_
              refine AllReadyH.cons rfl (fun K hK => ?_) AllReadyH.nil
              go_simp
              refine (HCc.out _ (below_drewN (Below.refl w9.heap.size w9) 1)).mono ?_
              rintro e' wv1 ⟨rfl, hbv1⟩
              have HBw1 : Hid (Below w9.heap.size w9 wv1) := Below.trans (below_drewN (Below.refl w9.heap.size w9) 1) (hbv1.mono (Below.size (below_drewN (Below.refl w9.heap.size w9) 1)))
              clear hbv1
              go_wp2_with fail
              refine hK.out _ _ ?_ (fun hHeld1 => ?_)
              · exact ⟨(HBw1.out.cell (p := ⟨w8.heap.size, 0, none⟩) hl8).trans p0, (HBw1.out.cell (p := ⟨w8.heap.size, 1, none⟩) hl8).trans p1, (HBw1.out.cell (p := ⟨w8.heap.size, 2, none⟩) hl8).trans p2, (HBw1.out.cell (p := ⟨w8.heap.size, 3, none⟩) hl8).trans p3, (HBw1.out.cell (p := ⟨w8.heap.size, 4, none⟩) hl8).trans p4, (HBw1.out.cell (p := ⟨w8.heap.size, 5, none⟩) hl8).trans p5, (HBw1.out.cell (p := ⟨w8.heap.size, 6, none⟩) hl8).trans p6, (HBw1.out.cell (p := ⟨w8.heap.size, 7, none⟩) hl8).trans p7, (HBw1.out.cell (p := ⟨w8.heap.size, 8, none⟩) hl8).trans p8, (HBw1.out.cell (p := ⟨wr.heap.size, 0, none⟩) hlr).trans r0, (HBw1.out.cell (p := ⟨wr.heap.size, 1, none⟩) hlr).trans r1, (HBw1.out.cell (p := ⟨wr.heap.size, 2, none⟩) hlr).trans r2⟩
              clear hK K
              try simp only [Act.put, List.getElem_toArray, List.getElem_cons_succ, List.getElem_cons_zero, List.setIfInBounds_toArray, List.set_cons_zero, List.set_cons_succ]
              refine wpAnyH_ready (rs := [6]) (by kernel_rfl) (by simp) ?_
              refine AllReadyH.cons rfl (fun K hK => ?_) AllReadyH.nil
              go_simp
              refine (HCt.out _ HBw1.out).mono ?_
              rintro e' wv2 ⟨rfl, hbv2⟩
              have HBw2 : Hid (Below w9.heap.size w9 wv2) := Below.trans HBw1.out (hbv2.mono (Below.size HBw1.out))
              clear hbv2
              go_wp2_with fail
              refine hK.out _ _ ?_ (fun hHeld2 => ?_)
              · exact ⟨(HBw2.out.cell (p := ⟨w8.heap.size, 0, none⟩) hl8).trans p0, (HBw2.out.cell (p := ⟨w8.heap.size, 1, none⟩) hl8).trans p1, (HBw2.out.cell (p := ⟨w8.heap.size, 2, none⟩) hl8).trans p2, (HBw2.out.cell (p := ⟨w8.heap.size, 3, none⟩) hl8).trans p3, (HBw2.out.cell (p := ⟨w8.heap.size, 4, none⟩) hl8).trans p4, (HBw2.out.cell (p := ⟨w8.heap.size, 5, none⟩) hl8).trans p5, (HBw2.out.cell (p := ⟨w8.heap.size, 6, none⟩) hl8).trans p6, (HBw2.out.cell (p := ⟨w8.heap.size, 7, none⟩) hl8).trans p7, (HBw2.out.cell (p := ⟨w8.heap.size, 8, none⟩) hl8).trans p8, (HBw2.out.cell (p := ⟨wr.heap.size, 0, none⟩) hlr).trans r0, (HBw2.out.cell (p := ⟨wr.heap.size, 1, none⟩) hlr).trans r1, (HBw2.out.cell (p := ⟨wr.heap.size, 2, none⟩) hlr).trans r2⟩
              clear hK K
              try simp only [Act.put, List.getElem_toArray, List.getElem_cons_succ, List.getElem_cons_zero, List.setIfInBounds_toArray, List.set_cons_zero, List.set_cons_succ]
              refine tkX 7 (h := ?_)
              refine tkX 8 (h := ?_)
              (simp only [Act.put, List.getElem_toArray, List.getElem_cons_succ, List.getElem_cons_zero, List.setIfInBounds_toArray, List.set_cons_zero, List.set_cons_succ])
              refine wpAnyH_done (by kernel_rfl) ?_ _
              clear hHeld hHeld1 hHeld2
              go_wp2_with fail
              go_meet
              exact ⟨rfl, HBw2.out⟩
            case rest =>
              obtain ⟨rfl, hbu⟩ := hcut
              have HBu := hidd hbu
              clear hbu
              cases TK with
              | true =>
                have HAn := hidd (HYes.out HAt2.out)
                go_wp2_with fail
                go_roundw
                case rel => exact ⟨k + 1, by omega, by go_num, HAn.out, HBz9.out.trans (HBu.out.mono HBz9.out.size)⟩
                case measure => simp [intOf]; omega
              | false =>
                have HE2 : Hid (R = false) := HNo.out HAt2.out
                go_wp2_with fail
                go_ret
                rw [HE2.out]
                exact ⟨rfl, HBy9.out.trans (HBu.out.mono HBy9.out.size)⟩
          · have HFld := hidd (fieldMiss_any a cap l f wc hn (HS.out.below HBy.out) hit)
            have HE2 : Hid (R = false) := HNo.out (by rw [HAt2.out, vlFit]; dsimp only; rw [decide_eq_false hit, Bool.false_and])
            clear hit
            go_wp2_with fail
            refine HFld.out.mono ?_
            rintro e w8 ⟨rfl, hb8⟩
            have HB8 := hidd hb8
            clear hb8 p0 y0
            dsimp only
            go_upto_region 9 with fail
            go_quiet (fail)
            go_wp2_with fail
            go_ret
            rw [HE2.out]
            refine ⟨rfl, ?_⟩
            exact HBy.out.trans ((below_drewN (HB8.out.alloc HB8.out.size _) _).mono HBy.out.size)
    · have hkz : ¬ (k : Int) < (V.length : Int) := by omega
      have HE2 : Hid (R = true) := by show _ = _; rw [← HE.out, show V.length = k by omega]; exact HAll.out
      go_wp2_with fail
      go_ret
      rw [HE2.out]
      exact ⟨rfl, HB.out⟩
end Go.Proofs.YtgoklapafidpkaaGreatDoor
