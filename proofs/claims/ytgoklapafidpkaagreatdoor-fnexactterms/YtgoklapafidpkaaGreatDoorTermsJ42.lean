import Derived.Test.YtgoklapafidpkaaGreatDoorTermsJ00
import Derived.Test.YtgoklapafidpkaaGreatDoorTermsJ35
import Derived.Test.YtgoklapafidpkaaGreatDoorTermsJ40
import Derived.Test.YtgoklapafidpkaaGreatDoorTermsJ41
namespace Go.Proofs.YtgoklapafidpkaaGreatDoor
open Go Go.RowKit
set_option linter.unusedVariables false
set_option linter.unusedSimpArgs false
set_option maxRecDepth 100000

theorem kinds_ok {l : List Fd} (h : scOK l = true) (i : Nat) (hi : i < l.length) : (l.getD i fd0).kind = 1 ∨ (l.getD i fd0).kind = 2 ∨ (l.getD i fd0).kind = 3 := by
  unfold scOK at h
  simp only [Bool.and_eq_true, List.all_eq_true, List.mem_range] at h
  have h1 := h.2 i hi
  unfold scAt at h1
  simp only [Bool.and_eq_true] at h1
  have h2 := h1.1
  rw [fdOK_eq] at h2
  simp only [Bool.and_eq_true, decide_eq_true_eq] at h2
  omega
theorem sh_no {l : List Fd} {id : List UInt8} {V : List Vl} {k : Nat} (hk : k < V.length) (h : (V.getD k vl0).2.1.all shT = false) : dOK l id V = false := by
  refine dOK_body ?_
  rw [List.all_eq_false] at h
  obtain ⟨t, ht, hs⟩ := h
  have h1 := txSum_mem ht
  have h2 := bodyV_mem (getD_in (d := vl0) hk)
  simp [shT] at hs
  omega
set_option maxHeartbeats 32000000 in
theorem specFits_any (a : Option Addr) (cap : Nat) (l : List Fd) (id : List UInt8) (av : Option Addr) (cv : Nat) (V : List Vl) (w : World) (hn : l.length ≤ 1048576) (hA : ∀ i, FdSz (l.getD i fd0)) (hK : scOK l = true) (hS : HoldF w a l) (hid : id.length ≤ 1048576) (hV : VsSz V) (hH : HoldV w av V) :
    Calls Tryz.prog 31 #[.agg #[.slice a l.length cap], .agg #[.string ⟨id.toArray⟩, .slice av V.length cv]] w fun e w' => e = .returned (.bool (dOK l id V)) ∧ Below w.heap.size w w' := by
  have HK := hidd (fun i hi => kinds_ok hK i hi)
  have HA := hidd hA
  have HS := hidd hS
  have HV := hidd hV
  have HH := hidd hH
  have hVn := hV.1
  have hbv := hV.2.2
  clear hA hS hV hH hK
  have HBa := hidd (((Below.refl w.heap.size w).alloc (Nat.le_refl _) (.cells #[.slice a l.length cap] 33)).alloc (by simp) (.cells #[.string ⟨id.toArray⟩, .slice av V.length cv] 37))
  have HX := hidd (box_two w (.cells #[.slice a l.length cap] 33) (.cells #[.string ⟨id.toArray⟩, .slice av V.length cv] 37))
  have HCi : Hid (∀ W, Calls Tryz.prog 65 #[.string ⟨id.toArray⟩] W fun e w' => e = .returned (.bool (idV id)) ∧ w' = W) := fun W => by
    have := specId_any (bs id) W (by rw [bs_size]; exact hid)
    rwa [lst_bs] at this
  obtain ⟨R, hR⟩ : ∃ R, dOK l id V = R := ⟨_, rfl⟩
  rw [hR]
  have HR := hidd hR
  clear hR
  go_enter Tryz.func31, Tryz.ntmps31
  go_upto_region 1 with fail
  obtain ⟨wa, hwa⟩ : ∃ wa, (w.alloc (.cells #[.slice a l.length cap] 33)).alloc (.cells #[.string ⟨id.toArray⟩, .slice av V.length cv] 37) = wa := ⟨_, rfl⟩
  rw [hwa] at HBa HX
  try rw [hwa]
  clear hwa
  have x0 : wa.cell? ⟨w.heap.size + 1, 0, none⟩ = some (.string ⟨id.toArray⟩) := blkc HX.out.2 0
  have x1 : wa.cell? ⟨w.heap.size + 1, 1, none⟩ = some (.slice av V.length cv) := blkc HX.out.2 1
  have x2 : wa.cell? ⟨w.heap.size, 0, none⟩ = some (.slice a l.length cap) := blkc HX.out.1 0
  go_wp2_with fail
  refine (HCi.out _).mono ?_
  rintro e w' ⟨rfl, hw⟩
  have hw' := hw.symm
  subst hw'
  clear hw
  cases hidv : idV id with
  | false =>
    have HE : Hid (R = false) := HR.out.symm.trans (dOK_id hidv)
    clear hidv
    go_wp2_with fail
    go_ret
    rw [HE.out]
    exact ⟨rfl, HBa.out⟩
  | true =>
  by_cases hmany : l.length < V.length
  · have HE : Hid (R = false) := HR.out.symm.trans (many_no hmany)
    have zm : (l.length : Int) < (V.length : Int) := by omega
    clear hidv
    go_wp2_with fail
    go_ret
    rw [HE.out]
    exact ⟨rfl, HBa.out⟩
  have zm : ¬ (l.length : Int) < (V.length : Int) := by omega
  have HE : Hid ((decide (bodyV V ≤ 4000) && (List.range V.length).all (vlAt l V)) = R) := by show _ = _; rw [← HR.out, dOK, hidv, Bool.true_and]
  clear hidv
  go_wp2_with fail
  clear HCi zm
  go_loopw [5, 6] (fun sv iv wr => ∃ i : Nat, i ≤ V.length ∧ iv = .int .i64 (i : Int) ∧ sv = .int .i64 (bodyV (V.take i) : Int) ∧ (List.range i).all (vlAt l V) = true ∧ Below wa.heap.size wa wr) (fun _ iv _ => V.length - (intOf iv).toNat)
  case atStart => exact ⟨0, Nat.zero_le _, rfl, by simp [bodyV], by simp, Below.refl _ _⟩
  case round =>
    clear x0 x1 x2
    obtain ⟨k, hk, rfl, rfl, hall, hbel⟩ := hrel
    have HAll := hidd hall
    have HXr := hidd (blko HX.out.2 hbel)
    have HXq := hidd (blko HX.out.1 hbel)
    have HB := hidd (HBa.out.trans (hbel.mono HBa.out.size))
    have HBl := hidd hbel
    clear hall hbel
    have hble := bodyV_take_le V (k + 1)
    by_cases hlt : k < V.length
    · have hkz : (k : Int) < (V.length : Int) := by omega
      have HAt : Hid (vlAt l V k = (vlFit l (V.getD k vl0) && !(decide (0 < k) && leT (V.getD k vl0).1 (V.getD (k - 1) vl0).1))) := rfl
      have HNo : Hid (vlAt l V k = false → R = false) := fun h => HR.out.symm.trans (dOK_no hlt h)
      have HSh : Hid ((V.getD k vl0).2.1.all shT = false → R = false) := fun h => HR.out.symm.trans (sh_no hlt h)
      have HYes : Hid (vlAt l V k = true → (List.range (k + 1)).all (vlAt l V) = true) := fun h => all_range_take (vlAt l V) 0 k HAll.out h
      have HTk := hidd (bodyV_take V hlt)
      rw [HTk.out] at hble
      obtain ⟨b, off, rfl, hbl, hc⟩ := (HH.out.below HB.out).resolve_left (fun h => by rw [h] at hlt; simp at hlt)
      obtain ⟨q0, ⟨at_, ct, q1, hTx⟩, an, cn, q2, hZ⟩ := hc k hlt
      have hpv : 0 < k → wr.cell? ⟨b, off + (k - 1) * 3, none⟩ = some (.string (bs (V.getD (k - 1) vl0).1)) := fun h => (hc (k - 1) (by omega)).1
      have HSt := hidd (fun j hj => HV.out.text k j hlt hj)
      have hal := HV.out.2.1 k
      obtain ⟨pn, hpn⟩ : ∃ pn, (V.getD (k - 1) vl0).1 = pn := ⟨_, rfl⟩
      rw [hpn] at hpv HAt
      clear hpn hc
      generalize V.getD k vl0 = s at *
      obtain ⟨f, tx, nz⟩ := s
      dsimp only at q0 q1 q2 hTx hZ hal HAt HSt HSh HTk hble
      obtain ⟨hal0, hal1, hal2⟩ := hal
      have HTx := hidd hTx
      have HZ := hidd hZ
      have HPv := hidd hpv
      clear hTx hZ hpv
      obtain ⟨Y, hY⟩ : ∃ Y, bodyV (V.take k) = Y := ⟨_, rfl⟩
      rw [hY] at HTk hble
      rw [hY]
      clear hY
      have x1 : wr.cell? ⟨w.heap.size + 1, 1, none⟩ = some (.slice (some ⟨b, off, none⟩) V.length cv) := blkc HXr.out 1
      go_upto_region 8 with fail
      have HBf := hidd ((Below.refl wr.heap.size wr).alloc (Nat.le_refl _) (.cells #[.string ⟨f.toArray⟩, .slice at_ tx.length ct, .slice an nz.length cn] 60))
      have HFb := hidd (heap_alloc_new wr (.cells #[.string ⟨f.toArray⟩, .slice at_ tx.length ct, .slice an nz.length cn] 60))
      obtain ⟨wv, hwv⟩ : ∃ wv, wr.alloc (.cells #[.string ⟨f.toArray⟩, .slice at_ tx.length ct, .slice an nz.length cn] 60) = wv := ⟨_, rfl⟩
      rw [hwv] at HBf HFb
      try rw [hwv]
      clear hwv q0 q1 q2 x1
      have p0 : wv.cell? ⟨wr.heap.size, 0, none⟩ = some (.string (bs f)) := blkc HFb.out 0
      have y0 : wv.cell? ⟨w.heap.size, 0, none⟩ = some (.slice a l.length cap) := blkc (blko HXq.out HBf.out) 0
      have HFd := hidd (specField_any a cap l f wv hn ((HS.out.below HB.out).below HBf.out))
      obtain ⟨Z, hZz⟩ : ∃ Z, fldZ l f = Z := ⟨_, rfl⟩
      rw [hZz] at HFd
      have HZf := hidd hZz
      clear hZz
      go_wp2_with fail
      refine HFd.out.mono ?_
      rintro e w8 ⟨rfl, hb8⟩
      have HB8 := hidd (HBf.out.trans (hb8.mono HBf.out.size))
      have HF8 := hidd (blko HFb.out hb8)
      have HXr8 := hidd (blko (blko HXr.out HBf.out) hb8)
      have HXq8 := hidd (blko (blko HXq.out HBf.out) hb8)
      clear hb8 p0 y0 HFd
      have p0 : w8.cell? ⟨wr.heap.size, 0, none⟩ = some (.string (bs f)) := blkc HF8.out 0
      have x1 : w8.cell? ⟨w.heap.size + 1, 1, none⟩ = some (.slice (some ⟨b, off, none⟩) V.length cv) := blkc HXr8.out 1
      have HPw : Hid (0 < k → w8.cell? ⟨b, off + (k - 1) * 3, none⟩ = some (.string (bs pn))) := fun h => (HB8.out.cell (p := ⟨b, off + (k - 1) * 3, none⟩) hbl).trans (HPv.out h)
      go_upto_region 9 with fail
      go_cut [56] (fun cv wy => cv = .bool (decide (Z < 0) || (decide (0 < k) && leT f pn)) ∧ Below w8.heap.size w8 wy)
      case first =>
        by_cases hz0 : Z < 0
        · have hzd : decide (Z < 0) = true := decide_eq_true hz0
          go_quiet (fail)
          go_wp2_with fail
          go_meet
          refine ⟨?_, below_drewN (Below.refl _ _) _⟩
          rw [hzd, Bool.true_or]
        have hzd : decide (Z < 0) = false := decide_eq_false hz0
        by_cases h0 : 0 < k
        · have hk1z : (1 : Int) ≤ (k : Int) := by omega
          have hpn1 : ((k : Int) - 1).toNat = k - 1 := by omega
          have hpz0 : ¬ ((k : Int) - 1 < 0) := by omega
          have hpz1 : (k : Int) - 1 < (V.length : Int) := by omega
          have hpz2 : (0 : Int) ≤ (k : Int) - 1 := by omega
          have hwr : IntKind.i64.wrap ((k : Int) - 1) = (k : Int) - 1 := IntWalk.i64_in _ (by omega)
          have hkd : decide ((k : Int) > 0) = true := decide_eq_true (by omega)
          have hkd2 : decide ((0 : Int) < (k : Int)) = true := decide_eq_true (by omega)
          have pv := HPw.out h0
          have hle : (Op.bytesLess (bs f).toList (bs pn).toList || (bs f).toList == (bs pn).toList) = leT f pn := by rw [bs_toList, bs_toList]; rfl
          go_quiet (fail)
          go_wp2_with fail
          go_meet
          refine ⟨?_, below_drewN (Below.refl _ _) _⟩
          rw [hzd, decide_eq_true h0, Bool.true_and, Bool.false_or, ← hle]
        · have hkd : decide ((k : Int) > 0) = false := decide_eq_false (by omega)
          have hkd2 : decide ((0 : Int) < (k : Int)) = false := decide_eq_false (by omega)
          go_quiet (fail)
          go_wp2_with fail
          go_meet
          refine ⟨?_, below_drewN (Below.refl _ _) _⟩
          rw [hzd, decide_eq_false h0, Bool.false_and, Bool.false_or]
      case rest =>
        obtain ⟨rfl, hby⟩ := hcut
        have HBv := hidd (HB8.out.trans (hby.mono HB8.out.size))
        have HBy := hidd (HB.out.trans (HBv.out.mono HB.out.size))
        have HBz := hidd (HBl.out.trans (HBv.out.mono HBl.out.size))
        have HFy := hidd (blko HF8.out hby)
        have HXy := hidd (blko HXq8.out hby)
        have HTy := hidd (HTx.out.below HBv.out)
        have HZy := hidd (HZ.out.below HBv.out)
        clear hby p0 x1 HPw HPv HTx HZ
        cases hg : (decide (Z < 0) || (decide (0 < k) && leT f pn)) with
        | true =>
          have HE2 : Hid (R = false) := HNo.out (by
            rw [HAt.out]
            by_cases hz0 : Z < 0
            · have : ¬ fldIx l f < l.length := fun h => by have e := HZf.out; rw [fldZ, if_pos h] at e; omega
              rw [vlFit]; dsimp only; rw [decide_eq_false this]; rfl
            · rw [decide_eq_false hz0, Bool.false_or] at hg
              rw [hg]; simp)
          go_wp2_with fail
          go_ret
          rw [HE2.out]
          exact ⟨rfl, HBy.out⟩
        | false =>
        have hz0 : ¬ Z < 0 := fun h => by rw [decide_eq_true h] at hg; simp at hg
        have hg2 : (decide (0 < k) && leT f pn) = false := by rw [decide_eq_false hz0, Bool.false_or] at hg; exact hg
        have hit : fldIx l f < l.length := by
          by_cases h : fldIx l f < l.length
          · exact h
          · have e := HZf.out; rw [fldZ, if_neg h] at e; omega
        have hZx : Z = (fldIx l f : Int) := by have e := HZf.out; rw [fldZ, if_pos hit] at e; exact e.symm
        have HAt2 : Hid (vlAt l V k = takesV (l.getD (fldIx l f) fd0) (f, tx, nz)) := by show _ = _; rw [HAt.out, hg2, vlFit]; dsimp only; rw [decide_eq_true hit]; simp
        clear hg hg2 HAt HZf
        subst hZx
        generalize fldIx l f = ix at *
        have hixz : (ix : Int) < (l.length : Int) := by omega
        have hkin := HK.out ix hit
        obtain ⟨bl, ofl, rfl, hbll, hcl⟩ := (HS.out.below HBy.out).resolve_left (fun h => by rw [h] at hit; simp at hit)
        obtain ⟨g0, g1, g2, g3, g4, ⟨aS, cS, g5, hSt⟩, ⟨aY, cY, g6, hYt⟩, g7, g8⟩ := hcl ix hit
        have HGz := hidd (HA.out ix)
        clear hcl
        generalize l.getD ix fd0 = g at *
        have HSg := hidd hSt
        have HYg := hidd hYt
        clear hSt hYt
        have y0 : wc.cell? ⟨w.heap.size, 0, none⟩ = some (.slice (some ⟨bl, ofl, none⟩) l.length cap) := blkc HXy.out 0
        have r0 : wc.cell? ⟨wr.heap.size, 0, none⟩ = some (.string ⟨f.toArray⟩) := blkc HFy.out 0
        have r1 : wc.cell? ⟨wr.heap.size, 1, none⟩ = some (.slice at_ tx.length ct) := blkc HFy.out 1
        have r2 : wc.cell? ⟨wr.heap.size, 2, none⟩ = some (.slice an nz.length cn) := blkc HFy.out 2
        by_cases h3 : g.kind = 3
        · have HTK : Hid (takesV g (f, tx, nz) = nzFit (f, tx, nz)) := by show _ = _; rw [takesV, if_pos h3]
          have HCn := hidd (specNumbers_any f at_ an ct cn tx nz wc hal1 hal2 HZy.out)
          rw [HTK.out] at HAt2
          clear HTK
          generalize nzFit (f, tx, nz) = TK at *
          go_wp2_with fail
          refine HCn.out.mono ?_
          rintro e wn ⟨rfl, hbn⟩
          have HBn := hidd (HBy.out.trans (hbn.mono HBy.out.size))
          have HBm := hidd (HBz.out.trans (hbn.mono HBz.out.size))
          have HFn := hidd (blko HFy.out hbn)
          have HTn := hidd (HTy.out.below hbn)
          clear hbn y0 r0 r1 r2 HCn
          cases TK with
          | false =>
            have HE2 : Hid (R = false) := HNo.out HAt2.out
            go_wp2_with fail
            go_ret
            rw [HE2.out]
            exact ⟨rfl, HBn.out⟩
          | true =>
            have HAn := hidd (HYes.out HAt2.out)
            have r1 : wn.cell? ⟨wr.heap.size, 1, none⟩ = some (.slice at_ tx.length ct) := blkc HFn.out 1
            go_wp2_with fail
            go_loopw [5, 9] (fun sv jv wz => ∃ j : Nat, j ≤ tx.length ∧ jv = .int .i64 (j : Int) ∧ sv = .int .i64 ((Y + txSum (tx.take j) : Nat) : Int) ∧ wz = wn) (fun _ jv _ => tx.length - (intOf jv).toNat)
            case atStart => exact ⟨0, Nat.zero_le _, rfl, by simp [txSum], rfl⟩
            case round =>
              obtain ⟨j, hj, rfl, rfl, hww⟩ := hrel
              have hww' := hww.symm
              subst hww'
              clear hww
              by_cases hjt : j < tx.length
              · have hjz : (j : Int) < (tx.length : Int) := by omega
                obtain ⟨bt, ot, rfl, hbt, hct⟩ := HTn.out.resolve_left (fun e => by rw [e] at hjt; simp at hjt)
                have t1 := hct j hjt
                clear hct
                have HT2 := hidd (txSum_take tx hjt)
                have hle2 := txSum_take_le tx (j + 1)
                rw [HT2.out] at hle2
                generalize tx.getD j [] = t at *
                generalize txSum (tx.take j) = Zs at *
                have hfl : (⟨t.toArray⟩ : ByteArray).size = t.length := by rw [Lib.size_eq]
                go_wp2_with fail
                go_roundw
                case rel => exact ⟨j + 1, by omega, by go_num, by rw [HT2.out]; go_num, by first | trivial | rfl⟩
                case measure => simp [intOf]; omega
              · have hjz : ¬ (j : Int) < (tx.length : Int) := by omega
                have HEt : Hid (Y + txSum (tx.take j) = bodyV (V.take (k + 1))) := by show _ = _; rw [HTk.out, show j = tx.length by omega, List.take_length]
                generalize Y + txSum (tx.take j) = Zs at *
                go_wp2_with fail
                go_roundw
                case rel => exact ⟨k + 1, by omega, by go_num, by rw [HEt.out], HAn.out, HBm.out⟩
                case measure => simp [intOf]; omega
        · have hk12 : g.kind = 1 ∨ g.kind = 2 := by omega
          have HTK : Hid (takesV g (f, tx, nz) = txsFit g (f, tx, nz)) := by show _ = _; rw [takesV, if_neg h3]
          rw [HTK.out] at HAt2
          clear HTK
          have hl0 : w.heap.size < wc.heap.size := (Array.getElem?_eq_some_iff.1 HXy.out).1
          have hlr : wr.heap.size < wc.heap.size := (Array.getElem?_eq_some_iff.1 HFy.out).1
          have HCt : Hid (∀ W, Below wc.heap.size wc W → Calls Tryz.prog 67 #[.agg #[.string (bs g.name), .int .i64 g.kind, .bool g.bf, .bool g.bsm, .bool g.bp, .slice aS g.stops.length cS, .slice aY g.syns.length cY, .int .i64 g.lo, .int .i64 g.hi], .agg #[.string ⟨f.toArray⟩, .slice at_ tx.length ct, .slice an nz.length cn]] W fun e w' => e = .returned (.bool (txsFit g (f, tx, nz) && tx.all shT)) ∧ Below W.heap.size W w') := fun W hW => specTexts_any g aS aY cS cY f at_ an ct cn tx nz W hk12 HGz.out (HSg.out.below hW) (HYg.out.below hW) hal1 hal2 HSt.out (HTy.out.below hW)
          generalize txsFit g (f, tx, nz) = TF at *
          generalize tx.all shT = TS at *
          go_upto_region 14 with fail
          go_cut [74] (fun cv wy => cv = .bool (!(TF && TS)) ∧ Below wc.heap.size wc wy)
          case first =>
            refine wp_region_held_drew (S := (fun w' => w'.cell? ⟨w.heap.size, 0, none⟩ = some (.slice (some ⟨bl, ofl, none⟩) l.length cap) ∧ w'.cell? ⟨bl, ofl + ix * 9, none⟩ = some (.string (bs g.name)) ∧ w'.cell? ⟨bl, ofl + ix * 9 + 1, none⟩ = some (.int .i64 g.kind) ∧ w'.cell? ⟨bl, ofl + ix * 9 + 2, none⟩ = some (.bool g.bf) ∧ w'.cell? ⟨bl, ofl + ix * 9 + 3, none⟩ = some (.bool g.bsm) ∧ w'.cell? ⟨bl, ofl + ix * 9 + 4, none⟩ = some (.bool g.bp) ∧ w'.cell? ⟨bl, ofl + ix * 9 + 5, none⟩ = some (.slice aS g.stops.length cS) ∧ w'.cell? ⟨bl, ofl + ix * 9 + 6, none⟩ = some (.slice aY g.syns.length cY) ∧ w'.cell? ⟨bl, ofl + ix * 9 + 7, none⟩ = some (.int .i64 g.lo) ∧ w'.cell? ⟨bl, ofl + ix * 9 + 8, none⟩ = some (.int .i64 g.hi) ∧ w'.cell? ⟨wr.heap.size, 0, none⟩ = some (.string ⟨f.toArray⟩) ∧ w'.cell? ⟨wr.heap.size, 1, none⟩ = some (.slice at_ tx.length ct) ∧ w'.cell? ⟨wr.heap.size, 2, none⟩ = some (.slice an nz.length cn))) (by kernel_rfl) ?_ (fun hHeld => ?_)
            · exact ⟨y0, g0, g1, g2, g3, g4, g5, g6, g7, g8, r0, r1, r2⟩
            refine tkX 0 (h := ?_)
            refine tkX 1 (h := ?_)
            refine tkX 2 (h := ?_)
            refine tkX 3 (h := ?_)
            refine tkX 4 (h := ?_)
            (simp only [Act.put, List.getElem_toArray, List.getElem_cons_succ, List.getElem_cons_zero, List.setIfInBounds_toArray, List.set_cons_zero, List.set_cons_succ])
            refine tkX 5 (h := ?_)
            (simp only [Act.put, List.getElem_toArray, List.getElem_cons_succ, List.getElem_cons_zero, List.setIfInBounds_toArray, List.set_cons_zero, List.set_cons_succ])
            refine wpAnyH_ready (rs := [6]) (by kernel_rfl) (by simp) ?_
            refine AllReadyH.cons rfl (fun K hK => ?_) AllReadyH.nil
            go_simp
            refine (HCt.out _ (below_drewN (Below.refl wc.heap.size wc) 1)).mono ?_
            rintro e' wv1 ⟨rfl, hbv1⟩
            have HBw1 : Hid (Below wc.heap.size wc wv1) := Below.trans (below_drewN (Below.refl wc.heap.size wc) 1) (hbv1.mono (Below.size (below_drewN (Below.refl wc.heap.size wc) 1)))
            clear hbv1
            go_wp2_with fail
            refine hK.out _ _ ?_ (fun hHeld1 => ?_)
            · exact ⟨(HBw1.out.cell (p := ⟨w.heap.size, 0, none⟩) hl0).trans y0, (HBw1.out.cell (p := ⟨bl, ofl + ix * 9, none⟩) hbll).trans g0, (HBw1.out.cell (p := ⟨bl, ofl + ix * 9 + 1, none⟩) hbll).trans g1, (HBw1.out.cell (p := ⟨bl, ofl + ix * 9 + 2, none⟩) hbll).trans g2, (HBw1.out.cell (p := ⟨bl, ofl + ix * 9 + 3, none⟩) hbll).trans g3, (HBw1.out.cell (p := ⟨bl, ofl + ix * 9 + 4, none⟩) hbll).trans g4, (HBw1.out.cell (p := ⟨bl, ofl + ix * 9 + 5, none⟩) hbll).trans g5, (HBw1.out.cell (p := ⟨bl, ofl + ix * 9 + 6, none⟩) hbll).trans g6, (HBw1.out.cell (p := ⟨bl, ofl + ix * 9 + 7, none⟩) hbll).trans g7, (HBw1.out.cell (p := ⟨bl, ofl + ix * 9 + 8, none⟩) hbll).trans g8, (HBw1.out.cell (p := ⟨wr.heap.size, 0, none⟩) hlr).trans r0, (HBw1.out.cell (p := ⟨wr.heap.size, 1, none⟩) hlr).trans r1, (HBw1.out.cell (p := ⟨wr.heap.size, 2, none⟩) hlr).trans r2⟩
            clear hK K
            try simp only [Act.put, List.getElem_toArray, List.getElem_cons_succ, List.getElem_cons_zero, List.setIfInBounds_toArray, List.set_cons_zero, List.set_cons_succ]
            refine tkX 7 (h := ?_)
            (simp only [Act.put, List.getElem_toArray, List.getElem_cons_succ, List.getElem_cons_zero, List.setIfInBounds_toArray, List.set_cons_zero, List.set_cons_succ])
            refine wpAnyH_done (by kernel_rfl) ?_ _
            clear hHeld hHeld1
            go_wp2_with fail
            go_meet
            exact ⟨by rw [Bool.not_and], HBw1.out⟩
          case rest =>
            obtain ⟨rfl, hbn⟩ := hcut
            have HBn := hidd (HBy.out.trans (hbn.mono HBy.out.size))
            have HBm := hidd (HBz.out.trans (hbn.mono HBz.out.size))
            have HFn := hidd (blko HFy.out hbn)
            have HTn := hidd (HTy.out.below hbn)
            clear hbn y0 r0 r1 r2 HCt g0 g1 g2 g3 g4 g5 g6 g7 g8
            cases TF with
            | false =>
              have HE2 : Hid (R = false) := HNo.out HAt2.out
              go_wp2_with fail
              go_ret
              rw [HE2.out]
              exact ⟨rfl, HBn.out⟩
            | true =>
            cases TS with
            | false =>
              have HE2 : Hid (R = false) := HSh.out rfl
              go_wp2_with fail
              go_ret
              rw [HE2.out]
              exact ⟨rfl, HBn.out⟩
            | true =>
            have HAn := hidd (HYes.out HAt2.out)
            have r1 : wc.cell? ⟨wr.heap.size, 1, none⟩ = some (.slice at_ tx.length ct) := blkc HFn.out 1
            go_wp2_with fail
            go_loopw [5, 9] (fun sv jv wz => ∃ j : Nat, j ≤ tx.length ∧ jv = .int .i64 (j : Int) ∧ sv = .int .i64 ((Y + txSum (tx.take j) : Nat) : Int) ∧ wz = wc) (fun _ jv _ => tx.length - (intOf jv).toNat)
            case atStart => exact ⟨0, Nat.zero_le _, rfl, by simp [txSum], rfl⟩
            case round =>
              obtain ⟨j, hj, rfl, rfl, hww⟩ := hrel
              have hww' := hww.symm
              subst hww'
              clear hww
              by_cases hjt : j < tx.length
              · have hjz : (j : Int) < (tx.length : Int) := by omega
                obtain ⟨bt, ot, rfl, hbt, hct⟩ := HTn.out.resolve_left (fun e => by rw [e] at hjt; simp at hjt)
                have t1 := hct j hjt
                clear hct
                have HT2 := hidd (txSum_take tx hjt)
                have hle2 := txSum_take_le tx (j + 1)
                rw [HT2.out] at hle2
                generalize tx.getD j [] = t at *
                generalize txSum (tx.take j) = Zs at *
                have hfl : (⟨t.toArray⟩ : ByteArray).size = t.length := by rw [Lib.size_eq]
                go_wp2_with fail
                go_roundw
                case rel => exact ⟨j + 1, by omega, by go_num, by rw [HT2.out]; go_num, by first | trivial | rfl⟩
                case measure => simp [intOf]; omega
              · have hjz : ¬ (j : Int) < (tx.length : Int) := by omega
                have HEt : Hid (Y + txSum (tx.take j) = bodyV (V.take (k + 1))) := by show _ = _; rw [HTk.out, show j = tx.length by omega, List.take_length]
                generalize Y + txSum (tx.take j) = Zs at *
                go_wp2_with fail
                go_roundw
                case rel => exact ⟨k + 1, by omega, by go_num, by rw [HEt.out], HAn.out, HBm.out⟩
                case measure => simp [intOf]; omega
    · have hkz : ¬ (k : Int) < (V.length : Int) := by omega
      have x1 : wr.cell? ⟨w.heap.size + 1, 1, none⟩ = some (.slice av V.length cv) := blkc HXr.out 1
      have HE2 : Hid (R = decide (bodyV V ≤ 4000)) := by show _ = _; rw [← HE.out, show (List.range V.length).all (vlAt l V) = true by rw [show V.length = k by omega]; exact HAll.out, Bool.and_true]
      rw [show V.take k = V by rw [show k = V.length by omega, List.take_length]]
      generalize bodyV V = BV at *
      by_cases hb4 : BV ≤ 4000
      · have zb4 : (BV : Int) ≤ 4000 := by omega
        rw [decide_eq_true hb4] at HE2
        go_wp2_with fail
        go_ret
        rw [HE2.out]
        exact ⟨rfl, HB.out⟩
      · have zb4 : ¬ (BV : Int) ≤ 4000 := by omega
        rw [decide_eq_false hb4] at HE2
        go_wp2_with fail
        go_ret
        rw [HE2.out]
        exact ⟨rfl, HB.out⟩
set_option maxHeartbeats 4000000 in
theorem specDocOK_any (a : Option Addr) (cap : Nat) (l : List Fd) (id : List UInt8) (av : Option Addr) (cv : Nat) (V : List Vl) (w : World) (hn : l.length ≤ 1048576) (hA : ∀ i, FdSz (l.getD i fd0)) (hS : HoldF w a l) (hid : id.length ≤ 1048576) (hV : VsSz V) (hH : HoldV w av V) :
    Calls Tryz.prog 8 #[.agg #[.slice a l.length cap], .agg #[.string ⟨id.toArray⟩, .slice av V.length cv]] w fun e w' => e = .returned (.bool (scOK l && dOK l id V)) ∧ Below w.heap.size w w' := by
  have HBa := hidd (((Below.refl w.heap.size w).alloc (Nat.le_refl _) (.cells #[.slice a l.length cap] 33)).alloc (by simp) (.cells #[.string ⟨id.toArray⟩, .slice av V.length cv] 37))
  have HX := hidd (box_two w (.cells #[.slice a l.length cap] 33) (.cells #[.string ⟨id.toArray⟩, .slice av V.length cv] 37))
  have HCs : Hid (∀ W, Below w.heap.size w W → Calls Tryz.prog 30 #[.agg #[.slice a l.length cap]] W fun e w' => e = .returned (.bool (scOK l)) ∧ Below W.heap.size W w') := fun W hW => specSchema_any a cap l W hn hA (hS.below hW)
  have HCf : Hid (scOK l = true → ∀ W, Below w.heap.size w W → Calls Tryz.prog 31 #[.agg #[.slice a l.length cap], .agg #[.string ⟨id.toArray⟩, .slice av V.length cv]] W fun e w' => e = .returned (.bool (dOK l id V)) ∧ Below W.heap.size W w') := fun hK W hW => specFits_any a cap l id av cv V W hn hA hK (hS.below hW) hid hV (hH.below hW)
  clear hA hS hV hH
  generalize dOK l id V = S2 at *
  go_enter Tryz.func8, Tryz.ntmps8
  go_upto_region 1 with fail
  obtain ⟨wa, hwa⟩ : ∃ wa, (w.alloc (.cells #[.slice a l.length cap] 33)).alloc (.cells #[.string ⟨id.toArray⟩, .slice av V.length cv] 37) = wa := ⟨_, rfl⟩
  rw [hwa] at HBa HX
  try rw [hwa]
  clear hwa
  have x0 : wa.cell? ⟨w.heap.size, 0, none⟩ = some (.slice a l.length cap) := blkc HX.out.1 0
  go_wp2_with fail
  refine (HCs.out _ HBa.out).mono ?_
  rintro e wb ⟨rfl, hbb⟩
  have HBb := hidd (HBa.out.trans (hbb.mono HBa.out.size))
  have HX1 := hidd (blko HX.out.1 hbb)
  have HX2 := hidd (blko HX.out.2 hbb)
  clear hbb x0
  cases hsc : scOK l with
  | false =>
    clear HCs
    go_wp2_with fail
    go_ret
    exact ⟨by rw [hsc]; rfl, HBb.out⟩
  | true =>
    have x0 : wb.cell? ⟨w.heap.size, 0, none⟩ = some (.slice a l.length cap) := blkc HX1.out 0
    have x1 : wb.cell? ⟨w.heap.size + 1, 0, none⟩ = some (.string ⟨id.toArray⟩) := blkc HX2.out 0
    have x2 : wb.cell? ⟨w.heap.size + 1, 1, none⟩ = some (.slice av V.length cv) := blkc HX2.out 1
    go_wp2_with fail
    refine (HCf.out hsc _ HBb.out).mono ?_
    rintro e wd ⟨rfl, hbd⟩
    go_wp2_with fail
    go_ret
    exact ⟨by rw [hsc]; rfl, HBb.out.trans (hbd.mono HBb.out.size)⟩
end Go.Proofs.YtgoklapafidpkaaGreatDoor
