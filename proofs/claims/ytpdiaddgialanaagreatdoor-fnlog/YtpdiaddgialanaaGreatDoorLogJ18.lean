import Derived.Test.YtpdiaddgialanaaGreatDoorLogJ15
namespace Go.Proofs.YtpdiaddgialanaaGreatDoor
open Go Go.RowKit
set_option linter.unusedVariables false
set_option maxRecDepth 100000

theorem all_take {X : Type} (p : X → Bool) (l : List X) (d : X) {k : Nat} (hk : k < l.length) (h : (l.take k).all p = true) (hp : p (l.getD k d) = true) : (l.take (k + 1)).all p = true := by
  rw [List.take_succ_eq_append_getElem hk, List.all_append, h]
  rw [List.getD_eq_getElem?_getD, List.getElem?_eq_getElem hk] at hp
  simpa using hp
theorem all_not {X : Type} (p : X → Bool) (l : List X) (d : X) {k : Nat} (hk : k < l.length) (hp : p (l.getD k d) = false) : l.all p = false := by
  rw [List.all_eq_false]
  rw [List.getD_eq_getElem?_getD, List.getElem?_eq_getElem hk] at hp
  exact ⟨l[k], List.getElem_mem hk, by simpa using hp⟩
theorem dcOK_bad {d : Dc} {k : Nat} (hk : k < d.2.length) (h : vlOK (d.2.getD k vl0) = false) : dcOK d = false := by
  unfold dcOK
  rw [all_not vlOK d.2 vl0 hk h]; simp
set_option maxHeartbeats 8000000 in
theorem specFits_any (id : List UInt8) (a : Option Addr) (c : Nat) (V : List Vl) (w : World) (hn : V.length ≤ 1048576) (hT : ∀ i, (V.getD i vl0).2.1.length ≤ 1048576 ∧ (V.getD i vl0).2.2.length ≤ 1048576) (h : HoldV w a V) :
    Calls Tryz.prog 44 #[.agg #[.string ⟨id.toArray⟩, .slice a V.length c]] w fun e w' => e = .returned (.bool (dcOK (id, V))) ∧ Below w.heap.size w w' := by
  have HV := hidd h
  have HT := hidd hT
  clear h hT
  have HBa := hidd ((Below.refl w.heap.size w).alloc (Nat.le_refl _) (.cells #[.string ⟨id.toArray⟩, .slice a V.length c] 26))
  have HX := hidd (heap_alloc_new w (.cells #[.string ⟨id.toArray⟩, .slice a V.length c] 26))
  have hsl : (⟨id.toArray⟩ : ByteArray).size = id.length := by rw [Lib.size_eq]
  go_enter Tryz.func44, Tryz.ntmps44
  go_upto_region 1 with fail
  obtain ⟨wa, hwa⟩ : ∃ wa, w.alloc (.cells #[.string ⟨id.toArray⟩, .slice a V.length c] 26) = wa := ⟨_, rfl⟩
  rw [hwa] at HBa HX
  try rw [hwa]
  clear hwa
  have x0 := blkc HX.out 0
  have x1 := blkc HX.out 1
  by_cases hid : 65536 < id.length
  · have hidz : (id.length : Int) > 65536 := by omega
    have HO : Hid (dcOK (id, V) = false) := by show _ = _; unfold dcOK; rw [decide_eq_false (by dsimp only; omega)]; rfl
    go_wp2_with fail
    go_ret
    exact ⟨by rw [HO.out]; rfl, HBa.out⟩
  have hidz : ¬ (id.length : Int) > 65536 := by omega
  by_cases hVl : 4096 < V.length
  · have hVz : (V.length : Int) > 4096 := by omega
    have HO : Hid (dcOK (id, V) = false) := by show _ = _; unfold dcOK; rw [decide_eq_false (by dsimp only; omega)]; rfl
    go_wp2_with fail
    go_ret
    exact ⟨by rw [HO.out]; rfl, HBa.out⟩
  have hVz : ¬ (V.length : Int) > 4096 := by omega
  clear x0 x1
  have x0 := blkc HX.out 0
  have x1 := blkc HX.out 1
  go_wp2_with fail
  go_loopw [3] (fun iv wr => ∃ i : Nat, i ≤ V.length ∧ iv = .int .i64 (i : Int) ∧ (V.take i).all vlOK = true ∧ Below wa.heap.size wa wr) (fun iv _ => V.length - (intOf iv).toNat)
  case atStart => exact ⟨0, Nat.zero_le _, rfl, by simp, Below.refl _ _⟩
  case round =>
    obtain ⟨i, hi, rfl, hall, hbel⟩ := hrel
    clear x0 x1
    have HXr := hidd (blko HX.out hbel)
    have x0 := blkc HXr.out 0
    have x1 := blkc HXr.out 1
    have HB := hidd hbel
    have HAll := hidd hall
    clear hbel hall
    by_cases hlt : i < V.length
    · have hltz : (i : Int) < (V.length : Int) := by omega
      obtain ⟨b, off, rfl, hb, hc⟩ := (HV.out.below (HBa.out.trans (HB.out.mono HBa.out.size))).resolve_left (fun e => by rw [e] at hlt; simp at hlt)
      obtain ⟨c0, ⟨at_, ct, c1, hTx⟩, an, cn, c2, hZ⟩ := hc i hlt
      have hTi := HT.out i
      obtain ⟨v, hv⟩ : ∃ v, V.getD i vl0 = v := ⟨_, rfl⟩
      rw [hv] at c0 c1 c2 hTx hZ hTi
      have Hv := hidd hv
      obtain ⟨f, tx, nz⟩ := v
      dsimp only at c0 c1 c2 hTx hZ hTi
      have HTx := hidd hTx
      have HZ := hidd hZ
      clear hc hTx hZ hv
      have hfl : (⟨f.toArray⟩ : ByteArray).size = f.length := by rw [Lib.size_eq]
      have HBv := hidd ((Below.refl wr.heap.size wr).alloc (Nat.le_refl _) (.cells #[.string ⟨f.toArray⟩, .slice at_ tx.length ct, .slice an nz.length cn] 88))
      have HXv := hidd (heap_alloc_new wr (.cells #[.string ⟨f.toArray⟩, .slice at_ tx.length ct, .slice an nz.length cn] 88))
      have HNo : Hid (vlOK (f, tx, nz) = false → dcOK (id, V) = false) := fun h => dcOK_bad (d := (id, V)) hlt (by show vlOK (V.getD i vl0) = false; rw [Hv.out]; exact h)
      go_upto_region 7 with fail
      obtain ⟨wv, hwv⟩ : ∃ wv, wr.alloc (.cells #[.string ⟨f.toArray⟩, .slice at_ tx.length ct, .slice an nz.length cn] 88) = wv := ⟨_, rfl⟩
      rw [hwv] at HBv HXv
      try rw [hwv]
      clear hwv c0 c1 c2 x0 x1
      have HBw := hidd (HBa.out.trans ((HB.out.trans (HBv.out.mono HB.out.size)).mono HBa.out.size))
      have v0 := blkc HXv.out 0
      have v1 := blkc HXv.out 1
      have v2 := blkc HXv.out 2
      by_cases hf : 65536 < f.length
      · have hfz : (f.length : Int) > 65536 := by omega
        have HO := hidd (HNo.out (by unfold vlOK; rw [decide_eq_false (by dsimp only; omega)]; rfl))
        go_wp2_with fail
        go_ret
        exact ⟨by rw [HO.out]; rfl, HBw.out⟩
      have hfz : ¬ (f.length : Int) > 65536 := by omega
      by_cases ht : 4096 < tx.length
      · have htz : (tx.length : Int) > 4096 := by omega
        have HO := hidd (HNo.out (by unfold vlOK; rw [decide_eq_false (by dsimp only; omega)]; rfl))
        go_wp2_with fail
        go_ret
        exact ⟨by rw [HO.out]; rfl, HBw.out⟩
      have htz : ¬ (tx.length : Int) > 4096 := by omega
      by_cases hz : 4096 < nz.length
      · have hzz : (nz.length : Int) > 4096 := by omega
        have HO := hidd (HNo.out (by unfold vlOK; rw [decide_eq_false (by dsimp only; omega)]; rfl))
        go_wp2_with fail
        go_ret
        exact ⟨by rw [HO.out]; rfl, HBw.out⟩
      have hzz : ¬ (nz.length : Int) > 4096 := by omega
      have HD : Hid (vlOK (f, tx, nz) = (tx.all txOK && nz.all nuOK)) := by show _ = _; unfold vlOK; rw [decide_eq_true (by dsimp only; omega)]; rfl
      go_wp2_with fail
      go_loopw [5] (fun kv wr => ∃ k : Nat, k ≤ tx.length ∧ kv = .int .i64 (k : Int) ∧ (tx.take k).all txOK = true ∧ wr = wv) (fun kv _ => tx.length - (intOf kv).toNat)
      case atStart => exact ⟨0, Nat.zero_le _, rfl, by simp, rfl⟩
      case round =>
        obtain ⟨k, hk, rfl, hal, hww⟩ := hrel
        have hww' := hww.symm
        subst hww'
        clear hww
        have HAl := hidd hal
        clear hal
        by_cases hkt : k < tx.length
        · have hktz : (k : Int) < (tx.length : Int) := by omega
          obtain ⟨bt, ot, rfl, hbt, hct⟩ := (HTx.out.below HBv.out).resolve_left (fun e => by rw [e] at hkt; simp at hkt)
          have t1 := hct k hkt
          obtain ⟨ti, hti⟩ : ∃ ti, tx.getD k [] = ti := ⟨_, rfl⟩
          rw [hti] at t1
          have Hti := hidd hti
          have htl : (⟨ti.toArray⟩ : ByteArray).size = ti.length := by rw [Lib.size_eq]
          clear hti hct
          by_cases hlong : 65536 < ti.length
          · have hlz : (ti.length : Int) > 65536 := by omega
            have HO := hidd (HNo.out (by rw [HD.out, all_not txOK tx [] hkt (by rw [Hti.out]; unfold txOK; exact decide_eq_false (by omega))]; rfl))
            go_wp2_with fail
            go_ret
            exact ⟨by rw [HO.out]; rfl, HBw.out⟩
          · have hlz : ¬ (ti.length : Int) > 65536 := by omega
            have HA2 := hidd (all_take txOK tx [] hkt HAl.out (by rw [Hti.out]; unfold txOK; exact decide_eq_true (by omega)))
            go_wp2_with fail
            go_roundw
            case rel => exact ⟨k + 1, by omega, by go_num, HA2.out, by first | trivial | rfl⟩
            case measure => simp [intOf]; omega
        · have hktz : ¬ (k : Int) < (tx.length : Int) := by omega
          have HAx : Hid (tx.all txOK = true) := by show _ = _; have := HAl.out; rwa [show k = tx.length by omega, List.take_length] at this
          go_wp2_with fail
          go_loopw [6] (fun kv wr => ∃ k : Nat, k ≤ nz.length ∧ kv = .int .i64 (k : Int) ∧ (nz.take k).all nuOK = true ∧ wr = wv) (fun kv _ => nz.length - (intOf kv).toNat)
          case atStart => exact ⟨0, Nat.zero_le _, rfl, by simp, rfl⟩
          case round =>
            obtain ⟨j, hj, rfl, hal2, hww2⟩ := hrel
            have hww' := hww2.symm
            subst hww'
            clear hww2
            have HAl2 := hidd hal2
            clear hal2
            by_cases hjt : j < nz.length
            · have hjtz : (j : Int) < (nz.length : Int) := by omega
              obtain ⟨bn, on, rfl, hbn, hcn⟩ := (HZ.out.below HBv.out).resolve_left (fun e => by rw [e] at hjt; simp at hjt)
              have t1 := hcn j hjt
              obtain ⟨z, hz'⟩ : ∃ z, nz.getD j 0 = z := ⟨_, rfl⟩
              rw [hz'] at t1
              have Hz := hidd hz'
              clear hz' hcn
              by_cases hz1 : z < -1000000000000
              · have HO := hidd (HNo.out (by rw [HD.out, all_not nuOK nz 0 hjt (by rw [Hz.out]; unfold nuOK; exact decide_eq_false (by omega))]; simp))
                go_wp2_with fail
                go_ret
                exact ⟨by rw [HO.out]; rfl, HBw.out⟩
              · by_cases hz2 : z > 1000000000000
                · have HO := hidd (HNo.out (by rw [HD.out, all_not nuOK nz 0 hjt (by rw [Hz.out]; unfold nuOK; exact decide_eq_false (by omega))]; simp))
                  go_wp2_with fail
                  go_ret
                  exact ⟨by rw [HO.out]; rfl, HBw.out⟩
                · have HA2 := hidd (all_take nuOK nz 0 hjt HAl2.out (by rw [Hz.out]; unfold nuOK; exact decide_eq_true (by omega)))
                  go_wp2_with fail
                  go_roundw
                  case rel => exact ⟨j + 1, by omega, by go_num, HA2.out, by first | trivial | rfl⟩
                  case measure => simp [intOf]; omega
            · have hjtz : ¬ (j : Int) < (nz.length : Int) := by omega
              have HAz : Hid (nz.all nuOK = true) := by show _ = _; have := HAl2.out; rwa [show j = nz.length by omega, List.take_length] at this
              have HA3 := hidd (all_take vlOK V vl0 hlt HAll.out (by rw [Hv.out, HD.out, HAx.out, HAz.out]; rfl))
              go_wp2_with fail
              go_roundw
              case rel => exact ⟨i + 1, by omega, by go_num, HA3.out, HB.out.trans (HBv.out.mono HB.out.size)⟩
              case measure => simp [intOf]; omega
    · have hltz : ¬ (i : Int) < (V.length : Int) := by omega
      have HO : Hid (dcOK (id, V) = true) := by
        show _ = _
        have := HAll.out
        rw [show i = V.length by omega, List.take_length] at this
        unfold dcOK
        rw [decide_eq_true (by dsimp only; omega), this]; rfl
      go_wp2_with fail
      go_ret
      exact ⟨by rw [HO.out]; rfl, HBa.out.trans (HB.out.mono HBa.out.size)⟩
end Go.Proofs.YtpdiaddgialanaaGreatDoor
