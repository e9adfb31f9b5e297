import Derived.Test.YtpdiaddgialanaaGreatDoorLogJ25
namespace Go.Proofs.YtpdiaddgialanaaGreatDoor
open Go Go.RowKit
set_option linter.unusedVariables false
set_option linter.unusedSimpArgs false
set_option maxRecDepth 100000

theorem cutFr {w0 W wr w' : World} {B B0 B1 : Nat} {id : List UInt8} {va : Value} {V : List Vl} {xs : List Value} {r : List UInt8} (hB : W.heap.size = B0) (h : D1 w0 W wr B B0 B1 id va V xs r) (hf : RdFr B wr w') : RdFr B W w' := by
  have hl := h.lt
  have a1 := h.b1
  exact ⟨by have := hf.1; omega, fun b hb hne => (hf.2 b (by omega) hne).trans (h.fr b (by omega) hne)⟩
theorem cutFr2 {w0 W wr w' : World} {B B0 B1 B2 : Nat} {id f : List UInt8} {va vt vn : Value} {V : List Vl} {xs : List Value} {tx : List (List UInt8)} {nz : List Int} {r : List UInt8} (hB : W.heap.size = B0) (h : D2 w0 W wr B B0 B1 B2 id f va vt vn V xs tx nz r) (hf : RdFr B wr w') : RdFr B W w' := by
  have hl := h.lt
  have a1 := h.b1
  have a2 := h.b2
  exact ⟨by have := hf.1; omega, fun b hb hne => (hf.2 b (by omega) hne).trans (h.fr b (by omega) hne)⟩
set_option maxHeartbeats 16000000 in
theorem docRd_any {w0 W : World} {u : TypeId} {pv : Value} {B : Nat} {bs : List UInt8} (hE : ErrC w0 u pv) (hn : bs.length ≤ 1048576) (h : RdrAt w0 W B bs false) :
    Calls Tryz.prog 80 #[.pointer (some ⟨B, 0, none⟩)] W (DocPost u pv w0 W B bs) := by
  have HBa := hidd ((Below.refl W.heap.size W).alloc (Nat.le_refl _) (.cells #[.string ⟨#[]⟩, .slice none 0 0] 26))
  have HQ := hidd (heap_alloc_new W (.cells #[.string ⟨#[]⟩, .slice none 0 0] 26))
  have HR := hidd h
  have HE := hidd hE
  have hBW := h.lt
  clear h hE
  go_enter Tryz.func80, Tryz.ntmps80
  go_upto_region 1 with fail
  obtain ⟨wa, hwa⟩ : ∃ wa, W.alloc (.cells #[.string ⟨#[]⟩, .slice none 0 0] 26) = wa := ⟨_, rfl⟩
  rw [hwa] at HBa HQ
  try rw [hwa]
  clear hwa
  have HR1 := hidd (HR.out.below HBa.out)
  have HF0 : Hid (RdFr B W wa) := ⟨HBa.out.size, fun b hb _ => HBa.out.block b hb⟩
  have hzW : W.heap.size < wa.heap.size := (Array.getElem?_eq_some_iff.1 HQ.out).1
  cases h1 : rdT bs with
  | none =>
    have HT := hidd (text_none HE.out hn HR1.out h1)
    have HD := hidd (rdD_no1 h1)
    clear h1
    go_wp2_with fail
    refine HT.out.mono ?_
    rintro e w2 ⟨rfl, h2, hf2⟩
    exact ⟨rfl, Or.inr ⟨HD.out, rfl, h2, HF0.out.trans hf2⟩⟩
  | some p =>
    obtain ⟨id, r1⟩ := p
    have HT := hidd (text_some hn HR1.out h1)
    have hl1 := rdT_len h1
    have H1 := hidd h1
    clear h1
    go_wp2_with fail
    refine HT.out.mono ?_
    rintro e w1 ⟨rfl, hr1, hf1⟩
    clear HT
    have hw1 : W.heap.size < w1.heap.size := Nat.lt_of_lt_of_le hzW hf1.1
    have HBs := hidd ((Below.refl w1.heap.size w1).alloc (Nat.le_refl _) (.cells #[.string ⟨id.toArray⟩, .slice none 0 0] 26))
    have HI0 : Hid (D1 w0 W (w1.alloc (.cells #[.string ⟨id.toArray⟩, .slice none 0 0] 26)) B W.heap.size w1.heap.size id (.slice none 0 0) [] [] r1) := by
      refine ⟨hr1.below HBs.out, hBW, hw1, ?_, heap_alloc_new w1 _, AnsV.nil _ _ _, fun b hb hne => ?_, Nat.le_refl _⟩
      · exact (HBs.out.block _ hw1).trans ((hf1.2 _ hzW (by omega)).trans HQ.out)
      · exact (HBs.out.block _ (by omega)).trans ((hf1.2 b (by omega) hne).trans (HBa.out.block b hb))
    clear hr1 hf1 HBs HR1 HR HQ HBa HF0
    dsimp only
    go_upto_region 2 with fail
    obtain ⟨B0, hB0⟩ : ∃ B0, W.heap.size = B0 := ⟨_, rfl⟩
    obtain ⟨B1, hB1⟩ : ∃ B1, w1.heap.size = B1 := ⟨_, rfl⟩
    rw [hB0, hB1] at HI0
    have HB0 := hidd hB0
    try rw [hB0]
    try rw [hB1]
    generalize w1.alloc (.cells #[.string ⟨id.toArray⟩, .slice none 0 0] 26) = wi0 at *
    clear hB1 hB0 hw1 hzW hBW
    cases h2 : rdN 4096 r1 with
    | none =>
      have HT := hidd (upTo_none HE.out (by omega) (by omega) HI0.out.rdr h2)
      have HD := hidd (rdD_no2 H1.out h2)
      clear h2
      go_wp2_with fail
      refine HT.out.mono ?_
      rintro e w2 ⟨rfl, h2, hf2⟩
      exact ⟨rfl, Or.inr ⟨HD.out, rfl, h2, cutFr HB0.out HI0.out hf2⟩⟩
    | some p =>
      obtain ⟨n, r2⟩ := p
      have HT := hidd (upTo_some (by omega) (by omega) HI0.out.rdr h2)
      have hl2 := rdN_len h2
      have HD := hidd (rdD_glD H1.out h2)
      clear h2 H1
      go_wp2_with fail
      refine HT.out.mono ?_
      rintro e w2 ⟨rfl, hr2, hf2⟩
      have HI1 := hidd (HI0.out.call hr2 hf2)
      clear hr2 hf2 HT HI0
      dsimp only
      go_wp2_with fail
      go_loopw [10] (fun kv wr => ∃ (k : Nat) (va : Value) (V : List Vl) (xs : List Value) (r : List UInt8), k ≤ n ∧ kv = .int .i64 (k : Int) ∧ V.length = k ∧ r.length ≤ 1048576 ∧ rdD bs = glD id V (rdVs (n - k) r) ∧ D1 w0 W wr B B0 B1 id va V xs r) (fun kv _ => n - (intOf kv).toNat)
      case atStart => exact ⟨0, _, [], [], r2, Nat.zero_le _, rfl, rfl, by omega, HD.out, HI1.out⟩
      case round =>
        clear HI1 HD
        obtain ⟨k, va, V, xs, r, hk, rfl, hVl, hrl, hg, hd⟩ := hrel
        have HG := hidd hg
        have HD := hidd hd
        have HVl := hidd hVl
        clear hg hd hVl
        by_cases hkn : k < n
        · have hkz : (k : Int) < (n : Int) := by omega
          obtain ⟨N1, hN1⟩ : ∃ N1, n - k = N1 + 1 := ⟨n - k - 1, by omega⟩
          rw [hN1] at HG
          have HN1 : Hid (n - (k + 1) = N1) := by show _ = _; omega
          clear hN1
          cases h3 : rdT r with
          | none =>
            have HT := hidd (text_none HE.out hrl HD.out.rdr h3)
            have HNo : Hid (rdD bs = none) := HG.out.trans (glD_no (rdV_no1 h3))
            clear h3
            go_wp2_with fail
            refine HT.out.mono ?_
            rintro e w3 ⟨rfl, h3, hf3⟩
            exact ⟨rfl, Or.inr ⟨HNo.out, rfl, h3, cutFr HB0.out HD.out hf3⟩⟩
          | some p =>
            obtain ⟨f, q1⟩ := p
            have HT := hidd (text_some hrl HD.out.rdr h3)
            have hl3 := rdT_len h3
            have H3 := hidd h3
            clear h3
            go_wp2_with fail
            refine HT.out.mono ?_
            rintro e w3 ⟨rfl, hr3, hf3⟩
            have HV0 := hidd ((HD.out.call hr3 hf3).open (f := f))
            clear hr3 hf3 HT HD
            dsimp only
            go_upto_region 5 with fail
            obtain ⟨B2, hB2⟩ : ∃ B2, w3.heap.size = B2 := ⟨_, rfl⟩
            rw [hB2] at HV0
            try rw [hB2]
            generalize w3.alloc (.cells #[.string ⟨f.toArray⟩, .slice none 0 0, .slice none 0 0] 88) = wv at *
            clear hB2
            cases h4 : rdN 4096 q1 with
            | none =>
              have HT := hidd (upTo_none HE.out (by omega) (by omega) HV0.out.rdr h4)
              have HNo : Hid (rdD bs = none) := HG.out.trans (glD_no (rdV_no2 H3.out h4))
              clear h4
              go_wp2_with fail
              refine HT.out.mono ?_
              rintro e w4 ⟨rfl, h4, hf4⟩
              exact ⟨rfl, Or.inr ⟨HNo.out, rfl, h4, cutFr2 HB0.out HV0.out hf4⟩⟩
            | some p =>
              obtain ⟨n2, q2⟩ := p
              have HT := hidd (upTo_some (by omega) (by omega) HV0.out.rdr h4)
              have hl4 := rdN_len h4
              have HV : Hid (rdV r = contV f (rdTs n2 q2)) := rdV_cont H3.out h4
              clear h4 H3
              go_wp2_with fail
              refine HT.out.mono ?_
              rintro e w4 ⟨rfl, hr4, hf4⟩
              have HV1 := hidd (HV0.out.call hr4 hf4)
              clear hr4 hf4 HT HV0
              dsimp only
              go_wp2_with fail
              go_loopw [17] (fun kv wr => ∃ (k2 : Nat) (vt : Value) (tx : List (List UInt8)) (rr : List UInt8), k2 ≤ n2 ∧ kv = .int .i64 (k2 : Int) ∧ tx.length = k2 ∧ rr.length ≤ 1048576 ∧ rdV r = contV f (apT tx (rdTs (n2 - k2) rr)) ∧ D2 w0 W wr B B0 B1 B2 id f va vt (.slice none 0 0) V xs tx [] rr) (fun kv _ => n2 - (intOf kv).toNat)
              case atStart => exact ⟨0, _, [], q2, Nat.zero_le _, rfl, rfl, by omega, by rw [apT_nil]; exact HV.out, HV1.out⟩
              case round =>
                clear HV1 HV
                obtain ⟨k2, vt, tx, rr, hk2, rfl, htl, hrrl, hv, hd2⟩ := hrel
                have HV := hidd hv
                have HS := hidd hd2
                have HTl := hidd htl
                obtain ⟨aT, cT, rfl⟩ := own_formR hd2.rt
                clear hv hd2
                by_cases hk2n : k2 < n2
                · have hk2z : (k2 : Int) < (n2 : Int) := by omega
                  have htx : tx.length ≤ 4096 := by omega
                  clear htl
                  obtain ⟨N2, hN2⟩ : ∃ N2, n2 - k2 = N2 + 1 := ⟨n2 - k2 - 1, by omega⟩
                  rw [hN2] at HV
                  have HN2 : Hid (n2 - (k2 + 1) = N2) := by show _ = _; omega
                  clear hN2
                  have t1 := blkc HS.out.vbx 1
                  have tf := blkf HS.out.vbx 1
                  have hB2 := HS.out.lt
                  simp only [List.getElem?_toArray, List.getElem?_cons_zero, List.getElem?_cons_succ] at t1
                  go_upto_region 7 with fail
                  cases h5 : rdT rr with
                  | none =>
                    have HT2 := hidd (text_none HE.out hrrl HS.out.rdr.drew h5)
                    have HNo : Hid (rdD bs = none) := HG.out.trans (glD_no (HV.out.trans (by rw [apT_no h5]; rfl)))
                    clear h5
                    refine wp_region_held_drew (S := (fun w' => w'.cell? ⟨B2, 1, none⟩ = some (.slice aT tx.length cT))) (by kernel_rfl) ?_ (fun hHeld => ?_)
                    · exact t1
                    refine wpAnyH_take (i := 0) (v := ?_) rfl (by kernel_rfl) (by kernel_rfl) (by kernel_rfl) (fun _ _ _ h => h) (Or.inl ⟨by kernel_rfl, ?_⟩) (by assumption) ?_
                    rotate_left
                    · (intro w hSw; (try dsimp only at hSw); go_simp <;> with_reducible rfl)
                    (simp only [Act.put, List.getElem_toArray, List.getElem_cons_succ, List.getElem_cons_zero, List.setIfInBounds_toArray, List.set_cons_zero, List.set_cons_succ])
                    refine wpAnyH_take (i := 1) (v := ?_) rfl (by kernel_rfl) (by kernel_rfl) (by kernel_rfl) (fun _ _ _ h => h) (Or.inl ⟨by kernel_rfl, ?_⟩) (by assumption) ?_
                    rotate_left
                    · (intro w hSw; (try dsimp only at hSw); go_simp <;> with_reducible rfl)
                    (simp only [Act.put, List.getElem_toArray, List.getElem_cons_succ, List.getElem_cons_zero, List.setIfInBounds_toArray, List.set_cons_zero, List.set_cons_succ])
                    refine wpAnyH_take (i := 2) (v := ?_) rfl (by kernel_rfl) (by kernel_rfl) (by kernel_rfl) (fun _ _ _ h => h) (Or.inl ⟨by kernel_rfl, ?_⟩) (by assumption) ?_
                    rotate_left
                    · (intro w hSw; (try dsimp only at hSw); go_simp <;> with_reducible rfl)
                    (simp only [Act.put, List.getElem_toArray, List.getElem_cons_succ, List.getElem_cons_zero, List.setIfInBounds_toArray, List.set_cons_zero, List.set_cons_succ])
                    refine wpAnyH_ready (rs := [3]) (by kernel_rfl) (by simp) ?_
                    refine AllReadyH.cons rfl (fun K hK => ?_) AllReadyH.nil
                    go_simp
                    refine HT2.out.mono ?_
                    rintro e' w7 ⟨rfl, h7, hf7⟩
                    exact ⟨rfl, Or.inr ⟨HNo.out, rfl, h7, cutFr2 HB0.out HS.out hf7⟩⟩
                  | some p =>
                    obtain ⟨t, q5⟩ := p
                    have HT2 := hidd (fun W' (hW : Below wr.heap.size wr W') => text_some hrrl (HS.out.rdr.below hW) h5)
                    have hl5 := rdT_len h5
                    have HVn : Hid (rdV r = contV f (apT (tx ++ [t]) (rdTs N2 q5))) := HV.out.trans (by rw [apT_step h5])
                    clear h5
                    obtain ⟨i1, hi1, hy0, hy1, hy2⟩ := info_parts Tryz.infoStrR
                    have HPu := hidd (fun W3 V' w6 g6 cp6 (hS3 : D2 w0 W W3 B B0 B1 B2 id f va (.slice aT tx.length cT) (.slice none 0 0) V xs tx [] q5) => hS3.pushT (V' := V') (w6 := w6) (g6 := g6) (cp6 := cp6) (t := t))
                    go_region_law (first
                      | (refine step_append_lies _ rfl (.tmp 20) (.tmp 23) 37 rfl (B2 + 1) 9 i1 (.string ⟨#[]⟩) 1 16 Tryz.underlying37 hi1 hy0 hy1 hy2 rfl (by decide) (.slice aT tx.length cT) tx.length (tx.map mkS) (by simp [Act.eval]) (by first | exact HO3.out.drew.alloc _ | exact HO3.out.alloc _) ⟨w3.heap.size, 0, none⟩ 1 1 [.string ⟨t.toArray⟩] (by simp [Act.eval]) rfl (World.news_of_block (by first | exact heap_alloc_new w3 _ | exact heap_alloc_new w3.drew _)) (by intro u' hu'; simp at hu'; subst hu'; rfl) (by omega) (by unfold maxLen; omega) (by omega) (by first | omega | (simp; omega)) _ rfl ?_; intro g6 cp6 w6 hown6 hgrow6 hat6 hlt6; have HV6 := vOnR (wb := w3) hgrow6 (by first | exact (below_drewN (Below.refl _ _) 1).alloc (by simp) _ | exact (Below.refl _ _).alloc (by simp) _); obtain ⟨t1', t2'⟩ := HPu.out w3 _ w6 g6 cp6 HS3.out HV6.out hown6 hgrow6 hat6; have s2 := blkc t1' 1; have sf := blkf t1' 1; have HT6 := hidd t2'; clear t1' t2' hown6 hgrow6 hat6 hlt6)
                      | (refine step_callR1 rfl 89 (.tmp 21) _ rfl (.pointer (some ⟨B, 0, none⟩)) (by first | rfl | simp [Act.eval, Act.put]) (Tryz.call89 _ _) (fun r' w' => r' = .string ⟨t.toArray⟩ ∧ D2 w0 W w' B B0 B1 B2 id f va (.slice aT tx.length cT) (.slice none 0 0) V xs tx [] q5) ((HT2.out _ (by first | exact below_drewN (Below.refl _ _) 1 | exact Below.refl _ _)).mono (by rintro e w3 ⟨rfl, hr3, hf3⟩; exact ⟨_, rfl, rfl, (HS.out.below (by first | exact below_drewN (Below.refl _ _) 1 | exact Below.refl _ _)).call hr3 hf3⟩)) ?_; rintro r' w3 ⟨rfl, hS3⟩; have HS3 := hidd hS3; have b3 := blkc HS3.out.vbx 1; have HO3 := hidd HS3.out.rt; have hB3 : B2 < w3.heap.size := HS3.out.lt; clear hS3))
                    all_goals
                      go_wp2_with fail
                      go_roundw
                      case rel => exact ⟨k2 + 1, _, tx ++ [t], q5, by omega, by go_num, by rw [List.length_append, HTl.out]; rfl, by omega, by rw [HN2.out]; exact HVn.out, HT6.out⟩
                      case measure => simp [intOf]; omega
                · have hk2z : ¬ (k2 : Int) < (n2 : Int) := by omega
                  clear htl
                  obtain rfl : k2 = n2 := by omega
                  rw [Nat.sub_self, apT_end] at HV
                  cases h6 : rdN 4096 rr with
                  | none =>
                    have HT := hidd (upTo_none HE.out hrrl (by omega) HS.out.rdr h6)
                    have HNo : Hid (rdD bs = none) := HG.out.trans (glD_no (HV.out.trans (contV_no h6)))
                    clear h6
                    go_wp2_with fail
                    refine HT.out.mono ?_
                    rintro e w6 ⟨rfl, h6, hf6⟩
                    exact ⟨rfl, Or.inr ⟨HNo.out, rfl, h6, cutFr2 HB0.out HS.out hf6⟩⟩
                  | some p =>
                    obtain ⟨m, q6⟩ := p
                    have HT := hidd (upTo_some hrrl (by omega) HS.out.rdr h6)
                    have hl6 := rdN_len h6
                    have HV2 : Hid (rdV r = contN f tx (rdZs m q6)) := HV.out.trans (contV_some h6)
                    clear h6 HV
                    go_wp2_with fail
                    refine HT.out.mono ?_
                    rintro e w6 ⟨rfl, hr6, hf6⟩
                    have HV3 := hidd (HS.out.call hr6 hf6)
                    clear hr6 hf6 HT HS
                    obtain ⟨vt, hvt⟩ : ∃ vt, Value.slice aT tx.length cT = vt := ⟨_, rfl⟩
                    rw [hvt] at HV3
                    clear hvt
                    dsimp only
                    go_wp2_with fail
                    go_loopw [29] (fun kv wr => ∃ (k3 : Nat) (vn : Value) (nz : List Int) (rr : List UInt8), k3 ≤ m ∧ kv = .int .i64 (k3 : Int) ∧ nz.length = k3 ∧ rr.length ≤ 1048576 ∧ rdV r = contN f tx (apN nz (rdZs (m - k3) rr)) ∧ D2 w0 W wr B B0 B1 B2 id f va vt vn V xs tx nz rr) (fun kv _ => m - (intOf kv).toNat)
                    case atStart => exact ⟨0, _, [], q6, Nat.zero_le _, rfl, rfl, by omega, by rw [apN_nil]; exact HV2.out, HV3.out⟩
                    case round =>
                      clear HV2 HV3
                      obtain ⟨k3, vn, nz, rr, hk3, rfl, hnl, hrrl, hv, hd2⟩ := hrel
                      have HV := hidd hv
                      have HS := hidd hd2
                      have HNl := hidd hnl
                      obtain ⟨aN, cN, rfl⟩ := own_formR hd2.rn
                      clear hv hd2
                      by_cases hk3n : k3 < m
                      · have hk3z : (k3 : Int) < (m : Int) := by omega
                        have hnx : nz.length ≤ 4096 := by omega
                        clear hnl
                        obtain ⟨N3, hN3⟩ : ∃ N3, m - k3 = N3 + 1 := ⟨m - k3 - 1, by omega⟩
                        rw [hN3] at HV
                        have HN3 : Hid (m - (k3 + 1) = N3) := by show _ = _; omega
                        clear hN3
                        have t1 := blkc HS.out.vbx 2
                        have tf := blkf HS.out.vbx 2
                        have hB2 := HS.out.lt
                        simp only [List.getElem?_toArray, List.getElem?_cons_zero, List.getElem?_cons_succ] at t1
                        go_upto_region 11 with fail
                        cases h5 : rdN 2000000000000 rr with
                        | none =>
                          have HT2 := hidd (upTo_none HE.out hrrl (Nat.le_refl _) HS.out.rdr.drew h5)
                          have HNo : Hid (rdD bs = none) := HG.out.trans (glD_no (HV.out.trans (by rw [apN_no h5]; rfl)))
                          clear h5
                          refine wp_region_held_drew (S := (fun w' => w'.cell? ⟨B2, 2, none⟩ = some (.slice aN nz.length cN))) (by kernel_rfl) ?_ (fun hHeld => ?_)
                          · exact t1
                          refine wpAnyH_take (i := 0) (v := ?_) rfl (by kernel_rfl) (by kernel_rfl) (by kernel_rfl) (fun _ _ _ h => h) (Or.inl ⟨by kernel_rfl, ?_⟩) (by assumption) ?_
                          rotate_left
                          · (intro w hSw; (try dsimp only at hSw); go_simp <;> with_reducible rfl)
                          (simp only [Act.put, List.getElem_toArray, List.getElem_cons_succ, List.getElem_cons_zero, List.setIfInBounds_toArray, List.set_cons_zero, List.set_cons_succ])
                          refine wpAnyH_take (i := 1) (v := ?_) rfl (by kernel_rfl) (by kernel_rfl) (by kernel_rfl) (fun _ _ _ h => h) (Or.inl ⟨by kernel_rfl, ?_⟩) (by assumption) ?_
                          rotate_left
                          · (intro w hSw; (try dsimp only at hSw); go_simp <;> with_reducible rfl)
                          (simp only [Act.put, List.getElem_toArray, List.getElem_cons_succ, List.getElem_cons_zero, List.setIfInBounds_toArray, List.set_cons_zero, List.set_cons_succ])
                          refine wpAnyH_take (i := 2) (v := ?_) rfl (by kernel_rfl) (by kernel_rfl) (by kernel_rfl) (fun _ _ _ h => h) (Or.inl ⟨by kernel_rfl, ?_⟩) (by assumption) ?_
                          rotate_left
                          · (intro w hSw; (try dsimp only at hSw); go_simp <;> with_reducible rfl)
                          (simp only [Act.put, List.getElem_toArray, List.getElem_cons_succ, List.getElem_cons_zero, List.setIfInBounds_toArray, List.set_cons_zero, List.set_cons_succ])
                          refine wpAnyH_ready (rs := [3]) (by kernel_rfl) (by simp) ?_
                          refine AllReadyH.cons rfl (fun K hK => ?_) AllReadyH.nil
                          go_simp
                          refine (unsigned_any _).mono ?_
                          rintro e' wq ⟨rfl, hwq⟩
                          subst hwq
                          go_wp2_with fail
                          refine hK.out _ _ ?_ (fun hHeld1 => ?_)
                          · exact t1
                          clear hK K
                          try simp only [Act.put, List.getElem_toArray, List.getElem_cons_succ, List.getElem_cons_zero, List.setIfInBounds_toArray, List.set_cons_zero, List.set_cons_succ]
                          refine wpAnyH_ready (rs := [4]) (by kernel_rfl) (by simp) ?_
                          refine AllReadyH.cons rfl (fun K hK => ?_) AllReadyH.nil
                          go_simp
                          refine HT2.out.mono ?_
                          rintro e' w7 ⟨rfl, h7, hf7⟩
                          exact ⟨rfl, Or.inr ⟨HNo.out, rfl, h7, cutFr2 HB0.out HS.out hf7⟩⟩
                        | some p =>
                          obtain ⟨y, q5⟩ := p
                          have HT2 := hidd (fun W' (hW : Below wr.heap.size wr W') => upTo_some hrrl (Nat.le_refl _) (HS.out.rdr.below hW) h5)
                          have hl5 := rdN_len h5
                          have HVn : Hid (rdV r = contN f tx (apN (nz ++ [sgn y]) (rdZs N3 q5))) := HV.out.trans (by rw [apN_step h5])
                          have HSg := hidd (fun W' => signed_any y W' hl5.2)
                          clear h5
                          obtain ⟨z, hz⟩ : ∃ z, sgn y = z := ⟨_, rfl⟩
                          rw [hz] at HVn HSg
                          clear hz
                          obtain ⟨i1, hi1, hy0, hy1, hy2⟩ := info_parts Tryz.infoIntR
                          have HPu := hidd (fun W3 V' w6 g6 cp6 (hS3 : D2 w0 W W3 B B0 B1 B2 id f va vt (.slice aN nz.length cN) V xs tx nz q5) => hS3.pushN (V' := V') (w6 := w6) (g6 := g6) (cp6 := cp6) (z := z))
                          go_region_law (first
                            | (refine step_append_lies _ rfl (.tmp 32) (.tmp 37) 23 rfl (B2 + 1) 3 i1 (.int .i64 0) 1 8 Tryz.underlying23 hi1 hy0 hy1 hy2 rfl (by decide) (.slice aN nz.length cN) nz.length (nz.map mkI) (by simp [Act.eval]) (by first | exact HO3.out.drew.alloc _ | exact HO3.out.alloc _) ⟨w3.heap.size, 0, none⟩ 1 1 [.int .i64 z] (by simp [Act.eval]) rfl (World.news_of_block (by first | exact heap_alloc_new w3 _ | exact heap_alloc_new w3.drew _)) (by intro u' hu'; simp at hu'; subst hu'; rfl) (by omega) (by unfold maxLen; omega) (by omega) (by first | omega | (simp; omega)) _ rfl ?_; intro g6 cp6 w6 hown6 hgrow6 hat6 hlt6; have HV6 := vOnR (wb := w3) hgrow6 (by first | exact (below_drewN (Below.refl _ _) 1).alloc (by simp) _ | exact (Below.refl _ _).alloc (by simp) _); obtain ⟨t1', t2'⟩ := HPu.out w3 _ w6 g6 cp6 HS3.out HV6.out hown6 hgrow6 hat6; have s2 := blkc t1' 2; have sf := blkf t1' 2; have HT6 := hidd t2'; clear t1' t2' hown6 hgrow6 hat6 hlt6)
                            | (refine step_callR1 rfl 92 (.const (.int .i64 1000000000000)) _ rfl (.int .i64 1000000000000) rfl (Tryz.call92 _ _) (fun r' w' => r' = .int .i64 ((2000000000000 : Nat) : Int) ∧ w' = wr.drew) ((unsigned_any _).mono (by rintro e wq ⟨rfl, rfl⟩; exact ⟨_, rfl, rfl, rfl⟩)) ?_; rintro r' wq ⟨rfl, rfl⟩)
                            | (refine step_callR2 rfl 90 (.tmp 33) (.tmp 34) _ _ rfl (.pointer (some ⟨B, 0, none⟩)) (.int .i64 ((2000000000000 : Nat) : Int)) (by first | rfl | simp [Act.eval, Act.put]) (by first | rfl | simp [Act.eval, Act.put]) (Tryz.call90 _ _) (fun r' w' => r' = .int .i64 (y : Int) ∧ D2 w0 W w' B B0 B1 B2 id f va vt (.slice aN nz.length cN) V xs tx nz q5) ((HT2.out _ (by first | exact below_drewN (Below.refl _ _) 1 | exact Below.refl _ _)).mono (by rintro e w3 ⟨rfl, hr3, hf3⟩; exact ⟨_, rfl, rfl, (HS.out.below (by first | exact below_drewN (Below.refl _ _) 1 | exact Below.refl _ _)).call hr3 hf3⟩)) ?_; rintro r' w3 ⟨rfl, hS3⟩; have HS3 := hidd hS3; have b3 := blkc HS3.out.vbx 2; have HO3 := hidd HS3.out.rn; have hB3 : B2 < w3.heap.size := HS3.out.lt; clear hS3)
                            | (refine step_callR1 rfl 91 (.tmp 35) _ rfl (.int .i64 (y : Int)) (by first | rfl | simp [Act.eval, Act.put]) (Tryz.call91 _ _) (fun r' w' => r' = .int .i64 z ∧ w' = w3) ((HSg.out _).mono (by rintro e wq ⟨rfl, rfl⟩; exact ⟨_, rfl, rfl, rfl⟩)) ?_; rintro r' wq ⟨rfl, hwq⟩; obtain rfl := hwq.symm; clear hwq))
                          all_goals
                            go_wp2_with fail
                            go_roundw
                            case rel => exact ⟨k3 + 1, _, nz ++ [z], q5, by omega, by go_num, by rw [List.length_append, HNl.out]; rfl, by omega, by rw [HN3.out]; exact HVn.out, HT6.out⟩
                            case measure => simp [intOf]; omega
                      · have hk3z : ¬ (k3 : Int) < (m : Int) := by omega
                        clear hnl
                        obtain rfl : k3 = m := by omega
                        rw [Nat.sub_self, apN_end] at HV
                        have HGn : Hid (rdD bs = glD id (V ++ [(f, tx, nz)]) (rdVs N1 rr)) := HG.out.trans (glD_step HV.out)
                        obtain ⟨aA, cA, rfl⟩ := own_formR HS.out.ans.row
                        obtain ⟨i1, hi1, hy0, hy1, hy2⟩ := info_parts Tryz.infoValR
                        have hVn : V.length ≤ 4096 := by have := HVl.out; omega
                        have b1 := blkc HS.out.box 1
                        have v0 := blkc HS.out.vbx 0
                        have v1 := blkc HS.out.vbx 1
                        have v2 := blkc HS.out.vbx 2
                        simp only [List.getElem?_toArray, List.getElem?_cons_zero, List.getElem?_cons_succ] at b1 v0 v1 v2
                        have HOV := hidd HS.out.ans.row
                        have hl2 := HS.out.lt
                        have hbb2 := HS.out.b2
                        obtain ⟨aT, cT, rfl⟩ := own_formR HS.out.rt
                        go_wp2_with (at_builtin; refine wpList_append_lies _ rfl (.tmp 42) (.tmp 44) 24 rfl (B1 + 1) 88 i1 (.agg #[.string ⟨#[]⟩, .slice none 0 0, .slice none 0 0]) 3 64 Tryz.underlying24 hi1 hy0 hy1 hy2 rfl (by decide) (.slice aA V.length cA) V.length xs rfl (HOV.out.alloc _) ⟨wr.heap.size, 0, none⟩ 1 1 [.string ⟨f.toArray⟩, .slice aT tx.length cT, .slice aN nz.length cN] rfl rfl (World.news_of_block (heap_alloc_new wr _)) (by intro u' hu'; simp at hu'; rcases hu' with rfl | rfl | rfl <;> rfl) (by decide) (by unfold maxLen; omega) (by omega) (by first | omega | (simp; omega)) _ rfl ?_)
                        intro g6 cp6 w6 hown6 hgrow6 hat6 hlt6
                        obtain ⟨t1', t2'⟩ := HS.out.close (V' := wr.alloc _) (w6 := w6) (g6 := g6) (cp6 := cp6) ((Below.refl _ _).alloc (Nat.le_refl _) _) hown6 hgrow6 (hat6.imp (fun e => e) (fun e => by rw [e]; simp)) hlt6
                        have s2 := blkc t1' 1
                        have sf := blkf t1' 1
                        simp only [List.getElem?_toArray, List.getElem?_cons_zero, List.getElem?_cons_succ] at s2
                        have HT6 := hidd t2'
                        clear t1' t2' hown6 hgrow6 hat6 hlt6 b1 v0 v1 v2
                        go_wp2_with fail
                        go_roundw
                        case rel => exact ⟨k + 1, _, V ++ [(f, tx, nz)], _, rr, by omega, by go_num, by rw [List.length_append, HVl.out]; rfl, hrrl, by rw [HN1.out]; exact HGn.out, HT6.out⟩
                        case measure => simp [intOf]; omega
        · have hkz : ¬ (k : Int) < (n : Int) := by omega
          obtain rfl : k = n := by omega
          rw [Nat.sub_self, glD_end] at HG
          obtain ⟨aA, cA, rfl⟩ := own_formR HD.out.ans.row
          have x0 := blkc HD.out.res 0
          have x1 := blkc HD.out.res 1
          have f0 := blkf HD.out.res 0
          have f1 := blkf HD.out.res 1
          have y0 := blkc HD.out.box 0
          have y1 := blkc HD.out.box 1
          have hb0 := HD.out.b0
          have hb1 := HD.out.b1
          have HX := hidd (blk_set2 (x := .string ⟨id.toArray⟩) (y := .slice aA V.length cA) HD.out.res)
          have z0 := blkc HX.out 0
          have z1 := blkc HX.out 1
          have hwr : B1 < wr.heap.size := HD.out.lt
          go_wp2_with fail
          refine bodyPost_ret (v := .agg #[.string ⟨id.toArray⟩, .slice aA V.length cA]) (by simp [results, Tryz.results80, go_sem, z0, z1]) rfl ?_
          refine Or.inl ⟨id, V, _, xs, r, B1 + 1, HG.out, rfl, by have := HB0.out; omega, ?_, ?_, ?_⟩
          · refine (HD.out.ans.keep fun b h1 h2 => ?_).mono (by simp)
            rw [heap_set_other _ B0 1 _ b (by omega), heap_set_other wr B0 0 _ b (by omega)]
          · refine HD.out.rdr.keep ((HD.out.rdr.old.setCell (p := ⟨B0, 0, none⟩) ?_ _).setCell (p := ⟨B0, 1, none⟩) ?_ _) ((heap_set_other _ B0 1 _ B (by omega)).trans (heap_set_other wr B0 0 _ B (by omega)))
            · have := HD.out.rdr.new; dsimp only; omega
            · have := HD.out.rdr.new; dsimp only; omega
          · have hB := HB0.out
            refine ⟨by simp; omega, fun b hb hne => ?_⟩
            rw [heap_set_other _ B0 1 _ b (by omega), heap_set_other wr B0 0 _ b (by omega)]
            exact HD.out.fr b (by omega) hne
end Go.Proofs.YtpdiaddgialanaaGreatDoor
