import Derived.Test.YtefhmbnhhkgifaaDoorReadLogJ23
namespace Go.Proofs.YtefhmbnhhkgifaaDoor
open Go Go.RowKit
set_option linter.unusedVariables false
set_option linter.unusedSimpArgs false
set_option maxRecDepth 100000

variable {rb ro rc : Nat} {rs : List UInt8}
set_option maxHeartbeats 16000000 in
theorem sdoc_any {w0 W : World} {B : Nat} {r0 : List UInt8} (hn : rs.length ≤ 1048576) (h : SpAt w0 W B rb ro rc rs r0 false) :
    Calls Tryd.prog 31 #[.pointer (some ⟨B, 0, none⟩)] W (SDocPost w0 W B rb ro rc rs r0) := by
  have HBa := hidd ((Below.refl W.heap.size W).alloc (Nat.le_refl _) (.cells #[.string ⟨#[]⟩, .slice none 0 0] 34))
  have HQ := hidd (heap_alloc_new W (.cells #[.string ⟨#[]⟩, .slice none 0 0] 34))
  have HR := hidd h
  have hBW := h.lt
  clear h
  go_enter Tryd.func31, Tryd.ntmps31
  go_upto_region 1 with fail
  obtain ⟨wa, hwa⟩ : ∃ wa, W.alloc (.cells #[.string ⟨#[]⟩, .slice none 0 0] 34) = wa := ⟨_, rfl⟩
  rw [hwa] at HBa HQ
  try rw [hwa]
  clear hwa
  have HR1 := hidd (HR.out.below HBa.out)
  have hzW : W.heap.size < wa.heap.size := (Array.getElem?_eq_some_iff.1 HQ.out).1
  have HT := hidd (stext_u hn HR1.out)
  go_wp2_with fail
  refine HT.out.mono ?_
  rintro e w1 ⟨id, r1, bd1, rfl, hf1, hr1, hrel1⟩
  clear HT
  have hw1 : W.heap.size < w1.heap.size := Nat.lt_of_lt_of_le hzW hf1.1
  have HBs := hidd ((Below.refl w1.heap.size w1).alloc (Nat.le_refl _) (.cells #[.string ⟨id.toArray⟩, .slice none 0 0] 34))
  have HI0 : Hid (E1 rb ro rc rs w0 W (w1.alloc (.cells #[.string ⟨id.toArray⟩, .slice none 0 0] 34)) B W.heap.size w1.heap.size id (.slice none 0 0) [] [] r1 bd1) := by
    refine ⟨hr1.below HBs.out, hBW, hw1, ?_, heap_alloc_new w1 _, AnsV.nil _ _ _, fun b hb hne => ?_, Nat.le_refl _⟩
    · exact (HBs.out.block _ hw1).trans ((hf1.2 _ hzW (by omega)).trans HQ.out)
    · exact (HBs.out.block _ (by omega)).trans ((hf1.2 b (by omega) hne).trans (HBa.out.block b hb))
  have HRel1 := hidd hrel1
  clear hr1 hf1 HBs HR1 HR HQ HBa hrel1
  dsimp only
  go_upto_region 2 with fail
  obtain ⟨B0, hB0⟩ : ∃ B0, W.heap.size = B0 := ⟨_, rfl⟩
  obtain ⟨B1, hB1⟩ : ∃ B1, w1.heap.size = B1 := ⟨_, rfl⟩
  rw [hB0, hB1] at HI0
  have HB0 := hidd hB0
  try rw [hB0]
  try rw [hB1]
  generalize w1.alloc (.cells #[.string ⟨id.toArray⟩, .slice none 0 0] 34) = wi0 at *
  clear hB1 hB0 hw1 hzW hBW
  have HT := hidd (count_u hn HI0.out.rdr)
  go_wp2_with fail
  refine HT.out.mono ?_
  rintro e w2 ⟨n, r2, bd2, rfl, hn4, hf2, hr2, hrel2⟩
  have HI1 := hidd (HI0.out.call hr2 hf2)
  have HRl : Hid (Rel bd2 (rdD r0 = glD id [] (rdVs n r2)) (rdD r0 = none)) := by
    rcases hrel2 with ⟨rfl, h⟩ | ⟨rfl, rfl, h⟩
    · refine Or.inr ⟨rfl, ?_⟩
      rcases HRel1.out with ⟨_, h1⟩ | ⟨h0, h1⟩
      · exact rdD_no1 h1
      · rcases h with h | h
        · rw [h0] at h; cases h
        · exact rdD_no2 h1 h
    · rcases HRel1.out with ⟨h0, _⟩ | ⟨_, h1⟩
      · cases h0
      · exact Or.inl ⟨rfl, rdD_glD h1 h⟩
  clear hr2 hf2 HT HI0 hrel2 HRel1
  dsimp only
  go_wp2_with fail
  go_loopw [4] (fun kv wr => ∃ (i : Nat) (va : Value) (V : List Vl) (xs : List Value) (r : List UInt8) (bd : Bool), kv = .int .i64 (i : Int) ∧ V.length + i ≤ 4096 ∧ Rel bd (rdD r0 = glD id V (rdVs i r)) (rdD r0 = none) ∧ E1 rb ro rc rs w0 W wr B B0 B1 id va V xs r bd) (fun kv _ => (intOf kv).toNat)
  case atStart => exact ⟨n, _, [], [], r2, bd2, rfl, by simpa using hn4, HRl.out, HI1.out⟩
  case round =>
    clear HI1 HRl hn4
    obtain ⟨i, va, V, xs, r, bd, rfl, hVl, hrel, hd⟩ := hrel
    have HG := hidd hrel
    have HD := hidd hd
    have HVl := hidd hVl
    have hi4 : i ≤ 4096 := by omega
    have fl := hd.rdr.flag
    clear hrel hd hVl
    by_cases hgo : 0 < i ∧ bd = false
    · obtain ⟨hi0, rfl⟩ := hgo
      have hiz : (i : Int) > 0 := by omega
      obtain ⟨N1, hN1⟩ : ∃ N1, i = N1 + 1 := ⟨i - 1, by omega⟩
      have HN1 := hidd hN1
      clear hN1
      have hgv : rdD r0 = glD id V (rdVs (N1 + 1) r) := by
        rcases HG.out with ⟨_, h⟩ | ⟨h, _⟩
        · rw [← HN1.out]; exact h
        · cases h
      have HGv := hidd hgv
      clear hgv HG
      have HT := hidd (stext_u hn HD.out.rdr)
      go_wp2_with fail
      refine HT.out.mono ?_
      rintro e w3 ⟨f, q1, bd3, rfl, hf3, hr3, hrel3⟩
      have HV0 := hidd ((HD.out.call hr3 hf3).open (f := f))
      have HRel3 := hidd hrel3
      clear hr3 hf3 HT HD hrel3 fl
      dsimp only
      go_upto_region 6 with fail
      obtain ⟨B2, hB2⟩ : ∃ B2, w3.heap.size = B2 := ⟨_, rfl⟩
      rw [hB2] at HV0
      try rw [hB2]
      generalize w3.alloc (.cells #[.string ⟨f.toArray⟩, .slice none 0 0, .slice none 0 0] 64) = wv at *
      clear hB2
      have HT := hidd (count_u hn HV0.out.rdr)
      go_wp2_with fail
      refine HT.out.mono ?_
      rintro e w4 ⟨n2, q2, bd4, rfl, hn24, hf4, hr4, hrel4⟩
      have HV1 := hidd (HV0.out.call hr4 hf4)
      have HRv : Hid (Rel bd4 (rdV r = contV f (rdTs n2 q2)) (rdV r = none)) := by
        rcases hrel4 with ⟨rfl, h⟩ | ⟨rfl, rfl, h⟩
        · refine Or.inr ⟨rfl, ?_⟩
          rcases HRel3.out with ⟨_, h1⟩ | ⟨h0, h1⟩
          · exact rdV_no1 h1
          · rcases h with h | h
            · rw [h0] at h; cases h
            · exact rdV_no2 h1 h
        · rcases HRel3.out with ⟨h0, _⟩ | ⟨_, h1⟩
          · cases h0
          · exact Or.inl ⟨rfl, rdV_cont h1 h⟩
      clear hr4 hf4 HT HV0 hrel4 HRel3
      dsimp only
      go_wp2_with fail
      go_loopw [6] (fun kv wr => ∃ (i2 : Nat) (vt : Value) (tx : List (List UInt8)) (rr : List UInt8) (bd : Bool), kv = .int .i64 (i2 : Int) ∧ tx.length + i2 ≤ 4096 ∧ Rel bd (rdV r = contV f (apT tx (rdTs i2 rr))) (rdV r = none) ∧ E2 rb ro rc rs w0 W wr B B0 B1 B2 id f va vt (.slice none 0 0) V xs tx [] rr bd) (fun kv _ => (intOf kv).toNat)
      case atStart => exact ⟨n2, _, [], q2, bd4, rfl, by simpa using hn24, by rw [apT_nil]; exact HRv.out, HV1.out⟩
      case round =>
        clear HV1 HRv hn24
        obtain ⟨i2, vt, tx, rr, bd, rfl, htl, hrel, hd2⟩ := hrel
        have HV := hidd hrel
        have HS := hidd hd2
        have HTl := hidd htl
        have fl := hd2.rdr.flag
        have htx : tx.length ≤ 4096 := by omega
        obtain ⟨aX, cX, rfl⟩ := own_formR hd2.rt
        clear hrel hd2 htl
        by_cases hgo : 0 < i2 ∧ bd = false
        · obtain ⟨hi0, rfl⟩ := hgo
          have hiz2 : (i2 : Int) > 0 := by omega
          obtain ⟨N2, hN2⟩ : ∃ N2, i2 = N2 + 1 := ⟨i2 - 1, by omega⟩
          have HN2 := hidd hN2
          clear hN2
          have hvv : rdV r = contV f (apT tx (rdTs (N2 + 1) rr)) := by
            rcases HV.out with ⟨_, h⟩ | ⟨h, _⟩
            · rw [← HN2.out]; exact h
            · cases h
          have HVv := hidd hvv
          clear hvv HV
          have hTl4 := HTl.out
          have t1 := blkc HS.out.vbx 1
          have tf := blkf HS.out.vbx 1
          have hB2 := HS.out.lt
          simp only [List.getElem?_toArray, List.getElem?_cons_zero, List.getElem?_cons_succ] at t1
          have HT2 := hidd (fun W' (hW : Below wr.heap.size wr W') => stext_u hn (HS.out.rdr.below hW))
          go_upto_region 9 with fail
          obtain ⟨i1, hi1, hy0, hy1, hy2⟩ := info_parts Tryd.infoStrR
          go_region_law (first
            | (refine step_append_lies _ rfl (.tmp 41) (.tmp 44) 61 rfl (B2 + 1) 9 i1 (.string ⟨#[]⟩) 1 16 Tryd.underlying61 hi1 hy0 hy1 hy2 rfl (by decide) (.slice aX tx.length cX) tx.length (tx.map mkS) (by simp [Act.eval]) (by first | exact HO3.out.drew.alloc _ | exact HO3.out.alloc _) ⟨w3.heap.size, 0, none⟩ 1 1 [.string ⟨t.toArray⟩] (by simp [Act.eval]) rfl (World.news_of_block (by first | exact heap_alloc_new w3 _ | exact heap_alloc_new w3.drew _)) (by intro u' hu'; simp at hu'; subst hu'; rfl) (by omega) (by unfold maxLen; omega) (by omega) (by first | omega | (simp; omega)) _ rfl ?_; intro g6 cp6 w6 hown6 hgrow6 hat6 hlt6; have HV6 := vOnR (wb := w3) hgrow6 (by first | exact (below_drewN (Below.refl _ _) 1).alloc (by simp) _ | exact (Below.refl _ _).alloc (by simp) _); obtain ⟨t1', t2'⟩ := HS3.out.pushT (t := t) (V' := _) (w6 := w6) (g6 := g6) (cp6 := cp6) HV6.out hown6 hgrow6 hat6; have s2 := blkc t1' 1; have sf := blkf t1' 1; have HT6 := hidd t2'; clear t1' t2' hown6 hgrow6 hat6 hlt6)
            | (refine step_callR1 rfl 46 (.tmp 42) _ rfl (.pointer (some ⟨B, 0, none⟩)) (by first | rfl | simp [Act.eval, Act.put]) (Tryd.call46 _ _) (fun r' w' => ∃ (t q5 : List UInt8) (bd5 : Bool), r' = .string ⟨t.toArray⟩ ∧ ((bd5 = true ∧ rdT rr = none) ∨ (bd5 = false ∧ rdT rr = some (t, q5))) ∧ E2 rb ro rc rs w0 W w' B B0 B1 B2 id f va (.slice aX tx.length cX) (.slice none 0 0) V xs tx [] q5 bd5) ((HT2.out _ (by first | exact below_drewN (Below.refl _ _) 1 | exact Below.refl _ _)).mono (by rintro e w3 ⟨t, q5, bd5, rfl, hf3, hr3, hrl3⟩; exact ⟨_, rfl, t, q5, bd5, rfl, hrl3, (HS.out.below (by first | exact below_drewN (Below.refl _ _) 1 | exact Below.refl _ _)).call hr3 hf3⟩)) ?_; rintro r' w3 ⟨t, q5, bd5, rfl, hrl3, hS3⟩; have HS3 := hidd hS3; have HRl3 := hidd hrl3; have b3 := blkc HS3.out.vbx 1; have HO3 := hidd HS3.out.rt; have hB3 : B2 < w3.heap.size := HS3.out.lt; clear hS3 hrl3))
          all_goals
            have HNx : Hid (Rel bd5 (rdV r = contV f (apT (tx ++ [t]) (rdTs N2 q5))) (rdV r = none)) := by
              rcases HRl3.out with ⟨rfl, h⟩ | ⟨rfl, h⟩
              · exact Or.inr ⟨rfl, HVv.out.trans (by rw [apT_no h]; rfl)⟩
              · exact Or.inl ⟨rfl, HVv.out.trans (by rw [apT_step h])⟩
            go_wp2_with fail
            go_roundw
            case rel => exact ⟨N2, _, tx ++ [t], q5, bd5, by have := HN2.out; go_num, by rw [List.length_append]; have := HTl.out; have := HN2.out; simp; omega, HNx.out, HT6.out⟩
            case measure => first | (simp [intOf]; done) | (simp [intOf]; omega)
        · go_upto_region 7 with fail
          go_cut [37] (fun cv wy => cv = .bool false ∧ wy = wr)
          case first =>
            by_cases hi0 : 0 < i2
            · have hiz2 : (i2 : Int) > 0 := by omega
              obtain rfl : bd = true := by
                cases bd with
                | true => rfl
                | false => exact absurd ⟨hi0, rfl⟩ hgo
              go_wp2_with fail
              go_meet
              exact ⟨rfl, rfl⟩
            · obtain rfl : i2 = 0 := by omega
              go_wp2_with fail
              go_meet
              exact ⟨rfl, rfl⟩
          case rest =>
            obtain ⟨rfl, hww⟩ := hcut
            obtain rfl := hww.symm
            clear hww fl
            have HRt : Hid (Rel bd (rdV r = contV f (some (tx, rr))) (rdV r = none)) := by
              rcases HV.out with ⟨rfl, h⟩ | ⟨rfl, h⟩
              · obtain rfl : i2 = 0 := Classical.byContradiction fun h0 => hgo ⟨by omega, rfl⟩
                rw [apT_end] at h
                exact Or.inl ⟨rfl, h⟩
              · exact Or.inr ⟨rfl, h⟩
            clear hgo HV
            have HT := hidd (count_u hn HS.out.rdr)
            go_wp2_with fail
            refine HT.out.mono ?_
            rintro e w6 ⟨m, q6, bd6, rfl, hm4, hf6, hr6, hrel6⟩
            have HV3 := hidd (HS.out.call hr6 hf6)
            have HRz : Hid (Rel bd6 (rdV r = contN f tx (rdZs m q6)) (rdV r = none)) := by
              rcases hrel6 with ⟨rfl, h⟩ | ⟨rfl, rfl, h⟩
              · refine Or.inr ⟨rfl, ?_⟩
                rcases HRt.out with ⟨h0, h1⟩ | ⟨_, h1⟩
                · rcases h with h | h
                  · rw [h0] at h; cases h
                  · exact h1.trans (contV_no h)
                · exact h1
              · rcases HRt.out with ⟨_, h1⟩ | ⟨h0, _⟩
                · exact Or.inl ⟨rfl, h1.trans (contV_some h)⟩
                · cases h0
            clear hr6 hf6 HT HS hrel6 HRt HTl
            obtain ⟨vt, hvt⟩ : ∃ vt, Value.slice aX tx.length cX = vt := ⟨_, rfl⟩
            rw [hvt] at HV3
            clear hvt
            dsimp only
            go_wp2_with fail
            go_loopw [7] (fun kv wr => ∃ (i3 : Nat) (vn : Value) (nz : List Int) (rr : List UInt8) (bd : Bool), kv = .int .i64 (i3 : Int) ∧ nz.length + i3 ≤ 4096 ∧ Rel bd (rdV r = contN f tx (apN nz (rdZs i3 rr))) (rdV r = none) ∧ E2 rb ro rc rs w0 W wr B B0 B1 B2 id f va vt vn V xs tx nz rr bd) (fun kv _ => (intOf kv).toNat)
            case atStart => exact ⟨m, _, [], q6, bd6, rfl, by simpa using hm4, by rw [apN_nil]; exact HRz.out, HV3.out⟩
            case round =>
              clear HV3 HRz hm4
              obtain ⟨i3, vn, nz, rr, bd, rfl, hnl, hrel, hd2⟩ := hrel
              have HV := hidd hrel
              have HS := hidd hd2
              have HNl := hidd hnl
              have fl := hd2.rdr.flag
              have hnx : nz.length ≤ 4096 := by omega
              obtain ⟨aX, cX, rfl⟩ := own_formR hd2.rn
              clear hrel hd2 hnl
              by_cases hgo : 0 < i3 ∧ bd = false
              · obtain ⟨hi0, rfl⟩ := hgo
                have hiz3 : (i3 : Int) > 0 := by omega
                obtain ⟨N3, hN3⟩ : ∃ N3, i3 = N3 + 1 := ⟨i3 - 1, by omega⟩
                have HN3 := hidd hN3
                clear hN3
                have hvv : rdV r = contN f tx (apN nz (rdZs (N3 + 1) rr)) := by
                  rcases HV.out with ⟨_, h⟩ | ⟨h, _⟩
                  · rw [← HN3.out]; exact h
                  · cases h
                have HVv := hidd hvv
                clear hvv HV
                have hNl4 := HNl.out
                have t1 := blkc HS.out.vbx 2
                have tf := blkf HS.out.vbx 2
                have hB2 := HS.out.lt
                simp only [List.getElem?_toArray, List.getElem?_cons_zero, List.getElem?_cons_succ] at t1
                have HT2 := hidd (fun W' (hW : Below wr.heap.size wr W') => numb_u hn (HS.out.rdr.below hW))
                go_upto_region 13 with fail
                obtain ⟨i1, hi1, hy0, hy1, hy2⟩ := info_parts Tryd.infoIntR
                go_region_law (first
                  | (refine step_append_lies _ rfl (.tmp 61) (.tmp 64) 62 rfl (B2 + 1) 3 i1 (.int .i64 0) 1 8 Tryd.underlying62 hi1 hy0 hy1 hy2 rfl (by decide) (.slice aX nz.length cX) nz.length (nz.map mkI) (by simp [Act.eval]) (by first | exact HO3.out.drew.alloc _ | exact HO3.out.alloc _) ⟨w3.heap.size, 0, none⟩ 1 1 [.int .i64 z] (by simp [Act.eval]) rfl (World.news_of_block (by first | exact heap_alloc_new w3 _ | exact heap_alloc_new w3.drew _)) (by intro u' hu'; simp at hu'; subst hu'; rfl) (by omega) (by unfold maxLen; omega) (by omega) (by first | omega | (simp; omega)) _ rfl ?_; intro g6 cp6 w6 hown6 hgrow6 hat6 hlt6; have HV6 := vOnR (wb := w3) hgrow6 (by first | exact (below_drewN (Below.refl _ _) 1).alloc (by simp) _ | exact (Below.refl _ _).alloc (by simp) _); obtain ⟨t1', t2'⟩ := HS3.out.pushN (z := z) (V' := _) (w6 := w6) (g6 := g6) (cp6 := cp6) HV6.out hown6 hgrow6 hat6; have s2 := blkc t1' 2; have sf := blkf t1' 2; have HT6 := hidd t2'; clear t1' t2' hown6 hgrow6 hat6 hlt6)
                  | (refine step_callR1 rfl 48 (.tmp 62) _ rfl (.pointer (some ⟨B, 0, none⟩)) (by first | rfl | simp [Act.eval, Act.put]) (Tryd.call48 _ _) (fun r' w' => ∃ (z : Int) (q5 : List UInt8) (bd5 : Bool), r' = .int .i64 z ∧ ((bd5 = true ∧ rdN 2000000000000 rr = none) ∨ (bd5 = false ∧ ∃ v, rdN 2000000000000 rr = some (v, q5) ∧ z = sgn v)) ∧ E2 rb ro rc rs w0 W w' B B0 B1 B2 id f va vt (.slice aX nz.length cX) V xs tx nz q5 bd5) ((HT2.out _ (by first | exact below_drewN (Below.refl _ _) 1 | exact Below.refl _ _)).mono (by rintro e w3 ⟨z, q5, bd5, rfl, hf3, hr3, hrl3⟩; exact ⟨_, rfl, z, q5, bd5, rfl, hrl3, (HS.out.below (by first | exact below_drewN (Below.refl _ _) 1 | exact Below.refl _ _)).call hr3 hf3⟩)) ?_; rintro r' w3 ⟨z, q5, bd5, rfl, hrl3, hS3⟩; have HS3 := hidd hS3; have HRl3 := hidd hrl3; have b3 := blkc HS3.out.vbx 2; have HO3 := hidd HS3.out.rn; have hB3 : B2 < w3.heap.size := HS3.out.lt; clear hS3 hrl3))
                all_goals
                  have HNx : Hid (Rel bd5 (rdV r = contN f tx (apN (nz ++ [z]) (rdZs N3 q5))) (rdV r = none)) := by
                    rcases HRl3.out with ⟨rfl, h⟩ | ⟨rfl, y, h, rfl⟩
                    · exact Or.inr ⟨rfl, HVv.out.trans (by rw [apN_no h]; rfl)⟩
                    · exact Or.inl ⟨rfl, HVv.out.trans (by rw [apN_step h])⟩
                  go_wp2_with fail
                  go_roundw
                  case rel => exact ⟨N3, _, nz ++ [z], q5, bd5, by have := HN3.out; go_num, by rw [List.length_append]; have := HNl.out; have := HN3.out; simp; omega, HNx.out, HT6.out⟩
                  case measure => first | (simp [intOf]; done) | (simp [intOf]; omega)
              · go_upto_region 11 with fail
                go_cut [57] (fun cv wy => cv = .bool false ∧ wy = wr)
                case first =>
                  by_cases hi0 : 0 < i3
                  · have hiz3 : (i3 : Int) > 0 := by omega
                    obtain rfl : bd = true := by
                      cases bd with
                      | true => rfl
                      | false => exact absurd ⟨hi0, rfl⟩ hgo
                    go_wp2_with fail
                    go_meet
                    exact ⟨rfl, rfl⟩
                  · obtain rfl : i3 = 0 := by omega
                    go_wp2_with fail
                    go_meet
                    exact ⟨rfl, rfl⟩
                case rest =>
                  obtain ⟨rfl, hww⟩ := hcut
                  obtain rfl := hww.symm
                  clear hww fl
                  have HRn : Hid (Rel bd (rdD r0 = glD id (V ++ [(f, tx, nz)]) (rdVs N1 rr)) (rdD r0 = none)) := by
                    rcases HV.out with ⟨rfl, h⟩ | ⟨rfl, h⟩
                    · obtain rfl : i3 = 0 := Classical.byContradiction fun h0 => hgo ⟨by omega, rfl⟩
                      rw [apN_end] at h
                      exact Or.inl ⟨rfl, HGv.out.trans (glD_step h)⟩
                    · exact Or.inr ⟨rfl, HGv.out.trans (glD_no h)⟩
                  clear hgo HV
                  obtain ⟨aA, cA, rfl⟩ := own_formR HS.out.ans.row
                  obtain ⟨i1, hi1, hy0, hy1, hy2⟩ := info_parts Tryd.infoValR
                  have hVn : V.length ≤ 4096 := by have := HVl.out; omega
                  have b1 := blkc HS.out.box 1
                  have v0 := blkc HS.out.vbx 0
                  have v1 := blkc HS.out.vbx 1
                  have v2 := blkc HS.out.vbx 2
                  simp only [List.getElem?_toArray, List.getElem?_cons_zero, List.getElem?_cons_succ] at b1 v0 v1 v2
                  have HOV := hidd HS.out.ans.row
                  have hl2 := HS.out.lt
                  have hbb2 := HS.out.b2
                  obtain ⟨aT, cT, rfl⟩ := own_formR HS.out.rt
                  go_wp2_with (at_builtin; refine wpList_append_lies _ rfl (.tmp 68) (.tmp 70) 32 rfl (B1 + 1) 64 i1 (.agg #[.string ⟨#[]⟩, .slice none 0 0, .slice none 0 0]) 3 64 Tryd.underlying32 hi1 hy0 hy1 hy2 rfl (by decide) (.slice aA V.length cA) V.length xs rfl (HOV.out.alloc _) ⟨wr.heap.size, 0, none⟩ 1 1 [.string ⟨f.toArray⟩, .slice aT tx.length cT, .slice aX nz.length cX] rfl rfl (World.news_of_block (heap_alloc_new wr _)) (by intro u' hu'; simp at hu'; rcases hu' with rfl | rfl | rfl <;> rfl) (by decide) (by unfold maxLen; omega) (by omega) (by first | omega | (simp; omega)) _ rfl ?_)
                  intro g6 cp6 w6 hown6 hgrow6 hat6 hlt6
                  obtain ⟨t1', t2'⟩ := HS.out.close (V' := wr.alloc _) (w6 := w6) (g6 := g6) (cp6 := cp6) ((Below.refl _ _).alloc (Nat.le_refl _) _) hown6 hgrow6 (hat6.imp (fun e => e) (fun e => by rw [e]; simp)) hlt6
                  have s2 := blkc t1' 1
                  have sf := blkf t1' 1
                  simp only [List.getElem?_toArray, List.getElem?_cons_zero, List.getElem?_cons_succ] at s2
                  have HT6 := hidd t2'
                  clear t1' t2' hown6 hgrow6 hat6 hlt6 b1 v0 v1 v2
                  go_wp2_with fail
                  go_roundw
                  case rel => exact ⟨N1, _, V ++ [(f, tx, nz)], _, rr, bd, by have := HN1.out; go_num, by rw [List.length_append]; have := HVl.out; have := HN1.out; simp; omega, HRn.out, HT6.out⟩
                  case measure => first | (simp [intOf]; done) | (simp [intOf]; omega)
    · go_upto_region 3 with fail
      go_cut [21] (fun cv wy => cv = .bool false ∧ wy = wr)
      case first =>
        by_cases hi0 : 0 < i
        · have hiz : (i : Int) > 0 := by omega
          obtain rfl : bd = true := by
            cases bd with
            | true => rfl
            | false => exact absurd ⟨hi0, rfl⟩ hgo
          go_wp2_with fail
          go_meet
          exact ⟨rfl, rfl⟩
        · obtain rfl : i = 0 := by omega
          go_wp2_with fail
          go_meet
          exact ⟨rfl, rfl⟩
      case rest =>
        obtain ⟨rfl, hww⟩ := hcut
        obtain rfl := hww.symm
        clear hww fl
        have HEnd : Hid (Rel bd (rdD r0 = some ((id, V), r)) (rdD r0 = none)) := by
          rcases HG.out with ⟨rfl, h⟩ | ⟨rfl, h⟩
          · obtain rfl : i = 0 := Classical.byContradiction fun h0 => hgo ⟨by omega, rfl⟩
            rw [glD_end] at h
            exact Or.inl ⟨rfl, h⟩
          · exact Or.inr ⟨rfl, h⟩
        clear hgo
        obtain ⟨aA, cA, rfl⟩ := own_formR HD.out.ans.row
        have x0 := blkc HD.out.res 0
        have x1 := blkc HD.out.res 1
        have f0 := blkf HD.out.res 0
        have f1 := blkf HD.out.res 1
        have y0 := blkc HD.out.box 0
        have y1 := blkc HD.out.box 1
        have hb0 := HD.out.b0
        have hb1 := HD.out.b1
        have HX := hidd (blk_set2 (x := .string ⟨id.toArray⟩) (y := .slice aA V.length cA) HD.out.res)
        have z0 := blkc HX.out 0
        have z1 := blkc HX.out 1
        have hwr : B1 < wr.heap.size := HD.out.lt
        go_wp2_with fail
        refine bodyPost_ret (v := .agg #[.string ⟨id.toArray⟩, .slice aA V.length cA]) (by simp [results, Tryd.results31, go_sem, z0, z1]) rfl ?_
        refine ⟨id, V, _, xs, r, bd, B1 + 1, rfl, by have := HB0.out; omega, ?_, ?_, ?_, HEnd.out⟩
        · refine (HD.out.ans.keep fun b h1 h2 => ?_).mono (by simp)
          rw [heap_set_other _ B0 1 _ b (by omega), heap_set_other wr B0 0 _ b (by omega)]
        · refine HD.out.rdr.keep ((HD.out.rdr.old.setCell (p := ⟨B0, 0, none⟩) ?_ _).setCell (p := ⟨B0, 1, none⟩) ?_ _) ((heap_set_other _ B0 1 _ B (by omega)).trans (heap_set_other wr B0 0 _ B (by omega)))
          · have := HD.out.rdr.new; dsimp only; omega
          · have := HD.out.rdr.new; dsimp only; omega
        · have hB := HB0.out
          refine ⟨by simp; omega, fun b hb hne => ?_⟩
          rw [heap_set_other _ B0 1 _ b (by omega), heap_set_other wr B0 0 _ b (by omega)]
          exact HD.out.fr b (by omega) hne
end Go.Proofs.YtefhmbnhhkgifaaDoor
