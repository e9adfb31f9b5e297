import Derived.Test.YtjndogajdlophaaReadDictJ17
import Derived.Deep.RegionLaw
import Derived.Deep.AppendLies
namespace Go.Proofs.Ytjndogajdlophaa
open Go Go.RowKit
set_option linter.unusedVariables false
set_option maxRecDepth 100000

/-- What l04Parse does. -/
def ParsePost (w : World) (bs : List UInt8) (e : Ending) (w' : World) : Prop :=
  Below w.heap.size w w' ∧ ((rdP bs = none ∧ ∃ a n c, e = .returned (.tuple #[.agg #[.int .i64 0, .slice a n c], .bool false])) ∨ ∃ S a c, rdP bs = some S ∧ e = .returned (.tuple #[.agg #[.int .i64 0, .slice a S.length c], .bool true]) ∧ HoldS w' a S)
theorem PoAt.ret {w W : World} {hi : Nat} {a : Option Addr} {c n : Nat} {S : List St} {xs : List Value} (h : PoAt w W hi (.slice a n c) S xs) :
    Below w.heap.size w ((W.setCell ⟨w.heap.size, 0, none⟩ (.int .i64 0)).setCell ⟨w.heap.size, 1, none⟩ (.slice a n c)) ∧ ((W.setCell ⟨w.heap.size, 0, none⟩ (.int .i64 0)).setCell ⟨w.heap.size, 1, none⟩ (.slice a n c)).heap[w.heap.size]? = some (.cells #[.int .i64 0, .slice a n c] 30) ∧ n = S.length ∧ HoldS ((W.setCell ⟨w.heap.size, 0, none⟩ (.int .i64 0)).setCell ⟨w.heap.size, 1, none⟩ (.slice a n c)) a S := by
  refine ⟨(h.old.setCell (p := ⟨w.heap.size, 0, none⟩) (Nat.le_refl _) _).setCell (p := ⟨w.heap.size, 1, none⟩) (Nat.le_refl _) _, blk_set2 h.res, ?_, ?_⟩
  · obtain ⟨a', c', e, _⟩ := h.sts.hold
    cases e
    rfl
  · have hk : StsAt ((W.setCell ⟨w.heap.size, 0, none⟩ (.int .i64 0)).setCell ⟨w.heap.size, 1, none⟩ (.slice a n c)) (w.heap.size + 2) hi (.slice a n c) S xs :=
      h.sts.keep (by simp) fun b h1 h2 => (heap_set_other _ w.heap.size 1 _ b (by omega)).trans (heap_set_other W w.heap.size 0 _ b (by omega))
    obtain ⟨a', c', e, hh⟩ := hk.hold
    cases e
    exact hh
theorem drop_at {bs : List UInt8} {k : Nat} (h : k < bs.length) : bs.drop k = bs.getD k 0 :: bs.drop (k + 1) := by
  rw [List.drop_eq_getElem_cons h, List.getD_eq_getElem?_getD, List.getElem?_eq_getElem h]; rfl
set_option maxHeartbeats 8000000 in
theorem parse_any (b off cap : Nat) (bs : List UInt8) (w : World) (hl : bs.length ≤ 1048576) (hc : BytesAt w b off bs) (hb : b < w.heap.size) :
    Calls Try.prog 33 #[.slice (some ⟨b, off, none⟩) bs.length cap] w (ParsePost w bs) := by
  have Hc := hidd hc
  clear hc
  have HG := hidd (fun (W : World) (hW : Below w.heap.size w W) (k : Nat) (hk : k ≤ bs.length) => specGet_any b off cap k bs W hl hk (fun t ht => (hW.cell (p := ⟨b, off + t, none⟩) hb).trans (Hc.out t ht)))
  obtain ⟨W0, hW0⟩ : ∃ W0, (w.alloc (.cells #[.int .i64 0, .slice none 0 0] 30)).alloc (.cells #[.int .i64 0, .slice none 0 0] 30) = W0 := ⟨_, rfl⟩
  have HB0 : Hid (Below w.heap.size w W0) := by
    show Below _ _ _
    rw [← hW0]
    exact ((Below.refl _ _).alloc (Nat.le_refl _) _).alloc (by simp) _
  have h2 := box_two w (.cells #[.int .i64 0, .slice none 0 0] 30) (.cells #[.int .i64 0, .slice none 0 0] 30)
  have hz0 : W0.heap.size = w.heap.size + 2 := by rw [← hW0]; simp
  rw [hW0] at h2
  have HP0 : Hid (PoAt w W0 W0.heap.size (.slice none 0 0) [] []) := ⟨HB0.out, h2.1, h2.2, StsAt.nil W0 _⟩
  clear h2
  have HG0 := hidd (HG.out W0 HB0.out 0 (Nat.zero_le _))
  have HW0 := hidd hW0
  clear hW0 hz0 HB0
  go_enter Try.func33, Try.ntmps33
  go_wp2_with fail
  rw [HW0.out]
  refine HG0.out.mono ?_
  rintro e w1 ⟨⟨m1, hw1⟩, hq⟩
  have HP1 : Hid (PoAt w w1 W0.heap.size (.slice none 0 0) [] []) := by
    show PoAt _ _ _ _ _ _
    rw [hw1]; exact HP0.out.below (below_drewN (Below.refl _ _) m1)
  clear hw1 HG0 HW0 HP0
  rcases hq with ⟨hq, x, y, rfl⟩ | ⟨v, s, hq, rfl⟩
  · have HN : Hid (rdP bs = none) := by show _ = _; rw [List.drop_zero] at hq; rw [rdP, hq]; rfl
    clear hq
    have x0 := blkc HP1.out.res 0
    have x1 := blkc HP1.out.res 1
    have y0 := blkc HP1.out.dbx 0
    have y1 := blkc HP1.out.dbx 1
    have f0 := blkf HP1.out.res 0
    have f1 := blkf HP1.out.res 1
    have HR := hidd HP1.out.ret
    have z0 := blkc HR.out.2.1 0
    have z1 := blkc HR.out.2.1 1
    go_wp2_with fail
    refine bodyPost_ret (v := .tuple #[.agg #[.int .i64 0, .slice none 0 0], .bool false]) (by simp [results, Try.results33, go_sem, z0, z1]) rfl ?_
    exact ⟨HR.out.1, .inl ⟨HN.out, _, _, _, rfl⟩⟩
  · rw [List.drop_zero] at hq
    obtain ⟨hs, hvb⟩ := getL_fit hq
    by_cases hv : 1 ≤ v ∧ v ≤ 16384
    · have hv1 : ¬ (v : Int) < 1 := by omega
      have hv2 : ¬ (v : Int) > 16384 := by omega
      have HRd : Hid (rdP bs = (rdSts v v (bs.drop s)).map Prod.fst) := by show _ = _; rw [rdP, hq, Option.bind_some, if_pos hv]
      have hsz : ((0 : Nat) : Int) + (s : Int) = (s : Int) := by omega
      clear hq
      dsimp only
      go_wp2_with fail
      go_loopw [6, 8] (fun av iv wr => ∃ (i at_ hi : Nat) (vv : Value) (S : List St) (xs : List Value), i ≤ v ∧ S.length = i ∧ at_ ≤ bs.length ∧ av = .int .i64 (at_ : Int) ∧ iv = .int .i64 (i : Int) ∧ PoAt w wr hi vv S xs ∧ rdSts v v (bs.drop s) = rdO S (rdSts v (v - i) (bs.drop at_))) (fun _ iv _ => v - (intOf iv).toNat)
      case atStart => exact ⟨0, s, _, _, [], [], Nat.zero_le _, rfl, hs, by go_num, rfl, HP1.out, by rw [rdO_nil]; rfl⟩
      case round =>
        clear HP1
        obtain ⟨i, at_, hi, vv, S, xs, hi1, hiS, hat, rfl, rfl, hpo, hrd⟩ := hrel
        subst hiS
        obtain ⟨aV, cV, rfl⟩ := own_form hpo.sts.row
        have HP := hidd hpo
        have HD := hidd hrd
        clear hpo hrd
        by_cases hlt : S.length < v
        · have hltz : (S.length : Int) < (v : Int) := by omega
          have HGi := hidd (HG.out wr HP.out.old at_ hat)
          have HNone : Hid (rdSt v (bs.drop at_) = none → rdP bs = none) := fun h => by
            rw [HRd.out, HD.out, show v - S.length = (v - S.length - 1) + 1 by omega, rdSts_stop h]; rfl
          go_wp2_with fail
          refine HGi.out.mono ?_
          rintro e w1 ⟨⟨m1, hw1⟩, hq⟩
          have HP1 : Hid (PoAt w w1 hi (.slice aV S.length cV) S xs) := by
            show PoAt _ _ _ _ _ _
            rw [hw1]; exact HP.out.below (below_drewN (Below.refl _ _) m1)
          clear hw1 HGi HP
          rcases hq with ⟨hq, x, y, rfl⟩ | ⟨m, z, hq, rfl⟩
          · have HN : Hid (rdP bs = none) := HNone.out (rdSt_bad fun v' s' h => by rw [hq] at h; cases h)
            clear hq
            have x0 := blkc HP1.out.res 0
            have x1 := blkc HP1.out.res 1
            have y0 := blkc HP1.out.dbx 0
            have y1 := blkc HP1.out.dbx 1
            have f0 := blkf HP1.out.res 0
            have f1 := blkf HP1.out.res 1
            have HR := hidd HP1.out.ret
            have z0 := blkc HR.out.2.1 0
            have z1 := blkc HR.out.2.1 1
            go_wp2_with fail
            refine bodyPost_ret (v := .tuple #[.agg #[.int .i64 0, .slice aV S.length cV], .bool false]) (by simp [results, Try.results33, go_sem, z0, z1]) rfl ?_
            exact ⟨HR.out.1, .inl ⟨HN.out, _, _, _, rfl⟩⟩
          · obtain ⟨hz, hmb⟩ := getL_fit hq
            rw [List.length_drop] at hz
            have haz : (at_ : Int) + (z : Int) = ((at_ + z : Nat) : Int) := by omega
            rw [haz]
            by_cases hm : m ≤ 513
            · have hmz : ¬ (m : Int) > 513 := by omega
              have HSt : Hid (rdSt v (bs.drop at_) = (rdArcs v (m / 2) (bs.drop (at_ + z))).map fun q => ((m % 2 == 1, q.1), q.2)) := by
                show _ = _
                rw [rdSt_arcs hq hm, List.drop_drop]
              clear hq haz
              have HBst := hidd ((Below.refl w1.heap.size w1).alloc (Nat.le_refl _) (.cells #[.bool ((m : Int) % 2 == 1), .slice none 0 0] 104))
              have hfb : ((m : Int) % 2 == 1) = (m % 2 == 1) := by
                have : (m : Int) % 2 = ((m % 2 : Nat) : Int) := by omega
                rw [this]
                rcases Nat.mod_two_eq_zero_or_one m with h | h <;> rw [h] <;> rfl
              have hlt2 : w.heap.size + 2 ≤ w1.heap.size := by have := (Array.getElem?_eq_some_iff.1 HP1.out.dbx).1; omega
              have HI0 : Hid (PiAt w (w1.alloc (.cells #[.bool ((m : Int) % 2 == 1), .slice none 0 0] 104)) hi (.slice aV S.length cV) S xs w1.heap.size ((m : Int) % 2 == 1) (.slice none 0 0) []) := ⟨HP1.out.below HBst.out, HP1.out.sts.le, hlt2, heap_alloc_new w1 _, World.ownsRow_nil _ _ _ _⟩
              have HNone2 : Hid (rdArcs v (m / 2) (bs.drop (at_ + z)) = none → rdP bs = none) := fun h => HNone.out (by rw [HSt.out, h]; rfl)
              rw [← hfb] at HSt
              clear HP1 HBst hfb HNone
              dsimp only
              go_wp2_with fail
              generalize ((m : Int) % 2 == 1) = fb at *
              obtain ⟨B, hB⟩ : ∃ B, w1.heap.size = B := ⟨_, rfl⟩
              rw [hB] at HI0 hlt2
              rw [hB]
              generalize w1.alloc (.cells #[.bool fb, .slice none 0 0] 104) = wi0 at *
              clear hB
              go_loopw [6, 13] (fun av kv wi => ∃ (k at2 : Nat) (va : Value) (l : List Ar), k ≤ m / 2 ∧ l.length = k ∧ at2 ≤ bs.length ∧ av = .int .i64 (at2 : Int) ∧ kv = .int .i64 (k : Int) ∧ PiAt w wi hi (.slice aV S.length cV) S xs B fb va l ∧ rdArcs v (m / 2) (bs.drop (at_ + z)) = rdA l (rdArcs v (m / 2 - k) (bs.drop at2))) (fun _ kv _ => m / 2 - (intOf kv).toNat)
              case atStart => exact ⟨0, at_ + z, _, [], Nat.zero_le _, rfl, by omega, by go_num, rfl, HI0.out, by rw [rdA_nil]; rfl⟩
              case round =>
                clear HI0
                obtain ⟨k, at2, va, l, hk, hkl, hat2, rfl, rfl, hpi, hra⟩ := hrel
                subst hkl
                obtain ⟨aA, cA, rfl⟩ := own_form hpi.row
                have HI := hidd hpi
                have HA := hidd hra
                clear hpi hra
                by_cases hkm : l.length < m / 2
                · have hkz : (l.length : Int) < (m : Int) / 2 := by omega
                  by_cases hav : at2 < bs.length
                  · have havz : ¬ (at2 : Int) ≥ (bs.length : Int) := by omega
                    have HDr := hidd (drop_at hav)
                    have g1 := Hc.out at2 hav
                    have hbl := UInt8.toNat_lt (bs.getD at2 0)
                    generalize hbb : bs.getD at2 0 = bt at *
                    clear hbb
                    have HGk := hidd (HG.out wr HI.out.out.old (at2 + 1) (by omega))
                    rw [show ((at2 + 1 : Nat) : Int) = (at2 : Int) + 1 by omega] at HGk
                    have HBad : Hid ((∀ v' s', getL (bs.drop (at2 + 1)) = some (v', s') → ¬ v' < v) → rdP bs = none) := fun h => HNone2.out (by
                      rw [HA.out, HDr.out, show m / 2 - l.length = (m / 2 - l.length - 1) + 1 by omega]
                      exact rdArcs_bad h)
                    go_wp2_with fail
                    refine HGk.out.mono ?_
                    rintro e w2 ⟨⟨m2, hw2⟩, hq2⟩
                    have HB2 : Hid (Below wr.heap.size wr w2) := by show Below _ _ _; rw [hw2]; exact below_drewN (Below.refl _ _) m2
                    have HI2 := hidd (HI.out.below HB2.out)
                    have g2 := (HB2.out.cell (p := ⟨b, off + at2, none⟩) (Nat.lt_of_lt_of_le hb HI.out.out.old.size)).trans ((HI.out.out.old.cell (p := ⟨b, off + at2, none⟩) hb).trans g1)
                    clear hw2 HGk HI g1
                    rcases hq2 with ⟨hq2, x, y, rfl⟩ | ⟨tv, z2, hq2, rfl⟩
                    · have HN : Hid (rdP bs = none) := HBad.out (fun v' s' h => by rw [hq2] at h; cases h)
                      have HIo := hidd HI2.out.out
                      clear hq2 HA HD HRd HG HSt HI2 HNone2 HBad HDr
                      dsimp only
                      have x0 := blkc HIo.out.res 0
                      have x1 := blkc HIo.out.res 1
                      have y0 := blkc HIo.out.dbx 0
                      have y1 := blkc HIo.out.dbx 1
                      have f0 := blkf HIo.out.res 0
                      have f1 := blkf HIo.out.res 1
                      have HR := hidd HIo.out.ret
                      have z0 := blkc HR.out.2.1 0
                      have z1 := blkc HR.out.2.1 1
                      go_wp2_with fail
                      refine bodyPost_ret (v := .tuple #[.agg #[.int .i64 0, .slice aV S.length cV], .bool false]) (by simp [results, Try.results33, go_sem, z0, z1]) rfl ?_
                      exact ⟨HR.out.1, .inl ⟨HN.out, _, _, _, rfl⟩⟩
                    · obtain ⟨hz2, htb⟩ := getL_fit hq2
                      rw [List.length_drop] at hz2
                      by_cases hto : tv < v
                      · have htoz : ¬ (tv : Int) ≥ (v : Int) := by omega
                        have HStep : Hid (rdArcs v (m / 2) (bs.drop (at_ + z)) = rdA (l ++ [((bt.toNat : Int), (tv : Int), 0)]) (rdArcs v (m / 2 - (l.length + 1)) (bs.drop (at2 + 1 + z2)))) := by
                          show _ = _
                          rw [HA.out, HDr.out, show m / 2 - l.length = (m / 2 - (l.length + 1)) + 1 by omega, rdArcs_step hq2 hto, List.drop_drop]
                        clear hq2 HA HBad HDr
                        obtain ⟨i1, hi1, hy0, hy1, hy2⟩ := info_parts Try.infoArc
                        have b1 := blkc HI2.out.box 1
                        have HO := hidd HI2.out.row
                        have hB2 : B < w2.heap.size := (Array.getElem?_eq_some_iff.1 HI2.out.box).1
                        have hav2 : (at2 : Int) < (bs.length : Int) := by omega
                        have hcv : IntKind.i64.wrap (bt.toNat : Int) = (bt.toNat : Int) := IntWalk.i64_in _ ⟨by omega, by omega⟩
                        have HPu := hidd (fun V w6 g6 cp6 => HI2.out.push (V := V) (w6 := w6) (g6 := g6) (cp6 := cp6) (p := ((bt.toNat : Int), (tv : Int), 0)))
                        dsimp only
                        go_upto_region 21 with fail
                        clear htoz htb hcv havz hkz hmz hltz
                        have hcv : IntKind.i64.wrap (bt.toNat : Int) = (bt.toNat : Int) := IntWalk.i64_in _ ⟨by omega, by omega⟩
                        go_cut [96] from 86 to 98 (fun _ wy => ∃ va', PiAt w wy hi (.slice aV S.length cV) S xs B fb va' (l ++ [((bt.toNat : Int), (tv : Int), 0)]))
                        case first =>
                          go_region_law (refine step_append_lies _ rfl (.tmp 87) (.tmp 95) 102 rfl (B + 1) 110 i1 (.agg #[.int .i64 0, .int .i64 0, .int .i64 0]) 3 24 Try.underlying102 hi1 hy0 hy1 hy2 rfl (by decide) (.slice aA l.length cA) l.length (aC l) (by simp [Act.eval]) (by first | exact HO.out.drew.alloc _ | exact HO.out.alloc _) ⟨w2.heap.size, 0, none⟩ 1 1 [.int .i64 (bt.toNat : Int), .int .i64 (tv : Int), .int .i64 0] (by simp [Act.eval]) rfl (World.news_of_block (by first | exact heap_alloc_new w2 _ | exact heap_alloc_new w2.drew _)) (by intro u' hu'; simp at hu'; rcases hu' with rfl | rfl | rfl <;> rfl) (by omega) (by unfold maxLen; omega) (by omega) (by first | omega | (simp; omega)) _ rfl ?_; intro g6 cp6 w6 hown6 hgrow6 hat6 hlt6; have HV := vOn (wb := w2) hgrow6 (by first | exact (below_drewN (Below.refl _ _) 1).alloc (by simp) _ | exact (Below.refl _ _).alloc (by simp) _); obtain ⟨t1, t2⟩ := HPu.out _ w6 g6 cp6 HV.out hown6 hgrow6 hat6; have s2 := blkc t1 1; have sf := blkf t1 1; have HT2 := hidd t2; clear t1 t2 hown6 hgrow6 hat6 hlt6)
                          all_goals
                            go_wp2_with fail
                            go_meet
                            exact ⟨_, HT2.out⟩
                        case rest =>
                          obtain ⟨va', hpi'⟩ := hcut
                          have HPi := hidd hpi'
                          clear hpi' HI2 HO HPu
                          go_wp2_with fail
                          go_roundw
                          case rel => exact ⟨l.length + 1, at2 + 1 + z2, va', _, by omega, by simp, by omega, by go_num, by go_num, HPi.out, HStep.out⟩
                          case measure => simp [intOf]; omega
                      · have htoz : (tv : Int) ≥ (v : Int) := by omega
                        have HN : Hid (rdP bs = none) := HBad.out (fun v' s' h => by rw [hq2] at h; cases h; exact hto)
                        have HIo := hidd HI2.out.out
                        clear hq2 HA HD HRd HG HSt HI2 HNone2 HBad HDr hto
                        dsimp only
                        have x0 := blkc HIo.out.res 0
                        have x1 := blkc HIo.out.res 1
                        have y0 := blkc HIo.out.dbx 0
                        have y1 := blkc HIo.out.dbx 1
                        have f0 := blkf HIo.out.res 0
                        have f1 := blkf HIo.out.res 1
                        have HR := hidd HIo.out.ret
                        have z0 := blkc HR.out.2.1 0
                        have z1 := blkc HR.out.2.1 1
                        go_wp2_with fail
                        refine bodyPost_ret (v := .tuple #[.agg #[.int .i64 0, .slice aV S.length cV], .bool false]) (by simp [results, Try.results33, go_sem, z0, z1]) rfl ?_
                        exact ⟨HR.out.1, .inl ⟨HN.out, _, _, _, rfl⟩⟩
                  · have havz : (at2 : Int) ≥ (bs.length : Int) := by omega
                    have HN : Hid (rdP bs = none) := HNone2.out (by
                      rw [HA.out, List.drop_eq_nil_of_le (by omega), show m / 2 - l.length = (m / 2 - l.length - 1) + 1 by omega]; rfl)
                    have HIo := hidd HI.out.out
                    clear HA HD HRd HG HSt HI HNone2
                    have x0 := blkc HIo.out.res 0
                    have x1 := blkc HIo.out.res 1
                    have y0 := blkc HIo.out.dbx 0
                    have y1 := blkc HIo.out.dbx 1
                    have f0 := blkf HIo.out.res 0
                    have f1 := blkf HIo.out.res 1
                    have HR := hidd HIo.out.ret
                    have z0 := blkc HR.out.2.1 0
                    have z1 := blkc HR.out.2.1 1
                    go_wp2_with fail
                    refine bodyPost_ret (v := .tuple #[.agg #[.int .i64 0, .slice aV S.length cV], .bool false]) (by simp [results, Try.results33, go_sem, z0, z1]) rfl ?_
                    exact ⟨HR.out.1, .inl ⟨HN.out, _, _, _, rfl⟩⟩
                · have hkz : ¬ (l.length : Int) < (m : Int) / 2 := by omega
                  have hlm : m / 2 = l.length := by omega
                  have HRs : Hid (rdSts v v (bs.drop s) = rdO (S ++ [(fb, l)]) (rdSts v (v - (S.length + 1)) (bs.drop at2))) := by
                    show _ = _
                    have e1 : rdSt v (bs.drop at_) = some ((fb, l), bs.drop at2) := by
                      rw [HSt.out, HA.out, hlm, Nat.sub_self, rdArcs]
                      simp [rdA]
                    rw [HD.out, show v - S.length = (v - (S.length + 1)) + 1 by omega, rdSts_step e1]
                  clear hlm HA HSt HD HNone2
                  obtain ⟨i1, hi1, hy0, hy1, hy2⟩ := info_parts Try.infoSt
                  have y1 := blkc HI.out.out.dbx 1
                  have y2 := blkf HI.out.out.dbx 1
                  have b0 := blkc HI.out.box 0
                  have b1 := blkc HI.out.box 1
                  have HO := hidd HI.out.out.sts.row
                  have hw2 := HI.out.out.old.size
                  have hBl : B < wr.heap.size := (Array.getElem?_eq_some_iff.1 HI.out.box).1
                  go_wp2_with (at_builtin; refine wpList_append_lies _ rfl (.tmp 100) (.tmp 102) 28 rfl (w.heap.size + 2) 104 i1 (.agg #[.bool false, .slice none 0 0]) 2 32 Try.underlying28 hi1 hy0 hy1 hy2 rfl (by decide) (.slice aV S.length cV) S.length xs rfl (HO.out.alloc _) ⟨wr.heap.size, 0, none⟩ 1 1 [.bool fb, .slice aA l.length cA] rfl rfl ?e1 ?e2 (by decide) ?e3 ?e4 ?e5 _ rfl ?_)
                  case e2 => first | exact ⟨rfl, rfl⟩ | (intro u' hu'; simp at hu'; rcases hu' with rfl | rfl <;> rfl)
                  case e3 => unfold maxLen; omega
                  case e4 => omega
                  case e5 => first | omega | (simp; omega)
                  intro g6 cp6 w6 hown6 hgrow6 hat6 hlt6
                  obtain ⟨t1, t2⟩ := HI.out.next ((Below.refl _ _).alloc (Nat.le_refl _) _) hown6 hgrow6 (by simpa using hat6)
                  have s1 := blkc t1 1
                  have sf := blkf t1 1
                  have HT2 := hidd t2
                  clear t1 t2 hown6 hgrow6 hat6 hlt6 HI HO
                  go_wp2_with fail
                  go_roundw
                  case rel => exact ⟨S.length + 1, at2, _, _, _, _, by omega, by simp, hat2, by go_num, by go_num, HT2.out, HRs.out⟩
                  case measure => simp [intOf]; omega
            · have hmz : (m : Int) > 513 := by omega
              have HN : Hid (rdP bs = none) := HNone.out (rdSt_bad fun v' s' h => by rw [hq] at h; cases h; exact hm)
              clear hq haz HNone hm HD HRd HG
              dsimp only
              have x0 := blkc HP1.out.res 0
              have x1 := blkc HP1.out.res 1
              have y0 := blkc HP1.out.dbx 0
              have y1 := blkc HP1.out.dbx 1
              have f0 := blkf HP1.out.res 0
              have f1 := blkf HP1.out.res 1
              have HR := hidd HP1.out.ret
              have z0 := blkc HR.out.2.1 0
              have z1 := blkc HR.out.2.1 1
              go_wp2_with fail
              refine bodyPost_ret (v := .tuple #[.agg #[.int .i64 0, .slice aV S.length cV], .bool false]) (by simp [results, Try.results33, go_sem, z0, z1]) rfl ?_
              exact ⟨HR.out.1, .inl ⟨HN.out, _, _, _, rfl⟩⟩
        · have hltz : ¬ (S.length : Int) < (v : Int) := by omega
          have hvS : v = S.length := by omega
          have HN : Hid (rdP bs = some S) := by
            show _ = _
            rw [HRd.out, HD.out, hvS, Nat.sub_self, rdSts]
            simp [rdO]
          clear hvS
          have x0 := blkc HP.out.res 0
          have x1 := blkc HP.out.res 1
          have y0 := blkc HP.out.dbx 0
          have y1 := blkc HP.out.dbx 1
          have f0 := blkf HP.out.res 0
          have f1 := blkf HP.out.res 1
          have HR := hidd HP.out.ret
          have z0 := blkc HR.out.2.1 0
          have z1 := blkc HR.out.2.1 1
          go_wp2_with fail
          refine bodyPost_ret (v := .tuple #[.agg #[.int .i64 0, .slice aV S.length cV], .bool true]) (by simp [results, Try.results33, go_sem, z0, z1]) rfl ?_
          exact ⟨HR.out.1, .inr ⟨S, aV, cV, HN.out, rfl, HR.out.2.2.2⟩⟩
    · have HN : Hid (rdP bs = none) := by show _ = _; rw [rdP, hq, Option.bind_some, if_neg hv]
      clear hq
      dsimp only
      by_cases hv1 : (v : Int) < 1
      · have x0 := blkc HP1.out.res 0
        have x1 := blkc HP1.out.res 1
        have y0 := blkc HP1.out.dbx 0
        have y1 := blkc HP1.out.dbx 1
        have f0 := blkf HP1.out.res 0
        have f1 := blkf HP1.out.res 1
        have HR := hidd HP1.out.ret
        have z0 := blkc HR.out.2.1 0
        have z1 := blkc HR.out.2.1 1
        go_wp2_with fail
        refine bodyPost_ret (v := .tuple #[.agg #[.int .i64 0, .slice none 0 0], .bool false]) (by simp [results, Try.results33, go_sem, z0, z1]) rfl ?_
        exact ⟨HR.out.1, .inl ⟨HN.out, _, _, _, rfl⟩⟩
      · have hv2 : (v : Int) > 16384 := by omega
        have x0 := blkc HP1.out.res 0
        have x1 := blkc HP1.out.res 1
        have y0 := blkc HP1.out.dbx 0
        have y1 := blkc HP1.out.dbx 1
        have f0 := blkf HP1.out.res 0
        have f1 := blkf HP1.out.res 1
        have HR := hidd HP1.out.ret
        have z0 := blkc HR.out.2.1 0
        have z1 := blkc HR.out.2.1 1
        go_wp2_with fail
        refine bodyPost_ret (v := .tuple #[.agg #[.int .i64 0, .slice none 0 0], .bool false]) (by simp [results, Try.results33, go_sem, z0, z1]) rfl ?_
        exact ⟨HR.out.1, .inl ⟨HN.out, _, _, _, rfl⟩⟩
end Go.Proofs.Ytjndogajdlophaa
