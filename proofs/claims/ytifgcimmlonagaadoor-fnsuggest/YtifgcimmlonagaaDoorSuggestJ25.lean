import Derived.Test.YtifgcimmlonagaaDoorSuggestJ21
import Derived.Test.YtifgcimmlonagaaDoorSuggestJ23
import Derived.Test.YtifgcimmlonagaaDoorSuggestJ24
import Derived.Test.YtifgcimmlonagaaDoorSuggestJ20
namespace Go.Proofs.YtifgcimmlonagaaDoor
open Go Go.RowKit
set_option linter.unusedVariables false
set_option maxRecDepth 100000
set_option linter.unusedSimpArgs false

/-! spec.Suggest. -/
theorem ed_eX (t : ByteArray) (x : Tx) (d : Nat) (hd : d ≤ 2) (ht : ¬ 65536 < t.size) (hvt : validB t = true) (hrt : ¬ 200 < (runes t).length) (hvx : validB (bs x) = true) :
    (edCode t (bs x) == 0 && edVal t (bs x) == (d : Int)) = decide (eX (runes t) x = d) := by
  unfold eX
  cases hs : shortW x with
  | true =>
    have h2 : (runes (bs x)).length ≤ 200 := by unfold shortW at hs; simpa using hs
    have h3 : encs (runes (bs x)) = x := by
      have := text_back (bs x) hvx
      have h4 := congrArg (fun x : ByteArray => x.data.toList) this
      simpa [bs] using h4
    have h5 : x.length ≤ 800 := by
      have := encs_le (runes (bs x))
      rw [h3] at this
      omega
    obtain ⟨e1, e2⟩ := edCode_ok (s := t) (t := bs x) ht (by rw [bs_size]; omega) hvt hvx hrt (by omega)
    rw [e1, e2, if_pos rfl]
    simp only [BEq.rfl, Bool.true_and]
    rw [Bool.eq_iff_iff, beq_iff_eq, decide_eq_true_eq]
    omega
  | false =>
    have h2 : ¬ (runes (bs x)).length ≤ 200 := by unfold shortW at hs; simpa using hs
    have h4 : edCode t (bs x) ≠ 0 := by
      unfold edCode
      by_cases h6 : 65536 < t.size ∨ 65536 < (bs x).size
      · rw [if_pos h6]; decide
      · rw [if_neg h6, if_neg (by simp [hvt]), if_neg (by simp [hvx]), if_pos (.inr (by omega))]; decide
    rw [beq_eq_false_iff_ne.2 h4, Bool.false_and, if_neg (by simp)]
    symm
    rw [decide_eq_false_iff_not]
    omega
set_option maxHeartbeats 16000000 in
theorem specSuggest_any (L : List Tx) (s : Option Addr) (cap : Nat) (t : ByteArray) (most : Int) (w : World) (hl : L.length ≤ 1048576) (hcl : L.length ≤ cap) (hz : ∀ x ∈ L, x.length ≤ 1048576) (ht : t.size ≤ 1048576) (hS : TmA w s L) :
    Calls Tryd.prog 6 #[.slice s L.length cap, .string t, .int .i64 most] w fun e w' => ∃ v, e = .returned (.tuple #[v, .int .i64 (sgCode L t most)]) ∧ w'.ownsRow w.heap.size 9 1 v (sgList L t most).length (tmCells (sgList L t most)) ∧ Below w.heap.size w w' := by
  obtain ⟨i0, hi0, hz0, hz1', hz2⟩ := info_parts Tryd.infoStrX
  have HS := hidd hS
  have HZ := hidd hz
  clear hS hz
  have bad : ∀ c : Int, sgCode L t most = c → c ≠ 0 → sgList L t most = [] := fun c h1 h2 => by rw [sgList, if_neg (by rw [h1]; exact h2)]
  by_cases h1 : 4096 < L.length
  · have HC : Hid (sgCode L t most = 2) := by show _ = _; rw [sgCode, if_pos h1]
    have HL := hidd (bad 2 HC.out (by omega))
    have hz1 : (L.length : Int) > 4096 := by omega
    clear bad
    go_enter Tryd.func6, Tryd.ntmps6
    go_wp2_with fail
    go_ret2
    rw [HC.out, HL.out]
    exact ⟨_, rfl, own_empty _ _, (Below.refl _ _).alloc (Nat.le_refl _) _⟩
  have hz1 : ¬ (L.length : Int) > 4096 := by omega
  by_cases ht2 : 65536 < t.size
  · have HC : Hid (sgCode L t most = 2) := by
      have : decCode t = 2 := by rw [decCode, if_pos ht2]
      show _ = _
      rw [sgCode, if_neg h1, this, if_pos (by decide)]
    have HL := hidd (bad 2 HC.out (by omega))
    have hz2' : (t.size : Int) > 65536 := by omega
    clear bad
    go_enter Tryd.func6, Tryd.ntmps6
    go_wp2_with fail
    go_ret2
    rw [HC.out, HL.out]
    exact ⟨_, rfl, own_empty _ _, (Below.refl _ _).alloc (Nat.le_refl _) _⟩
  have hz2' : ¬ (t.size : Int) > 65536 := by omega
  have HDe := hidd (decode_any t w ht)
  obtain ⟨q, hq⟩ : ∃ q, validB t = q := ⟨_, rfl⟩
  rw [hq] at HDe
  cases q with
  | false =>
    have hdc : decCode t = 3 := by rw [decCode, if_neg ht2, if_neg (by simp [hq])]
    have HC : Hid (sgCode L t most = 3) := by show _ = _; rw [sgCode, if_neg h1, hdc, if_pos (by decide)]
    have HL := hidd (bad 3 HC.out (by omega))
    clear bad hdc hq
    go_enter Tryd.func6, Tryd.ntmps6
    go_wp2_with fail
    refine HDe.out.mono ?_
    rintro e w1 ⟨v0, rfl, hown, hb1⟩
    have HB1 := hidd hb1
    clear hown hb1
    go_wp2_with fail
    go_ret2
    rw [HC.out, HL.out]
    exact ⟨_, rfl, own_mono (own_empty _ _) HB1.out.size, HB1.out.alloc HB1.out.size _⟩
  | true =>
    have hdl : decL t = runes t := by rw [decL, if_pos hq]
    have hdc : decCode t = 0 := by rw [decCode, if_neg ht2, if_pos hq]
    rw [hdl] at HDe
    have Hvt := hidd hq
    have Hdc := hidd hdc
    have Hbad := hidd bad
    have hrl := runes_le t
    obtain ⟨a, ha⟩ : ∃ a, runes t = a := ⟨_, rfl⟩
    rw [ha] at HDe hrl
    have Ha := hidd ha
    clear bad hdl hdc hq ha
    go_enter Tryd.func6, Tryd.ntmps6
    go_wp2_with fail
    refine HDe.out.mono ?_
    rintro e w1 ⟨v0, rfl, hown, hb1⟩
    have HB1 := hidd hb1
    obtain ⟨sa, ca, rfl, hca, -⟩ := own_slice hown
    clear hown hb1 HDe
    go_wp2_with fail
    go_loopw [10] (fun iv wr => ∃ i : Nat, i ≤ L.length ∧ iv = .int .i64 (i : Int) ∧ ((L.take i).all fun x => validB (bs x)) = true ∧ Below w.heap.size w wr) (fun iv _ => L.length - (intOf iv).toNat)
    case atStart => exact ⟨0, Nat.zero_le _, rfl, by simp, HB1.out⟩
    case round =>
      obtain ⟨i, hi, rfl, hall, hb⟩ := hrel
      clear HB1
      have HA := hidd hall
      have HB := hidd hb
      clear hall hb
      by_cases hlt : i < L.length
      · have hltz : (i : Int) < (L.length : Int) := by omega
        obtain ⟨g, off, rfl, hg, hc⟩ := (HS.out.below HB.out).resolve_left (fun h => by rw [h] at hlt; simp at hlt)
        have x0 := hc i hlt
        have hm : L.getD i [] ∈ L := getD_mem hlt
        have hzt := HZ.out _ hm
        have Htk : Hid (L.take (i + 1) = L.take i ++ [L.getD i []]) := by
          show _ = _
          rw [List.take_succ_eq_append_getElem hlt, List.getD_eq_getElem?_getD, List.getElem?_eq_getElem hlt]; rfl
        have HM := hidd hm
        clear hc hm
        generalize L.getD i [] = x at *
        have HV := hidd (decode_any (bs x) wr (by rw [bs_size]; omega))
        generalize hT0 : bs x = T0 at *
        have HT0 := hidd hT0
        clear hT0
        generalize decL T0 = dl at *
        go_wp2_with fail
        refine HV.out.mono ?_
        rintro e w2 ⟨v2, rfl, hown2, hb2⟩
        have HB2 := hidd (HB.out.trans (hb2.mono HB.out.size))
        clear hb2 hown2 x0 HV
        cases hv : validB T0 with
        | true =>
          have Hv := hidd hv
          clear hv
          go_wp2_with fail
          go_roundw
          case rel =>
            refine ⟨i + 1, by omega, by go_num, ?_, HB2.out⟩
            rw [Htk.out, List.all_append, HA.out]
            simp [HT0.out, Hv.out]
          case measure => simp [intOf]; omega
        | false =>
          have hE : (L.all fun x => validB (bs x)) = false := by
            rw [List.all_eq_false]
            exact ⟨x, HM.out, by rw [HT0.out, hv]; simp⟩
          have HC : Hid (sgCode L t most = 3) := by show _ = _; rw [sgCode, if_neg h1, if_neg (by simp [Hdc.out]), if_pos hE]
          have HL := hidd (Hbad.out 3 HC.out (by omega))
          clear hv hE
          go_wp2_with fail
          go_ret2
          rw [HC.out, HL.out]
          exact ⟨_, rfl, own_mono (own_empty _ _) HB2.out.size, HB2.out.alloc HB2.out.size _⟩
      · have hltz : ¬ (i : Int) < (L.length : Int) := by omega
        have hE : (L.all fun x => validB (bs x)) = true := by
          have := HA.out
          rw [List.take_of_length_le (by omega)] at this
          exact this
        by_cases h3 : 200 < a.length ∨ most < 0 ∨ 20 < most
        · have HC : Hid (sgCode L t most = 12) := by show _ = _; rw [sgCode, if_neg h1, if_neg (by simp [Hdc.out]), if_neg (by simp [hE]), if_pos (by rw [Ha.out]; exact h3)]
          have HL := hidd (Hbad.out 12 HC.out (by omega))
          clear hE
          by_cases h4 : 200 < a.length
          · have hz4 : (a.length : Int) > 200 := by omega
            clear h3
            go_wp2_with fail
            go_ret2
            rw [HC.out, HL.out]
            exact ⟨_, rfl, own_mono (own_empty _ _) HB.out.size, HB.out.alloc HB.out.size _⟩
          · have hz4 : ¬ (a.length : Int) > 200 := by omega
            by_cases h5 : most < 0
            · clear h3
              go_wp2_with fail
              go_ret2
              rw [HC.out, HL.out]
              exact ⟨_, rfl, own_mono (own_empty _ _) HB.out.size, HB.out.alloc HB.out.size _⟩
            · have h6 : most > 20 := by omega
              clear h3
              go_wp2_with fail
              go_ret2
              rw [HC.out, HL.out]
              exact ⟨_, rfl, own_mono (own_empty _ _) HB.out.size, HB.out.alloc HB.out.size _⟩
        · have hz4 : ¬ (a.length : Int) > 200 := by omega
          have hz5 : ¬ most < 0 := by omega
          have hz6 : ¬ most > 20 := by omega
          have HC : Hid (sgCode L t most = 0) := by show _ = _; rw [sgCode, if_neg h1, if_neg (by simp [Hdc.out]), if_neg (by simp [hE]), if_neg (by rw [Ha.out]; exact h3)]
          have HL : Hid (sgList L t most = toldW (eX a) (names L) most.toNat) := by show _ = _; rw [sgList, if_pos HC.out, Ha.out]
          have HAll := hidd hE
          clear hE h3 Hbad
          obtain ⟨mo, hmo⟩ : ∃ mo : Nat, most = (mo : Int) := ⟨most.toNat, by omega⟩
          subst hmo
          rw [Int.toNat_natCast] at HL
          have HSa := HS.out.below (HB.out.alloc HB.out.size (.cells #[] 9))
          have HNm := hidd (specNames_any L (wr.alloc (.cells #[] 9)).heap.size (.slice s L.length cap) (wr.alloc (.cells #[] 9)) (by omega) ⟨s, cap, rfl, hcl, HSa, fun hn g off e => by
            obtain ⟨g', off', e1, e2, -⟩ := HSa.resolve_left hn
            rw [e] at e1
            cases e1
            exact e2⟩)
          clear HSa
          go_wp2_with fail
          refine HNm.out.mono ?_
          rintro e w5 ⟨v5, rfl, hown5, hb5⟩
          obtain ⟨sN, cN, rfl, hcN, hsN⟩ := own_slice hown5
          have HsN := hidd hsN
          have HTN : Hid (TmA w5 sN (names L)) := by
            obtain ⟨s', c', e1, e2, e3, e4⟩ := Sl.own hown5
            simp only [Value.slice.injEq] at e1
            obtain ⟨rfl, _, rfl⟩ := e1
            exact e3
          have HB5 : Hid (Below w.heap.size w w5) := (HB.out.alloc HB.out.size _).trans (hb5.mono (HB.out.alloc HB.out.size _).size)
          have HO5 : Hid (w5.ownsRow w.heap.size 9 1 (.slice (some ⟨wr.heap.size, 0, none⟩) 0 0) 0 []) := own_mono (own_below (own_empty wr _) hb5) HB.out.size
          have HVN : Hid (∀ x ∈ names L, validB (bs x) = true ∧ x.length ≤ 1048576) := fun x hx => by
            rw [names_mem] at hx
            exact ⟨List.all_eq_true.1 HAll.out x hx, HZ.out x hx⟩
          have hnl := names_len L
          have hgt := (gAt_zero (eX a) (names L))
          have HG0 := hidd hgt
          have HGe := hidd (gAt_end (eX a) (names L) mo)
          rw [HL.out.symm] at HGe
          generalize names L = N at *
          clear hown5 hb5 hsN hgt HNm HL HAll HA
          have hrs : wr.heap.size < (wr.alloc (.cells #[] 9)).heap.size := by simp
          generalize (wr.alloc (.cells #[] 9)).heap.size = za at *
          generalize wr.heap.size = zb at *
          go_wp2_with fail
          go_loopw [13, 15] (fun vo dv wk => ∃ d : Nat, d ≤ 3 ∧ dv = .int .i64 (d : Int) ∧ wk.ownsRow w.heap.size 9 1 vo ((gAt (eX a) N d 0).take mo).length (tmCells ((gAt (eX a) N d 0).take mo)) ∧ TmA wk sN N ∧ (∀ g off, sN = some ⟨g, off, none⟩ → some g ≠ vo.ownBlock) ∧ Below w.heap.size w wk) (fun _ dv _ => 3 - (intOf dv).toNat)
          case atStart =>
            refine ⟨0, by omega, rfl, ?_, HTN.out, fun g off e h => ?_, HB5.out⟩
            · rw [HG0.out, List.take_nil]; exact HO5.out
            · have := HsN.out g off e
              simp only [Value.ownBlock] at h
              simp at h
              omega
          case round =>
            obtain ⟨d, hd, rfl, hown, htn, hne, hb⟩ := hrel
            clear HTN HO5 HB5 HG0
            have HO := hidd hown
            have HTn := hidd htn
            have HNe := hidd hne
            have HBk := hidd hb
            clear hown htn hne hb
            by_cases hd3 : d ≤ 2
            · have hd3z : (d : Int) ≤ 2 := by omega
              go_wp2_with fail
              go_loopw [13, 16] (fun vo iv wk => ∃ i : Nat, i ≤ N.length ∧ iv = .int .i64 (i : Int) ∧ wk.ownsRow w.heap.size 9 1 vo ((gAt (eX a) N d i).take mo).length (tmCells ((gAt (eX a) N d i).take mo)) ∧ TmA wk sN N ∧ (∀ g off, sN = some ⟨g, off, none⟩ → some g ≠ vo.ownBlock) ∧ Below w.heap.size w wk) (fun _ iv _ => N.length - (intOf iv).toNat)
              case atStart => exact ⟨0, Nat.zero_le _, rfl, HO.out, HTn.out, HNe.out, HBk.out⟩
              case round =>
                obtain ⟨i, hi, rfl, hown, htn, hne, hb⟩ := hrel
                clear HO HTn HNe HBk
                have HO := hidd hown
                have HTn := hidd htn
                have HNe := hidd hne
                have HBk := hidd hb
                clear hown htn hne hb
                by_cases hlt : i < N.length
                · have hltz : (i : Int) < (N.length : Int) := by omega
                  obtain ⟨g, off, rfl, hg, hc⟩ := HTn.out.resolve_left (fun h => by rw [h] at hlt; simp at hlt)
                  have x0 := hc i hlt
                  obtain ⟨hvx, hzx⟩ := HVN.out _ (getD_mem (d := ([] : Tx)) hlt)
                  have hst := gAt_step (eX a) N d i hlt
                  have hee := ed_eX t (N.getD i []) d hd3 ht2 Hvt.out (by rw [Ha.out]; omega) hvx
                  rw [Ha.out] at hee
                  have hNB : Hid (∀ O', O' = (gAt (eX a) N d i).take mo → (gAt (eX a) N d (i + 1)).take mo = if ((edCode t (bs (N.getD i [])) == 0 && edVal t (bs (N.getD i [])) == (d : Int)) && decide (O'.length < mo)) = true then O' ++ [N.getD i []] else O') := by
                    rintro O' rfl
                    rw [hst, hee]
                    by_cases h6 : eX a (N.getD i []) = d
                    · rw [if_pos h6, decide_eq_true h6, Bool.true_and]
                      by_cases h7 : ((gAt (eX a) N d i).take mo).length < mo
                      · rw [decide_eq_true h7, if_pos rfl, take_snoc_lt _ _ _ h7]
                      · rw [decide_eq_false h7, if_neg (by simp), take_snoc_ge _ _ _ h7]
                    · rw [if_neg h6, decide_eq_false h6, Bool.false_and, if_neg (by simp), List.append_nil]
                  have HStep := hidd (hNB.out _ rfl)
                  have hol : ((gAt (eX a) N d i).take mo).length ≤ 20 := by rw [List.length_take]; omega
                  clear hst hee hNB hvx
                  generalize hO0 : (gAt (eX a) N d i).take mo = O at *
                  generalize hO1 : (gAt (eX a) N d (i + 1)).take mo = O1 at *
                  have HO1 := hidd hO1
                  clear hO0 hO1 hc
                  generalize N.getD i [] = x at *
                  have HEd := hidd (specEdits_any t (bs x) wr ht (by rw [bs_size]; omega))
                  generalize hT0 : bs x = T0 at *
                  have HT0 := hidd hT0
                  clear hT0
                  generalize edCode t T0 = cc at *
                  generalize edVal t T0 = nv at *
                  go_wp2_with fail
                  refine HEd.out.mono ?_
                  rintro e w6 ⟨rfl, hb6⟩
                  have x6 := (hb6.cell (p := ⟨g, off + i, none⟩) hg).trans x0
                  have HO6 := hidd (own_below HO.out hb6)
                  have HTn6 := hidd (HTn.out.below hb6)
                  have HB6 := hidd (HBk.out.trans (hb6.mono HBk.out.size))
                  have hg6 := Nat.lt_of_lt_of_le hg hb6.size
                  clear hb6 x0 HO HTn HBk HEd hg
                  obtain ⟨nb, hnb⟩ : ∃ nb : Bool, ((cc == 0 && nv == (d : Int)) && decide (O.length < mo)) = nb := ⟨_, rfl⟩
                  rw [hnb] at HStep
                  go_upto_region 23 with fail
                  go_cut [99] (fun cv wy => cv = .bool nb ∧ wy = w6)
                  case first =>
                    obtain ⟨so, co, e1, -, -⟩ := own_slice HO6.out
                    subst e1
                    cases h6 : (cc == 0) with
                    | false =>
                      have hb' : nb = false := by rw [← hnb, h6]; rfl
                      go_wp2_with fail
                      go_meet
                      case rel => exact ⟨by rw [hb'], rfl⟩
                    | true =>
                      cases h7 : (nv == (d : Int)) with
                      | false =>
                        have hb' : nb = false := by rw [← hnb, h6, h7]; rfl
                        go_wp2_with fail
                        go_meet
                        case rel => exact ⟨by rw [hb'], rfl⟩
                      | true =>
                        have hb' : decide (O.length < mo) = nb := by rw [← hnb, h6, h7, Bool.true_and, Bool.true_and]
                        go_wp2_with fail
                        go_meet
                        case rel => exact ⟨by rw [← hb'], rfl⟩
                  case rest =>
                    obtain ⟨rfl, hww⟩ := hcut
                    obtain rfl := hww.symm
                    clear hww hnb
                    go_upto_if 99 with fail
                    cases nb with
                    | false =>
                      have hE : O1 = O := by rw [HStep.out, if_neg (by simp)]
                      go_wp2_with fail
                      go_roundw
                      case rel => exact ⟨i + 1, by omega, by go_num, by rw [HO1.out, hE]; exact HO6.out, HTn6.out, HNe.out, HB6.out⟩
                      case measure => simp [intOf]; omega
                    | true =>
                      have hE : O1 = O ++ [x] := by rw [HStep.out, if_pos rfl]
                      have HE := hidd hE
                      clear hE
                      have hws := HB6.out.size
                      go_wp2_with (at_builtin; refine wpList_append_own_at _ rfl _ _ 23 rfl w.heap.size 9 i0 (.string ⟨#[]⟩) 1 16 Tryd.underlying23 hi0 hz0 hz1' hz2 rfl (by decide) _ _ _ rfl (HO6.out.alloc _) ⟨w6.heap.size, 0, none⟩ 1 1 [.string T0] rfl rfl ?c1 ?c2 ?c3 ?c4 ?c5 ?_)
                      case c2 => rfl
                      case c3 => unfold maxLen; omega
                      case c4 => omega
                      case c5 => first | omega | (simp; omega)
                      intro v6 w7 hown6 hgrow6 _ hblk6
                      have HO7 : Hid (w7.ownsRow w.heap.size 9 1 v6 O1.length (tmCells O1)) := by
                        rw [HE.out, tmCells_snoc, List.length_append, List.length_singleton, HT0.out]
                        exact hown6
                      have HB7 : Hid (Below w.heap.size w w7) := (HB6.out.alloc (by omega) _).grown hgrow6 (by simp only [World.size_alloc]; omega) (fun k h => (HO6.out.lt k h).1)
                      have hne6 : some g ≠ u13.ownBlock := HNe.out g off rfl
                      have HNe7 : Hid (∀ g' off', (some ⟨g, off, none⟩ : Option Addr) = some ⟨g', off', none⟩ → some g' ≠ v6.ownBlock) := by
                        intro g' off' e
                        cases e
                        rcases hblk6 with h | h
                        · rw [h]; exact hne6
                        · rw [h]
                          intro e
                          injection e with e
                          try simp only [World.size_alloc] at e
                          omega
                      have hk7 : w7.heap[g]? = w6.heap[g]? := (hgrow6.block g (by simp only [World.size_alloc]; omega) hne6).trans (((Below.refl w6.heap.size w6).alloc (Nat.le_refl _) _).block g hg6)
                      have hz7 : w6.heap.size ≤ w7.heap.size := by
                        have := hgrow6.size
                        simp only [World.size_alloc] at this
                        omega
                      have HTn7 : Hid (TmA w7 (some ⟨g, off, none⟩) N) := by
                        rcases HTn6.out with h | ⟨g', off', e1, h2, h3⟩
                        · exact .inl h
                        · cases e1
                          exact .inr ⟨g, off, rfl, Nat.lt_of_lt_of_le h2 hz7, fun t ht => (World.cell?_of_block (a := ⟨g, off + t, none⟩) hk7).trans (h3 t ht)⟩
                      clear hown6 hgrow6 hblk6 hk7 hne6
                      go_wp2_with fail
                      go_roundw
                      case rel => exact ⟨i + 1, by omega, by go_num, by rw [HO1.out]; exact HO7.out, HTn7.out, HNe7.out, HB7.out⟩
                      case measure => simp [intOf]; omega
                · have hltz : ¬ (i : Int) < (N.length : Int) := by omega
                  have hE : gAt (eX a) N d i = gAt (eX a) N (d + 1) 0 := by rw [← gAt_next, show i = N.length by omega]
                  rw [hE] at HO
                  clear hE
                  go_wp2_with fail
                  go_roundw
                  case rel => exact ⟨d + 1, by omega, by go_num, HO.out, HTn.out, HNe.out, HBk.out⟩
                  case measure => simp [intOf]; omega
            · have hd3z : ¬ (d : Int) ≤ 2 := by omega
              have hE : (gAt (eX a) N d 0).take mo = sgList L t (mo : Int) := by rw [show d = 3 by omega]; exact HGe.out
              rw [hE] at HO
              clear hE
              go_wp2_with fail
              go_ret2
              rw [HC.out]
              exact ⟨_, rfl, HO.out, HBk.out⟩
end Go.Proofs.YtifgcimmlonagaaDoor
