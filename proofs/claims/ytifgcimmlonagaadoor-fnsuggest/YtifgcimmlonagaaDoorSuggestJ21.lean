import Derived.Test.YtifgcimmlonagaaDoorSuggestJ18
import Derived.Test.YtifgcimmlonagaaDoorSuggestJ20
namespace Go.Proofs.YtifgcimmlonagaaDoor
open Go Go.RowKit
set_option linter.unusedVariables false
set_option maxRecDepth 100000
set_option linter.unusedSimpArgs false

/-! impl.Suggest. -/
theorem sg_names (L : List Tx) (hv : (L.all fun x => validB (bs x)) = true) : ∀ t ∈ names (L.filter shortW), validB (bs t) = true ∧ (runes (bs t)).length ≤ 200 ∧ encs (runes (bs t)) = t ∧ t.length ≤ 800 := by
  intro t ht
  rw [names_mem, List.mem_filter] at ht
  have h1 : validB (bs t) = true := List.all_eq_true.1 hv t ht.1
  have h2 : (runes (bs t)).length ≤ 200 := by have := ht.2; unfold shortW at this; simpa using this
  have h3 : encs (runes (bs t)) = t := by
    have := text_back (bs t) h1
    have h4 := congrArg (fun x : ByteArray => x.data.toList) this
    simpa [bs] using h4
  refine ⟨h1, h2, h3, ?_⟩
  have := encs_le (runes (bs t))
  rw [h3] at this
  omega
theorem map_back (N : List Tx) (h : ∀ t ∈ N, encs (runes (bs t)) = t) : (N.map fun t => runes (bs t)).map encs = N := by
  rw [List.map_map]
  conv => rhs; rw [← List.map_id N]
  exact List.map_congr_left fun t ht => h t ht
theorem sg_wok (L : List Tx) (hv : (L.all fun x => validB (bs x)) = true) : WOk [] 200 ((names (L.filter shortW)).map fun t => runes (bs t)) := by
  have hn := sg_names L hv
  refine ⟨fun rs hr => ?_, ?_⟩
  · obtain ⟨t, ht, rfl⟩ := List.mem_map.1 hr
    exact ⟨⟨_, rfl⟩, by simpa using (hn t ht).2.1, runes_chr (bs t) (hn t ht).1⟩
  · rw [map_back _ (fun t ht => (hn t ht).2.2.1)]
    exact names_rise _
theorem sg_found (a : List Int) (L : List Tx) (hv : (L.all fun x => validB (bs x)) = true) : foundW a ((names (L.filter shortW)).map fun t => runes (bs t)) = near (edT a) (names (L.filter shortW)) := by
  rw [foundW_near a _ (fun rs hr => ((sg_wok L hv).1 rs hr).2.2), map_back _ (fun t ht => (sg_names L hv t ht).2.2.1)]
theorem sg_told (a : List Int) (L : List Tx) (most : Nat) : ((nearR (edT a) (names (L.filter shortW))).take most).map Prod.snd = toldW (eX a) (names L) most := by
  rw [nearR_words, ← told_filter, told_edT]
  intro t ht
  rw [names_mem, List.mem_filter] at ht
  exact ht.2
theorem nearR_mem (e : Tx → Nat) (N : List Tx) : ∀ p ∈ nearR e N, p.2 ∈ N := fun p hp => (near_fst e N p ((nearR_perm e N).mem_iff.1 hp)).2.1
theorem filter_len (L : List Tx) : (names (L.filter shortW)).length ≤ L.length := by
  unfold names
  refine Nat.le_trans (compact_len _) ?_
  rw [(sorted_perm _).length_eq]
  exact List.length_filter_le _ _
theorem near_len (e : Tx → Nat) (N : List Tx) : (near e N).length ≤ N.length := by
  unfold near
  exact Nat.le_trans (List.length_filter_le _ _) (by simp)
theorem dec_zero {t : ByteArray} (h : decCode t = 0) : decList t = runes t ∧ validB t = true := by
  unfold decCode at h
  by_cases h1 : 65536 < t.size
  · rw [if_pos h1] at h; omega
  · rw [if_neg h1] at h
    by_cases h2 : validB t = true
    · exact ⟨by rw [decList, if_neg h1, decL, if_pos h2], h2⟩
    · rw [if_neg h2] at h; omega
theorem own_slice {w : World} {base e n : Nat} {v : Value} {xs : List Value} (h : w.ownsRow base e 1 v n xs) : ∃ sa ca, v = .slice sa n ca ∧ n ≤ ca ∧ ∀ g off, sa = some ⟨g, off, none⟩ → off = 0 ∧ base ≤ g ∧ g < w.heap.size := by
  rcases h.2 with ⟨h1, h2⟩ | ⟨g, cap, cur, h1, hb, hg, hc, _⟩
  · exact ⟨none, 0, by rw [h2]; exact h1, by omega, fun g off e => by cases e⟩
  · exact ⟨_, cap, h1, hc, fun g' off e => by cases e; exact ⟨rfl, hb, (Array.getElem?_eq_some_iff.1 hg).1⟩⟩
theorem own_txt {w : World} {base n : Nat} {sa : Option Addr} {ca : Nat} {a : List Int} (h : w.ownsRow base 3 1 (.slice sa a.length ca) a.length (a.map (Value.int .i64))) : TxAt w sa a := by
  rcases own_cases h with ⟨h1, h2⟩ | ⟨g, cap, h1, hb, hl⟩
  · exact .inl (List.length_eq_zero_iff.1 h2)
  · simp only [Value.slice.injEq, true_and] at h1
    obtain ⟨rfl, rfl⟩ := h1
    exact .inr ⟨g, 0, rfl, hl, own_cells h rfl⟩
theorem own_tw {w : World} {base : Nat} {sa : Option Addr} {ca : Nat} {N : List Tx} (h : w.ownsRow base 9 1 (.slice sa N.length ca) N.length (tmCells N)) (hb : ∀ t ∈ N, encs (runes (bs t)) = t) : TwAt w sa (N.map fun t => runes (bs t)) := by
  rcases own_cases h with ⟨h1, h2⟩ | ⟨g, cap, h1, hb1, hl⟩
  · exact .inl (by rw [List.length_eq_zero_iff.1 h2]; rfl)
  · simp only [Value.slice.injEq, true_and] at h1
    obtain ⟨rfl, rfl⟩ := h1
    refine .inr ⟨g, 0, rfl, hl, fun i hi => ?_⟩
    rw [List.length_map] at hi
    rw [Nat.zero_add, h.cellAt i (by omega)]
    have e : (N.map fun t => runes (bs t)).getD i [] = runes (bs N[i]) := by
      rw [List.getD_eq_getElem?_getD, List.getElem?_map, List.getElem?_eq_getElem hi]; rfl
    rw [e, hb _ (List.getElem_mem hi)]
    simp [tmCells, hi]
theorem firstHold {w : World} {base : Nat} {v : Value} {E : List NW} (h : w.ownsRow base 59 2 v E.length (nwCells E)) : ∃ sa ca, v = .slice sa E.length ca ∧ HoldN w sa E := by
  rcases h.2 with ⟨h1, h2⟩ | ⟨g, cap, cur, h1, hb, hg, hc, _⟩
  · exact ⟨none, 0, by rw [h2]; exact h1, .inl (List.length_eq_zero_iff.1 h2)⟩
  · subst h1
    refine ⟨_, cap, rfl, .inr ⟨g, 0, rfl, (Array.getElem?_eq_some_iff.1 hg).1, fun i hi => ?_⟩⟩
    have := own2_cells h i hi
    simpa using this
set_option maxHeartbeats 16000000 in
theorem implSuggest_any (L : List Tx) (s : Option Addr) (cap : Nat) (t : ByteArray) (most : Int) (w : World) (hl : L.length ≤ 1048576) (hz : ∀ x ∈ L, x.length ≤ 1048576) (ht : t.size ≤ 1048576) (hS : TmA w s L) (hT : Tabs w) :
    Calls Tryd.prog 7 #[.slice s L.length cap, .string t, .int .i64 most] w fun e w' => ∃ v, e = .returned (.tuple #[v, .int .i64 (sgCode L t most)]) ∧ w'.ownsRow w.heap.size 9 1 v (sgList L t most).length (tmCells (sgList L t most)) ∧ Below w.heap.size w w' := by
  have HS := hidd hS
  have HT := hidd hT
  have HZ := hidd hz
  have h2w : 1 < w.heap.size := cell_lt (hT.2 0 (by omega)).1
  clear hS hT hz
  have bad : ∀ c : Int, sgCode L t most = c → c ≠ 0 → sgList L t most = [] := fun c h1 h2 => by rw [sgList, if_neg (by rw [h1]; exact h2)]
  obtain ⟨c, hc⟩ : ∃ c, sgCode L t most = c := ⟨_, rfl⟩
  by_cases h1 : 4096 < L.length
  · have HC : Hid (sgCode L t most = 2) := by show _ = _; rw [sgCode, if_pos h1]
    have HL := hidd (bad 2 HC.out (by omega))
    have hz1 : (L.length : Int) > 4096 := by omega
    clear bad hc
    go_enter Tryd.func7, Tryd.ntmps7
    go_wp2_with fail
    go_ret2
    rw [HC.out, HL.out]
    exact ⟨_, rfl, World.ownsRow_nil _ _ _ _, Below.refl _ _⟩
  have hz1 : ¬ (L.length : Int) > 4096 := by omega
  have HDe := hidd (implDecode_any t w ht HT.out)
  by_cases h2 : decCode t = 0
  · obtain ⟨hdl, hvt⟩ := dec_zero h2
    rw [hdl, h2] at HDe
    have hA := hidd (allWell_any L s cap)
    obtain ⟨q, hq⟩ : ∃ q, (L.all fun x => validB (bs x)) = q := ⟨_, rfl⟩
    cases q with
    | false =>
      have HC : Hid (sgCode L t most = 3) := by show _ = _; rw [sgCode, if_neg h1, if_neg (by simp [h2]), if_pos hq]
      have HL := hidd (bad 3 HC.out (by omega))
      clear bad hc h2 hvt hdl
      go_enter Tryd.func7, Tryd.ntmps7
      go_wp2_with fail
      refine HDe.out.mono ?_
      rintro e w1 ⟨v0, rfl, hown, hb1⟩
      have HB1 := hidd hb1
      have HA1 := hidd (hA.out w1 hl HZ.out (HS.out.below hb1) (HT.out.below hb1))
      rw [hq] at HA1
      clear hown hb1
      go_wp2_with fail
      refine HA1.out.mono ?_
      rintro e w2 ⟨rfl, hb2⟩
      have HB2 := hidd (HB1.out.trans (hb2.mono HB1.out.size))
      clear hb2
      go_wp2_with fail
      go_ret2
      rw [HC.out, HL.out]
      exact ⟨_, rfl, World.ownsRow_nil _ _ _ _, HB2.out⟩
    | true =>
    have Hq := hidd hq
    by_cases h3 : 200 < (runes t).length ∨ most < 0 ∨ 20 < most
    · have HC : Hid (sgCode L t most = 12) := by show _ = _; rw [sgCode, if_neg h1, if_neg (by simp [h2]), if_neg (by simp [hq]), if_pos h3]
      have HL := hidd (bad 12 HC.out (by omega))
      clear bad hc h2 hvt hdl
      generalize runes t = a at *
      go_enter Tryd.func7, Tryd.ntmps7
      go_wp2_with fail
      refine HDe.out.mono ?_
      rintro e w1 ⟨v0, rfl, hown, hb1⟩
      have HB1 := hidd hb1
      have HA1 := hidd (hA.out w1 hl HZ.out (HS.out.below hb1) (HT.out.below hb1))
      rw [hq] at HA1
      obtain ⟨sa, ca, rfl, hca, -⟩ := own_slice hown
      clear hown hb1 hq
      go_wp2_with fail
      refine HA1.out.mono ?_
      rintro e w2 ⟨rfl, hb2⟩
      have HB2 := hidd (HB1.out.trans (hb2.mono HB1.out.size))
      clear hb2
      by_cases h4 : 200 < a.length
      · have hz4 : (a.length : Int) > 200 := by omega
        clear h3
        go_wp2_with fail
        go_ret2
        rw [HC.out, HL.out]
        exact ⟨_, rfl, World.ownsRow_nil _ _ _ _, HB2.out⟩
      · have hz4 : ¬ (a.length : Int) > 200 := by omega
        have hwi : (decide ((0 : Int) ≤ most) && decide (most ≤ 20)) = false := by
          rw [Bool.and_eq_false_iff, decide_eq_false_iff_not, decide_eq_false_iff_not]
          omega
        have HW := hidd (within_any most 0 20 w2)
        rw [hwi] at HW
        clear h3 hwi
        go_wp2_with fail
        refine HW.out.mono ?_
        rintro e w3 ⟨rfl, hw3⟩
        obtain rfl := hw3.symm
        go_wp2_with fail
        go_ret2
        rw [HC.out, HL.out]
        exact ⟨_, rfl, World.ownsRow_nil _ _ _ _, HB2.out⟩
    · have hcode : sgCode L t most = 0 := by rw [sgCode, if_neg h1, if_neg (by simp [h2]), if_neg (by simp [hq]), if_neg h3]
      have HC := hidd hcode
      obtain ⟨mo, hmo⟩ : ∃ mo : Nat, most = (mo : Int) := ⟨most.toNat, by omega⟩
      subst hmo
      have hmo20 : mo ≤ 20 := by omega
      have HL : Hid (sgList L t (mo : Int) = toldW (eX (runes t)) (names L) mo) := by show _ = _; rw [sgList, if_pos hcode]; rfl
      have hal : (runes t).length ≤ 200 := by omega
      have HWk := hidd (sg_wok L hq)
      have HFd := hidd (sg_found (runes t) L hq)
      have HTd := hidd (sg_told (runes t) L mo)
      have HNm := hidd (sg_names L hq)
      have hfl := filter_len L
      have hnl := near_len (edT (runes t)) (names (L.filter shortW))
      have HRp := hidd (nearR_perm (edT (runes t)) (names (L.filter shortW)))
      have HRs := hidd (nearR_srt (edT (runes t)) (names (L.filter shortW)) (names_rise _))
      have HRm := hidd (nearR_mem (edT (runes t)) (names (L.filter shortW)))
      generalize toldW (eX (runes t)) (names L) mo = OUT at *
      generalize runes t = a at *
      clear bad hc h2 hvt hdl h3 hcode
      have hz4 : ¬ (a.length : Int) > 200 := by omega
      have hwi : (decide ((0 : Int) ≤ (mo : Int)) && decide ((mo : Int) ≤ 20)) = true := by simp; omega
      go_enter Tryd.func7, Tryd.ntmps7
      go_wp2_with fail
      refine HDe.out.mono ?_
      rintro e w1 ⟨v0, rfl, hown, hb1⟩
      have HB1 := hidd hb1
      have HA1 := hidd (hA.out w1 hl HZ.out (HS.out.below hb1) (HT.out.below hb1))
      rw [hq] at HA1
      obtain ⟨sa, ca, rfl, hca, hsa⟩ := own_slice hown
      have HSA := hidd hsa
      have HTx := hidd (own_txt (n := 0) hown)
      have hz1s := hb1.size
      clear hown hb1 hq hsa
      go_wp2_with fail
      refine HA1.out.mono ?_
      rintro e w2 ⟨rfl, hb2⟩
      have HB2 := hidd hb2
      have HW := hidd (within_any (mo : Int) 0 20 w2)
      rw [hwi] at HW
      clear hb2 hwi
      go_wp2_with fail
      refine HW.out.mono ?_
      rintro e w3 ⟨rfl, hw3⟩
      obtain rfl := hw3.symm
      clear hw3 HW
      go_upto_region 11 with fail
      have hbx4 := heap_alloc_new w2 (.cells #[.slice sa a.length ca, .slice none 0 0] 51)
      have HB4 : Hid (Below w2.heap.size w2 (w2.alloc (.cells #[.slice sa a.length ca, .slice none 0 0] 51))) := (Below.refl _ _).alloc (Nat.le_refl _) _
      generalize w2.alloc (.cells #[.slice sa a.length ca, .slice none 0 0] 51) = w4 at *
      obtain ⟨pw, hpw⟩ : ∃ pw, w2.heap.size = pw := ⟨_, rfl⟩
      rw [hpw] at hbx4 ⊢
      have hp4 : pw < w4.heap.size := (Array.getElem?_eq_some_iff.1 hbx4).1
      have hp1 : w1.heap.size ≤ pw := by have := HB2.out.size; omega
      have HB4w1 : Hid (Below w1.heap.size w1 w4) := HB2.out.trans (HB4.out.mono HB2.out.size)
      have HB4w : Hid (Below w.heap.size w w4) := HB1.out.trans (HB4w1.out.mono HB1.out.size)
      have H4 := hidd hbx4
      have HSw := hidd (sortedWords_any L s cap w4 hl HZ.out (HS.out.below HB4w.out))
      generalize hN : names (L.filter shortW) = N at *
      have HN := hidd hN
      clear hN hpw hbx4 HB2 HB4 HA1
      go_wp2_with fail
      refine HSw.out.mono ?_
      rintro e w5 ⟨v5, rfl, hown5, hb5⟩
      obtain ⟨sN, cN, rfl, hcN, hsN⟩ := own_slice hown5
      have H5 := hidd (blko H4.out hb5)
      have HO5 := hidd hown5
      have HB5 := hidd hb5
      have HSN := hidd hsN
      have HFi := hidd (first_any a sa ca pw (.slice none 0 0) w5 hal H5.out)
      clear hown5 hb5 hsN HSw
      go_wp2_with fail
      refine HFi.out.mono ?_
      rintro e w6 ⟨rfl, hb6⟩
      have H6 := hidd (blko H5.out hb6)
      have HB6 := hidd (HB5.out.trans (hb6.mono HB5.out.size))
      have HO6 := hidd (own_below HO5.out hb6)
      have hz46 := HB6.out.size
      have hz56 := hb6.size
      have hz5 := HB5.out.size
      have HBw6 := hidd (HB4w.out.trans (HB6.out.mono HB4w.out.size))
      have hsv : Sv w6 w6.heap.size pw (.slice sN N.length cN) (N.map fun t => runes (bs t)) := by
        refine ⟨sN, cN, by rw [List.length_map], by rw [List.length_map]; exact hcN, own_tw HO6.out (fun t ht => (HNm.out t ht).2.2.1), fun _ g off e => ?_⟩
        have := HSN.out g off e
        omega
      have hfx : Fix w6 w6.heap.size pw sa a := ⟨HTx.out.below (HB4w1.out.trans (HB6.out.mono HB4w1.out.size)), HT.out.below HBw6.out⟩
      have HWa := hidd (walk_all a w6.heap.size pw sa ca hal (fun g off e => by have := HSA.out g off e; omega) (by omega) (by omega) 200 [] (N.map fun t => runes (bs t)) (.slice sN N.length cN) [] (.slice none 0 0) w6 (by simp) HWk.out hsv ⟨H6.out, World.ownsRow_nil _ _ _ _⟩ hfx (Nat.le_refl _) (by rw [List.length_map]; simp; omega))
      rw [HFd.out, List.nil_append] at HWa
      have hen : ((encs ([] : List Int)).length : Int) = 0 := rfl
      rw [hen] at HWa
      clear hb6 HFi hsv hfx hen
      go_wp2_with fail
      refine HWa.out.mono ?_
      rintro e w7 ⟨rfl, v7, hn7, hm7⟩
      have HN7 := hidd hn7
      have HB7 : Hid (Below w.heap.size w w7) := HBw6.out.trans ⟨hm7.but.os, hm7.but.tape, hm7.but.output, hm7.but.size, fun i hi => hm7.but.block i (by omega) (fun e => by
        rcases e with e | e
        · omega
        · cases e)⟩
      have c7 : w7.cell? ⟨pw, 1, none⟩ = some v7 := blkc hn7.box 1
      obtain ⟨s7, cp7, hv7, hh7⟩ := firstHold hn7.row
      subst hv7
      have HFo := hidd (firstOf_any (near (edT a) N) s7 cp7 mo w7 hh7 (by omega) hmo20 (nearR (edT a) N) HRp.out HRs.out)
      unfold cmpV at HFo
      clear hn7 hm7 HWa hh7
      generalize hRR : (nearR (edT a) N).take mo = RR at *
      have HRR : Hid (∀ p ∈ RR, p.2.length ≤ 800) := fun p hp => by
        rw [← hRR] at hp
        exact (HNm.out p.2 (HRm.out p (List.mem_of_mem_take hp))).2.2.2
      have hrl : RR.length ≤ 20 := by rw [← hRR, List.length_take]; omega
      clear hRR
      generalize (near (edT a) N).length = nl at *
      go_wp2_with fail
      refine HFo.out.mono ?_
      rintro e w8 ⟨v8, rfl, hown8, hb8⟩
      obtain ⟨s8, cp8, hv8, hh8⟩ := firstHold hown8
      subst hv8
      have HH8 := hidd hh8
      have HB8 := hidd (HB7.out.trans (hb8.mono HB7.out.size))
      have hz8w := HB8.out.size
      have Hg8 : Hid (∀ g off, s8 = some ⟨g, off, none⟩ → RR ≠ [] → g < w8.heap.size) := fun g off e hne => by
        obtain ⟨g', off', e1, h2, _⟩ := hh8.resolve_left hne
        rw [e] at e1
        cases e1
        exact h2
      clear hown8 hb8 hh8 HFo c7
      obtain ⟨i0, hi0, hz0, hz1', hz2⟩ := info_parts Tryd.infoStrX
      go_wp2_with fail
      go_loopw [11, 47] (fun lv iv wr => ∃ i : Nat, i ≤ RR.length ∧ iv = .int .i64 (i : Int) ∧ wr.ownsRow w8.heap.size 9 1 lv (OUT.take i).length (tmCells (OUT.take i)) ∧ Below w.heap.size w wr ∧ w8.heap.size ≤ wr.heap.size ∧ HoldN wr s8 RR) (fun _ iv _ => RR.length - (intOf iv).toNat)
      case atStart => exact ⟨0, Nat.zero_le _, rfl, World.ownsRow_nil _ _ _ _, HB8.out, Nat.le_refl _, HH8.out⟩
      case round =>
        obtain ⟨i, hi, rfl, hown, hb, hz8, hh⟩ := hrel
        have HO := hidd hown
        have HB := hidd hb
        have HH := hidd hh
        have hbs := hb.size
        clear hown hb HH8 HB8
        by_cases hlt : i < RR.length
        · have hltz : (i : Int) < (RR.length : Int) := by omega
          obtain ⟨g, off, rfl, hg, hcs⟩ := hh.resolve_left (fun h => by rw [h] at hlt; simp at hlt)
          obtain ⟨x0, x1⟩ := hcs i hlt
          have hpz := HRR.out _ (getD_mem (d := nw0) hlt)
          have Htk : Hid (OUT.take (i + 1) = OUT.take i ++ [(RR.getD i nw0).2] ∧ (OUT.take i).length = i) := by
            rw [← HTd.out]
            refine ⟨?_, by rw [List.length_take, List.length_map]; omega⟩
            rw [List.take_succ_eq_append_getElem (by rw [List.length_map]; exact hlt), List.getElem_map, List.getD_eq_getElem?_getD, List.getElem?_eq_getElem hlt]
            rfl
          clear hcs hh
          generalize RR.getD i nw0 = p at *
          generalize (p.1 : Int) = pz at *
          have HCl := hidd (fun W => clone_any (bs p.2) W (by rw [bs_size]; omega))
          generalize hT0 : bs p.2 = T0 at *
          have HT0 := hidd hT0
          clear hT0
          go_wp2_with fail
          refine (HCl.out _).mono ?_
          rintro e w9 ⟨rfl, hb9⟩
          have hB9 : Below wr.heap.size wr w9 := ((Below.refl _ wr).alloc (Nat.le_refl _) _).trans (hb9.mono (by simp))
          have HO9 : Hid (w9.ownsRow w8.heap.size 9 1 u11 (OUT.take i).length (tmCells (OUT.take i))) := own_below HO.out hB9
          have HBw := hidd (HB.out.trans (hB9.mono HB.out.size))
          have HH9 := hidd (HoldN.below (n := 0) HH.out hB9)
          have hb9s := hB9.size
          have hoi := Htk.out.2
          clear hb9 hB9 HCl x0 x1 HO HH
          go_wp2_with (at_builtin; refine wpList_append_own_at _ rfl _ _ 23 rfl w8.heap.size 9 i0 (.string ⟨#[]⟩) 1 16 Tryd.underlying23 hi0 hz0 hz1' hz2 rfl (by decide) _ _ _ rfl (HO9.out.alloc _) ⟨w9.heap.size, 0, none⟩ 1 1 [.string T0] rfl rfl ?c1 ?c2 ?c3 ?c4 ?c5 ?_)
          case c1 =>
            intro j u hj
            cases j with
            | zero => simp at hj; subst hj; rw [add_head]; exact blkc (heap_alloc_new w9 _) 0
            | succ j => simp at hj
          case c2 => intro u hu; simp at hu; subst hu; rfl
          case c3 => unfold maxLen; omega
          case c4 => omega
          case c5 => simp; omega
          intro v6 w6' hown6 hgrow6 _ _
          have HO6' : Hid (w6'.ownsRow w8.heap.size 9 1 v6 (OUT.take (i + 1)).length (tmCells (OUT.take (i + 1)))) := by
            show World.ownsRow _ _ _ _ _ _ _
            rw [Htk.out.1, tmCells_snoc, HT0.out, List.length_append, List.length_singleton, Htk.out.2]
            exact hown6
          have HB6' : Hid (Below w.heap.size w w6') := (HBw.out.alloc (by omega) _).grown hgrow6 (by have := HBw.out.size; simp only [World.size_alloc]; omega) (fun k h => by have := (HO9.out.lt k h).1; have := hz8w; omega)
          have hz86 : w8.heap.size ≤ w6'.heap.size := by have := hgrow6.size; simp only [World.size_alloc] at this; omega
          have HH6' : Hid (HoldN w6' (some ⟨g, off, none⟩) RR) := by
            have hg8 := Hg8.out g off rfl (fun h => by rw [h] at hlt; simp at hlt)
            rcases HH9.out with h | ⟨g', off', e1, h2, h3⟩
            · exact .inl h
            · cases e1
              have hblk : w6'.heap[g]? = w9.heap[g]? := by
                rw [hgrow6.block g (by simp only [World.size_alloc]; omega) (fun e => by have := (HO9.out.lt g e.symm).1; omega)]
                exact Below.heap_alloc w9 _ g h2
              exact .inr ⟨g, off, rfl, Nat.lt_of_lt_of_le hg8 hz86, fun t ht => ⟨(World.cell?_of_block (a := ⟨g, off + t * 2, none⟩) hblk).trans (h3 t ht).1, (World.cell?_of_block (a := ⟨g, off + t * 2 + 1, none⟩) hblk).trans (h3 t ht).2⟩⟩
          clear hown6 hgrow6
          go_wp2_with fail
          go_roundw
          case rel => exact ⟨i + 1, by omega, by go_num, HO6'.out, HB6'.out, hz86, HH6'.out⟩
          case measure => simp [intOf]; omega
        · have hltz : ¬ (i : Int) < (RR.length : Int) := by omega
          have HE : Hid (OUT.take i = OUT) := by
            show _ = _
            rw [← HTd.out, List.take_of_length_le (by rw [List.length_map]; omega)]
          rw [HE.out] at HO
          go_wp2_with fail
          go_ret2
          rw [HC.out, HL.out]
          exact ⟨_, rfl, own_mono HO.out hz8w, HB.out⟩
  · have HC : Hid (sgCode L t most = decCode t) := by show _ = _; rw [sgCode, if_neg h1, if_pos h2]
    have HL := hidd (bad (decCode t) HC.out h2)
    have hcn : (decCode t != 0) = true := by rw [bne_iff_ne]; exact h2
    clear bad hc h2
    go_enter Tryd.func7, Tryd.ntmps7
    go_wp2_with fail
    refine HDe.out.mono ?_
    rintro e w1 ⟨v0, rfl, hown, hb1⟩
    have HB1 := hidd hb1
    clear hown hb1
    go_wp2_with fail
    go_ret2
    rw [HC.out, HL.out]
    exact ⟨_, rfl, World.ownsRow_nil _ _ _ _, HB1.out⟩
end Go.Proofs.YtifgcimmlonagaaDoor
