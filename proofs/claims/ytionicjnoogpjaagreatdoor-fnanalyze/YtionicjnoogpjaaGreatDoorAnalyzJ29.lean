import Derived.Test.YtionicjnoogpjaaGreatDoorAnalyzJ05
import Derived.Test.YtionicjnoogpjaaGreatDoorAnalyzJ23
import Derived.Test.YtionicjnoogpjaaGreatDoorAnalyzJ26
import Derived.Test.YtionicjnoogpjaaGreatDoorAnalyzJ28
import Derived.Test.YtionicjnoogpjaaGreatDoorAnalyzJ08
import Derived.Deep.RegionWith
namespace Go.Proofs.YtionicjnoogpjaaGreatDoor
open Go Go.RowKit
set_option linter.unusedVariables false

theorem formsGo_len (st ph : Bool) (lo hi : Int) : ∀ (xs o : List (List UInt8)), (formsGo st ph lo hi o xs).1.length ≤ o.length + xs.length * 4096
  | [], o => by rw [formsGo]; simp
  | x :: xs, o => by
    rw [formsGo]
    split
    · have h1 := formsGo_len st ph lo hi xs (addT o (listOf lo hi (phoneIf ph (stemIf st x))))
      have h2 := addT_len (listOf lo hi (phoneIf ph (stemIf st x))) o
      have h3 := listOf_len lo hi (phoneIf ph (stemIf st x))
      rw [List.length_cons]
      omega
    · exact Nat.zero_le _
theorem formsOf_len (fo st ph : Bool) (stops : List (List UInt8)) (syns : List (List UInt8 × List UInt8)) (lo hi : Int) (t : List UInt8) (h : syns.length ≤ 64) : (formsOf fo st ph stops syns lo hi t).1.length ≤ 266240 := by
  unfold formsOf
  split
  · exact Nat.zero_le _
  · have h1 := formsGo_len st ph lo hi (rawOf syns (foldIf fo t)) []
    have h2 := synsOf_len syns (foldIf fo t)
    rw [rawOf, List.length_cons] at h1
    rw [rawOf]
    simp only [List.length_nil] at h1
    omega
set_option maxHeartbeats 8000000 in
set_option maxRecDepth 100000 in
theorem specAnalyze_any (fo st ph : Bool) (aS aY : Option Addr) (cS cY : Nat) (stops : List (List UInt8)) (syns : List (List UInt8 × List UInt8)) (lo hi : Int) (s : ByteArray) (w : World) (hS : HoldS w aS stops) (hY : HoldY w aY syns) (zS : szS stops) (zY : szY syns) (hnS : stops.length ≤ 1048576) (hnY : syns.length ≤ 1048576) (hs : s.size ≤ 1048576)
    (L : List Tk) (C : Int) (HF : Hid (anOf fo st ph stops syns lo hi s = (L, C))) :
    Calls Tryz.prog 6 #[.agg #[.bool fo, .bool st, .bool ph, .slice aS stops.length cS, .slice aY syns.length cY, .int .i64 lo, .int .i64 hi], .string s] w fun e w' => ∃ v, e = .returned (.tuple #[v, .int .i64 C]) ∧ w'.ownsRow w.heap.size 35 4 v L.length (toksCells L) ∧ Below w.heap.size w w' := by
  obtain ⟨i0, hi0, hz0, hz1, hz2⟩ := info_parts Tryz.infoTok
  have HS := hidd hS
  have HY := hidd hY
  have ZS := hidd zS
  have ZY := hidd zY
  clear hS hY zS zY
  have HBa : Hid (Below w.heap.size w (w.alloc (.cells #[.bool fo, .bool st, .bool ph, .slice aS stops.length cS, .slice aY syns.length cY, .int .i64 lo, .int .i64 hi] 26))) := (Below.refl _ _).alloc (Nat.le_refl _) _
  have hblk : (w.alloc (.cells #[.bool fo, .bool st, .bool ph, .slice aS stops.length cS, .slice aY syns.length cY, .int .i64 lo, .int .i64 hi] 26)).heap[w.heap.size]? = some (.cells #[.bool fo, .bool st, .bool ph, .slice aS stops.length cS, .slice aY syns.length cY, .int .i64 lo, .int .i64 hi] 26) := heap_alloc_new _ _
  have Hblk := hidd hblk
  clear hblk
  by_cases h1 : 65536 < s.size
  · have HE : Hid (L = [] ∧ C = 2) := by
      have h := HF.out
      rw [anOf, if_pos h1] at h
      exact ⟨(Prod.mk.inj h).1.symm, (Prod.mk.inj h).2.symm⟩
    have h1z : (65536 : Int) < (s.size : Int) := by omega
    go_enter Tryz.func6, Tryz.ntmps6
    go_wp2_with fail
    go_ret2
    rw [HE.out.1, HE.out.2]
    have hza := HBa.out.size
    have h := own4_empty (w.alloc (.cells #[.bool fo, .bool st, .bool ph, .slice aS stops.length cS, .slice aY syns.length cY, .int .i64 lo, .int .i64 hi] 26)) 35
    rw [show (w.alloc (.cells #[.bool fo, .bool st, .bool ph, .slice aS stops.length cS, .slice aY syns.length cY, .int .i64 lo, .int .i64 hi] 26)).heap.size = w.heap.size + 1 by simp] at h
    exact ⟨.slice (some ⟨w.heap.size + 1, 0, none⟩) 0 0, rfl, own4_mono h (by omega), HBa.out.alloc (by omega) _⟩
  · have h1z : ¬ (65536 : Int) < (s.size : Int) := by omega
    have HF1 := HF.out
    rw [anOf, if_neg h1] at HF1
    have HF2 := hidd HF1
    clear HF1 HF
    go_enter Tryz.func6, Tryz.ntmps6
    go_wp2_with fail
    have HSa := hidd (HS.out.below HBa.out)
    have HYa := hidd (HY.out.below HBa.out)
    generalize w.alloc (.cells #[.bool fo, .bool st, .bool ph, .slice aS stops.length cS, .slice aY syns.length cY, .int .i64 lo, .int .i64 hi] 26) = wa at *
    generalize hB : w.heap.size = B at *
    have hza := HBa.out.size
    clear HS HY
    refine (specAzOK_any fo st ph aS aY cS cY stops syns lo hi _ HSa.out HYa.out ZS.out ZY.out hnS hnY).mono ?_
    rintro e w1 ⟨rfl, hb1⟩
    have HK1 := hidd (blko Hblk.out hb1)
    have HS1 := hidd (HSa.out.below hb1)
    have HY1 := hidd (HYa.out.below hb1)
    have HB1 := hidd (HBa.out.trans (hb1.mono (by omega)))
    clear hb1 ZS ZY HSa HYa Hblk HBa hza
    have hw1 := HB1.out.size
    cases hok : azOK stops syns lo hi
    · have HE : Hid (L = [] ∧ C = 1) := by
        have h := HF2.out
        rw [hok] at h
        exact ⟨(Prod.mk.inj h).1.symm, (Prod.mk.inj h).2.symm⟩
      clear hok
      go_wp2_with fail
      go_ret2
      rw [HE.out.1, HE.out.2]
      try rw [hB]
      exact ⟨_, rfl, own4_mono (own4_empty w1 _) (by omega), HB1.out.alloc (by omega) _⟩
    · obtain ⟨hn1, hn2, hn3⟩ := azOK_parts hok
      have HN3 := hidd hn3
      have HF3 := HF2.out
      rw [hok, if_pos rfl] at HF3
      have HF4 := hidd HF3
      clear hok hn3 HF3 HF2
      go_wp2_with fail
      refine (specBreak_any s _ hs).mono ?_
      rintro e w2 ⟨v2, rfl, hown2, hb2⟩
      have HO2 := hidd hown2
      have HB2 := hidd (HB1.out.trans (hb2.mono (by omega)))
      have hw2 := HB2.out.size
      have HK2 := hidd (blko HK1.out hb2)
      have HS2 := hidd (HS1.out.below hb2)
      have HY2 := hidd (HY1.out.below hb2)
      clear hown2 hb2 HK1 HS1 HY1
      by_cases hc : brkCode s = 0
      · rw [hc]
        have HF5 : Hid (azGo (formsOf fo st ph stops syns lo hi) [] (brkList s) = (L, C)) := by
          have h := HF4.out
          rw [if_pos hc] at h
          exact h
        have HBO := hidd (brkList_ok s)
        have hbl := brkList_len s
        clear hc HF4
        obtain ⟨aW, cW, rfl, hT, hTb⟩ := holdT_row HO2.out
        have HT := hidd hT
        have HTb := hidd hTb
        clear hT hTb HO2
        generalize brkList s = W at *
        go_wp2_with fail
        go_loopw [8, 9] (fun v i wx => ∃ (k : Nat) (o : List Tk), k ≤ W.length ∧ i = .int .i64 k ∧ wx.ownsRow w2.heap.size 35 4 v o.length (toksCells o) ∧ o.length ≤ 8192 ∧ azGo (formsOf fo st ph stops syns lo hi) o (W.drop k) = (L, C) ∧ Below w2.heap.size w2 wx) (fun _ i _ => W.length - (intOf i).toNat)
        case atStart => exact ⟨0, [], by omega, rfl, own4_empty w2 _, by simp, HF5.out, (Below.refl _ _).alloc (Nat.le_refl _) _⟩
        case round =>
          obtain ⟨k, o, hk, rfl, hown, hol, hgo, hbx⟩ := hrel
          have HO := hidd hown
          have HG := hidd hgo
          have HBx := hidd hbx
          have HKx := hidd (blko HK2.out hbx)
          have HSx := hidd (HS2.out.below hbx)
          have HYx := hidd (HY2.out.below hbx)
          have HTx := hidd (HT.out.below hbx)
          have hwx := hbx.size
          clear hown hgo hbx HF5
          by_cases hlt : k < W.length
          · have hvz := HBO.out (W.getD k tk0) (by rw [List.getD_eq_getElem?_getD, List.getElem?_eq_getElem hlt, Option.getD_some]; exact List.getElem_mem _)
            have HST := hidd (azGo_drop (formsOf fo st ph stops syns lo hi) o W k hlt)
            obtain ⟨b, off, rfl, hbl2, hc⟩ := HTx.out.resolve_left (fun h => by rw [h] at hlt; simp at hlt)
            obtain ⟨g0, -, -, -⟩ := hc k hlt
            clear hc
            obtain ⟨tk, htk⟩ : ∃ tk, W.getD k tk0 = tk := ⟨_, rfl⟩
            have Htk := hidd htk
            rw [htk] at hvz g0 HST
            clear htk
            obtain ⟨tx, p0, p1, p2⟩ := tk
            obtain ⟨fl, fc, hf⟩ : ∃ fl fc, formsOf fo st ph stops syns lo hi tx = (fl, fc) := ⟨_, _, rfl⟩
            have hfl := formsOf_len fo st ph stops syns lo hi tx hn2
            have HFf := hidd hf
            rw [hf] at hfl HST
            clear hf
            dsimp only at hfl HST hvz g0
            have HV := hidd hvz.1
            have htz := hvz.2
            clear hvz
            have q0 : wr.cell? ⟨B, 0, none⟩ = some (.bool fo) := blkc HKx.out 0
            have q1 : wr.cell? ⟨B, 1, none⟩ = some (.bool st) := blkc HKx.out 1
            have q2 : wr.cell? ⟨B, 2, none⟩ = some (.bool ph) := blkc HKx.out 2
            have q3 : wr.cell? ⟨B, 3, none⟩ = some (.slice aS stops.length cS) := blkc HKx.out 3
            have q4 : wr.cell? ⟨B, 4, none⟩ = some (.slice aY syns.length cY) := blkc HKx.out 4
            have q5 : wr.cell? ⟨B, 5, none⟩ = some (.int .i64 lo) := blkc HKx.out 5
            have q6 : wr.cell? ⟨B, 6, none⟩ = some (.int .i64 hi) := blkc HKx.out 6
            have HC : Hid (∀ (u : World) (Q : Ending → World → Prop), Below wr.heap.size wr u → (∀ v w', w'.ownsRow wr.heap.size 9 1 v fl.length (sCells fl) → Below wr.heap.size wr w' → Q (.returned (.tuple #[v, .int .i64 fc])) w') → Calls Tryz.prog 32 #[.agg #[.bool fo, .bool st, .bool ph, .slice aS stops.length cS, .slice aY syns.length cY, .int .i64 lo, .int .i64 hi], .string (bs tx)] u Q) := fun u Q hu hQ =>
              (forms_any fo st ph aS aY cS cY stops syns lo hi tx u (HSx.out.below hu) (HYx.out.below hu) hn1 hn2 HN3.out htz HV.out fl fc HFf).mono fun e w' h => by obtain ⟨v, rfl, h1, h2⟩ := h; exact hQ v w' (own_mono h1 hu.size) (hu.trans (h2.mono hu.size))
            go_upto_region 12 with fail
            go_cut [10, 11] (fun a c wy => c = .int .i64 fc ∧ wy.ownsRow wr.heap.size 9 1 a fl.length (sCells fl) ∧ Below wr.heap.size wr wy)
            case first =>
              go_region_with (go_at_call 32; refine HC.out _ _ (below_drewN (Below.refl _ _) 1) ?_; intro v3 w3 hown3 hb3)
              all_goals go_wp2_with fail
              all_goals
                go_meet
                case rel => exact ⟨rfl, hown3, hb3⟩
            case rest =>
              obtain ⟨rfl, hown3, hb3⟩ := hcut
              have HO3 := hidd (own4_below HO.out hb3)
              have HT3 := hidd (HTx.out.below hb3)
              have HB3 := hidd (HBx.out.trans (hb3.mono HBx.out.size))
              have HBf : Hid (Below B w wc) := HB2.out.trans (HB3.out.mono (by omega))
              have hf3 := HBf.out.size
              clear q0 q1 q2 q3 q4 q5 q6 g0 HC hb3
              by_cases hfc : fc = 0
              · subst hfc
                have HST2 : Hid ((if (o ++ withT (tx, p0, p1, p2) fl).length ≤ 8192 then azGo (formsOf fo st ph stops syns lo hi) (o ++ withT (tx, p0, p1, p2) fl) (W.drop (k + 1)) else ([], 11)) = (L, C)) := by
                  show _ = _
                  have h := HG.out
                  rw [HST.out, if_pos rfl] at h
                  exact h
                obtain ⟨aF, cF, rfl, hhF, hbF⟩ := holdS_row hown3
                have HHF := hidd hhF
                have HNe := hidd (own4_ne HO.out (fun b off e => (hbF b off e).1))
                clear hown3 hhF hbF HST HG HO HTx HBx HKx HSx HYx HFf
                go_wp2_with fail
                generalize wc = w4 at *
                go_loopw [8, 12] (fun v i wx => ∃ j : Nat, j ≤ fl.length ∧ i = .int .i64 j ∧ wx.ownsRow w2.heap.size 35 4 v (o ++ withT (tx, p0, p1, p2) (fl.take j)).length (toksCells (o ++ withT (tx, p0, p1, p2) (fl.take j))) ∧ HoldS wx aF fl ∧ (∀ b off, aF = some ⟨b, off, none⟩ → some b ≠ v.ownBlock) ∧ HoldT wx (some ⟨b, off, none⟩) W ∧ Below w2.heap.size w2 wx) (fun _ i _ => fl.length - (intOf i).toNat)
                case atStart => exact ⟨0, by omega, rfl, by rw [show o ++ withT (tx, p0, p1, p2) (fl.take 0) = o from List.append_nil o]; exact HO3.out, HHF.out, HNe.out, HT3.out, HB3.out⟩
                case round =>
                  obtain ⟨j, hj, rfl, hown, hh, hne, hht, hby⟩ := hrel
                  have HAo := hidd hown
                  have HAh := hidd hh
                  have HAe := hidd hne
                  have HAt := hidd hht
                  have HAb := hidd hby
                  have h2r := hby.size
                  clear hown hh hne hht hby HO3 HHF HNe HT3 HB3
                  by_cases hjl : j < fl.length
                  · obtain ⟨bF, oF, rfl, hbFl, hcF⟩ := HAh.out.resolve_left (fun h => by rw [h] at hjl; simp at hjl)
                    have f0 := hcF j hjl
                    obtain ⟨b', off', e', hbl', hcT⟩ := HAt.out.resolve_left (fun h => by rw [h] at hlt; simp at hlt)
                    cases e'
                    obtain ⟨t0, t1, t2, t3⟩ := hcT k hlt
                    rw [Htk.out] at t0 t1 t2 t3
                    dsimp only at t0 t1 t2 t3
                    have HAD : Hid (o ++ withT (tx, p0, p1, p2) (fl.take (j + 1)) = (o ++ withT (tx, p0, p1, p2) (fl.take j)) ++ [(fl.getD j [], p0, p1, p2)]) := by
                      show _ = _
                      rw [withT_snoc _ _ _ hjl, List.append_assoc]
                    have hal : (o ++ withT (tx, p0, p1, p2) (fl.take j)).length ≤ 8192 + 266240 := by
                      rw [List.length_append, withT_len, List.length_take]; omega
                    clear hcF hcT
                    generalize fl.getD j [] = y at *
                    generalize o ++ withT (tx, p0, p1, p2) (fl.take j) = A at *
                    have hbW : b < w2.heap.size := (HTb.out b off rfl).2
                    go_wp2_with (at_builtin; refine wpList_append_own_at _ rfl _ _ 29 rfl w2.heap.size 35 i0 (.agg #[.string ⟨#[]⟩, .int .i64 0, .int .i64 0, .int .i64 0]) 4 40 Tryz.underlying29 hi0 hz0 hz1 hz2 rfl (by decide) _ _ _ rfl ((HAo.out.alloc _).alloc _) ⟨wr.heap.size + 1, 0, none⟩ 1 1 [.string (bs y), .int .i64 p0, .int .i64 p1, .int .i64 p2] rfl rfl ?c1 ?c2 ?c3 ?c4 ?c5 ?_)
                    case c1 =>
                      intro q u hq
                      match q, hq with
                      | 0, hq => simp at hq; subst hq; simp [Addr.add]
                      | 1, hq => simp at hq; subst hq; simp [Addr.add]
                      | 2, hq => simp at hq; subst hq; simp [Addr.add]
                      | 3, hq => simp at hq; subst hq; simp [Addr.add]
                      | q + 4, hq => simp at hq
                    case c2 =>
                      intro u hu
                      simp at hu
                      rcases hu with rfl | rfl | rfl | rfl <;> rfl
                    case c3 => unfold maxLen; omega
                    case c4 => omega
                    case c5 => simp; omega
                    intro v' w6 hown' hgrow hne hat
                    have RR : Hid (w6.ownsRow w2.heap.size 35 4 v' (A ++ [(y, p0, p1, p2)]).length (toksCells (A ++ [(y, p0, p1, p2)])) ∧ HoldS w6 (some ⟨bF, oF, none⟩) fl ∧ (∀ b' off', some (⟨bF, oF, none⟩ : Addr) = some ⟨b', off', none⟩ → some b' ≠ v'.ownBlock) ∧ HoldT w6 (some ⟨b, off, none⟩) W ∧ Below w2.heap.size w2 w6) := by
                      refine ⟨?_, (HAh.out.below (((Below.refl _ _).alloc (Nat.le_refl _) _).alloc (by simp) _)).grown hgrow HAe.out, ?_, (HAt.out.below (((Below.refl _ _).alloc (Nat.le_refl _) _).alloc (by simp) _)).grown hgrow (fun b' off' e1 => by cases e1; exact own4_low HAo.out hbW), ((HAb.out.alloc h2r _).alloc (by simp; omega) _).grown hgrow (by simp; omega) (own4_block HAo.out)⟩
                      · rw [toksCells_snoc, List.length_append]
                        exact hown'
                      · intro b1 off1 e1
                        rcases hat with h | h
                        · rw [h]; exact HAe.out b1 off1 e1
                        · rw [h]
                          cases e1
                          intro e2
                          have e3 := Option.some.inj e2
                          try simp at e3
                          omega
                    clear hown' hgrow hne hat HAo HAh HAe HAt HAb
                    go_wp2_with fail
                    go_roundw
                    case rel => exact ⟨j + 1, by omega, by go_num, by rw [HAD.out]; exact RR.out.1, RR.out.2.1, RR.out.2.2.1, RR.out.2.2.2.1, RR.out.2.2.2.2⟩
                    case measure => simp [intOf]; omega
                  · have HAf := HAo.out
                    rw [List.take_of_length_le (by omega)] at HAf
                    have HO5 := hidd HAf
                    clear HAf HAo HAh HAe HAt
                    obtain ⟨aO, cO, rfl⟩ := own4_len HO5.out
                    generalize o ++ withT (tx, p0, p1, p2) fl = A at *
                    by_cases h8 : A.length ≤ 8192
                    · have h8z : ¬ (8192 : Int) < (A.length : Int) := by omega
                      have HST3 : Hid (azGo (formsOf fo st ph stops syns lo hi) A (W.drop (k + 1)) = (L, C)) := by
                        show _ = _
                        have h := HST2.out
                        rw [if_pos h8] at h
                        exact h
                      clear HST2
                      go_wp2_with fail
                      go_roundw
                      case rel => exact ⟨k + 1, A, by omega, by go_num, HO5.out, h8, HST3.out, HAb.out⟩
                      case measure => simp [intOf]; omega
                    · have h8z : (8192 : Int) < (A.length : Int) := by omega
                      have HE : Hid (L = [] ∧ C = 11) := by
                        have h := HST2.out
                        rw [if_neg h8] at h
                        exact ⟨(Prod.mk.inj h).1.symm, (Prod.mk.inj h).2.symm⟩
                      clear HST2
                      go_wp2_with fail
                      go_ret2
                      rw [HE.out.1, HE.out.2]
                      try rw [hB]
                      exact ⟨_, rfl, own4_mono (own4_empty wr _) (by omega), (HB2.out.trans (HAb.out.mono (by omega))).alloc (by omega) _⟩
              · have HE : Hid (L = [] ∧ C = fc) := by
                  have h := HG.out
                  rw [HST.out, if_neg hfc] at h
                  exact ⟨(Prod.mk.inj h).1.symm, (Prod.mk.inj h).2.symm⟩
                have hcn : (fc != 0) = true := by rw [bne_iff_ne]; exact hfc
                clear hfc HG HST HO3 HT3 hown3
                go_wp2_with fail
                go_ret2
                rw [HE.out.1, HE.out.2]
                try rw [hB]
                exact ⟨_, rfl, own4_mono (own4_empty wc _) (by omega), HBf.out.alloc (by omega) _⟩
          · have HE : Hid (L = o ∧ C = 0) := by
              have h := HG.out
              rw [List.drop_of_length_le (by omega), azGo] at h
              exact ⟨(Prod.mk.inj h).1.symm, (Prod.mk.inj h).2.symm⟩
            go_wp2_with fail
            go_ret2
            rw [HE.out.1, HE.out.2]
            try rw [hB]
            exact ⟨_, rfl, own4_mono HO.out (by omega), HB2.out.trans (HBx.out.mono (by omega))⟩
      · have HE : Hid (L = [] ∧ C = brkCode s) := by
          have h := HF4.out
          rw [if_neg hc] at h
          exact ⟨(Prod.mk.inj h).1.symm, (Prod.mk.inj h).2.symm⟩
        have hcn : (brkCode s != 0) = true := by rw [bne_iff_ne]; exact hc
        clear hc HF4 HO2
        generalize brkCode s = c at *
        go_wp2_with fail
        go_ret2
        rw [HE.out.1, HE.out.2]
        try rw [hB]
        exact ⟨_, rfl, own4_mono (own4_empty w2 _) (by omega), HB2.out.alloc (by omega) _⟩
end Go.Proofs.YtionicjnoogpjaaGreatDoor
