import Derived.Test.YtionicjnoogpjaaGreatDoorAnalyzJ08
namespace Go.Proofs.YtionicjnoogpjaaGreatDoor
open Go Go.RowKit
set_option linter.unusedVariables false

theorem ext_le (s : ByteArray) (a b : Nat) (h : s.size ≤ 65536) : (s.extract a b).size ≤ 65536 := by
  rw [← data_len, Lib.extract_data, List.length_take, List.length_drop, data_len]
  omega
theorem slice_text (s : ByteArray) (a b : Nat) (bz : Int) (hb : bz = (b : Int)) (h1 : a ≤ b) (h2 : b ≤ s.size) (w : World) :
    (Instr.slice 9 (.string s) (some (.int .i64 (a : Int))) (some (.int .i64 bz)) none).run Tryz.prog w = .ok (.string (s.extract a b)) w := by
  subst hb
  have h := run_slice_string (P := Tryz.prog) w 9 s .i64 .i64 (a : Int) (b : Int) Tryz.underlying9 (by omega) (by omega) (by omega)
  simpa using h
set_option maxHeartbeats 4000000 in
set_option maxRecDepth 100000 in
theorem implBreak_any (s : ByteArray) (w : World) (hs : s.size ≤ 1048576) (hT : Tabs w) :
    Calls Tryz.prog 33 #[.string s] w fun e w' => ∃ v, e = .returned (.tuple #[v, .int .i64 (brkCode s)]) ∧ w'.ownsRow w.heap.size 35 4 v (brkList s).length (toksCells (brkList s)) ∧ Below w.heap.size w w' := by
  have HT := hidd hT
  clear hT
  obtain ⟨i0, hi, hz0, hz1, hz2⟩ := info_parts Tryz.infoTok
  by_cases hc : decCode s = 0
  · have HD := hidd (dec_okB s hc)
    have hsz := (dec_okB s hc).2
    have HC := hidd hc
    have HBC : Hid (brkCode s = if 8192 < (allToks s).length then 11 else 0) := by show _ = _; rw [brkCode, if_pos hc]
    have HBL : Hid (brkList s = if 8192 < (allToks s).length then [] else allToks s) := by show _ = _; rw [brkList, if_pos hc]
    clear hc
    go_enter Tryz.func33, Tryz.ntmps33
    go_wp2_with fail
    go_step3
    go_wp2_with fail
    refine (textCode_any s _ hs HT.out).mono ?_
    rintro e w1 ⟨rfl, hb1⟩
    rw [HC.out]
    go_wp2
    go_step3
    go_wp2
    have hz1' := hb1.size
    have hit0 := hidd (World.iter_heap w1 s 0)
    have hb0 : Below w.heap.size w (w1.iter s 0) := hb1.alloc hb1.size _
    generalize w1.iter s 0 = w2 at hit0 hb0 ⊢
    generalize w1.heap.size = I at *
    clear hb1
    go_loopw [5, 6] (fun v ev wr => ∃ (p e : Nat) (acc : List Tk), p ≤ s.size ∧ e ≤ s.size ∧ ev = .int .i64 (e : Int) ∧ wr.heap[I]? = some (.stringIter s p) ∧ Below w.heap.size w wr ∧ vFrom s p = true ∧ wr.ownsRow w.heap.size 35 4 v acc.length (toksCells acc) ∧ BrkAt s p e acc ∧ acc.length ≤ 8192) (fun _ _ wr => s.size - wr.iterPos I)
    case atStart => exact ⟨0, 0, [], by omega, by omega, rfl, hit0.out, hb0, by rw [vFrom_zero]; exact HD.out.1, World.ownsRow_nil _ _ _ _, BrkAt_start s, by simp⟩
    case round =>
      obtain ⟨p, e, acc, hps, hes, rfl, hit, hbel, hv, hown, hB, hal⟩ := hrel
      clear hit0 hb0
      have hIlt : I < wr.heap.size := (Array.getElem?_eq_some_iff.1 hit).1
      obtain ⟨ao, cap, rfl⟩ := own4_len hown
      by_cases hlt : p < s.size
      · have hnx : ∀ ty, (Instr.next (.pointer (some ⟨I, 0, none⟩)) true ty).run Tryz.prog wr = _ := fun ty => Lib.run_next_any_at wr I s p ty hit hlt
        have hw := width_le s p hlt
        have hr := rune_le s p
        have hg := good_of s p hlt hv
        have Hrl := hidd (runeLen_eq _ (rune_chr s p hg))
        have Hrw := hidd (rune_width s p hlt hg)
        have Hv2 : Hid (vFrom s (p + (Utf8.decode s p).2) = true) := by show _ = _; rw [vFrom_good s p hlt hg]; exact hv
        have HV := hidd hv
        have Hst := hidd (Rs_step s p hlt)
        have HSk := hidd (fun h => BrkAt_skip s p e acc hlt hg h hB)
        have HNo := hidd (fun h h1 h2 => BrkAt_none s p e acc hlt hg h h1 h2 hB)
        have HWd := hidd (fun k h h1 h2 => BrkAt_word s p e k acc hlt hv h h1 h2 hB)
        have Hcutk := hidd (fun k => cut_text s p k hps hv)
        have Hlek := hidd (fun k => Rs_take_le s k p hps hv)
        have hit2 := hidd (Lib.iterAt_heap wr I s p (p + (Utf8.decode s p).2) hit)
        have hbel2 := hidd (Lib.below_iterAt hbel (k := I) hz1' s (p + (Utf8.decode s p).2))
        have HO2 := hidd (own4_iterAt hown hit (p + (Utf8.decode s p).2))
        have Hpos := hidd (iterPos_of hit)
        clear hB hg hv hbel hown hit
        generalize (Utf8.decode s p).1 = r at *
        generalize (Utf8.decode s p).2 = n at *
        generalize wr.iterAt I s (p + n) = wi at *
        have hI2 : I < wi.heap.size := (Array.getElem?_eq_some_iff.1 hit2.out).1
        by_cases hpe : p < e
        · have hpz : (p : Int) < (e : Int) := by omega
          have HB2 := hidd (HSk.out hpe)
          clear HSk HNo HWd
          go_wp2
          go_roundw
          case rel => exact ⟨p + n, e, acc, by omega, by omega, rfl, hit2.out, hbel2.out, Hv2.out, HO2.out, HB2.out, hal⟩
          case measure => rw [iterPos_of hit2.out, Hpos.out]; omega
        · have hpz : ¬ (p : Int) < (e : Int) := by omega
          have hch := hidd (implClass_any (r : Int))
          by_cases h4 : clsZ (r : Int) = 4
          · have Hb1 : Hid (blen ((Rs s p).take 1) = n) := by show _ = _; rw [Hst.out, List.take_succ_cons, List.take_zero, blen_cons, blen_nil, Hrw.out]; rfl
            have HW := hidd (HWd.out 1 (by omega) (by rw [Hst.out]; exact wordK_wide _ _ h4) (by omega))
            have Hcut := hidd (Hcutk.out 1)
            obtain ⟨txt, htxt⟩ : ∃ txt, txt = encs ((Rs s p).take 1) := ⟨_, rfl⟩
            rw [← htxt, Hb1.out] at HW Hcut
            clear HSk HNo HWd Hcutk Hlek htxt
            rw [h4] at hch
            clear h4
            have HO3 := HO2
            have Hit3 := hit2
            have HB3 := hbel2
            have hI3 := hI2
            clear HO2 hit2 hbel2 hI2
            go_wp2_with fail
            refine (hch.out _).mono ?_
            rintro e' w2 ⟨rfl, rfl⟩
            go_wp2_with fail
            refine (Tryz.utf8_RuneLen _ _).mono ?_
            rintro e' w2 ⟨rfl, rfl⟩
            rw [Hrl.out, Hrw.out]
            by_cases hfull : acc.length = 8192
            · have hfz : ((acc.length : Int) == 8192) = true := beq_iff_eq.2 (by omega)
              have hgt : 8192 < (allToks s).length := by have := HW.out.1; rw [List.length_append, List.length_cons, List.length_nil] at this; omega
              have Hgt := hidd hgt
              clear hgt hfull
              go_wp2
              rw [Exit.noGoto_ret]
              go_ret2
              rw [HBC.out, HBL.out, if_pos Hgt.out, if_pos Hgt.out]
              exact ⟨_, rfl, World.ownsRow_nil _ _ _ _, HB3.out⟩
            · have hfz : ((acc.length : Int) == 8192) = false := beq_eq_false_iff_ne.2 (by omega)
              have hal2 : acc.length + 1 ≤ 8192 := by omega
              have hsl := fun wx => slice_text s p (p + n) ((p : Int) + (n : Int)) (by omega) (by omega) (by omega) wx
              clear hfull
              go_wp2_with fail
              refine (clone_any (s.extract p (p + n)) _ (ext_le s p (p + n) hsz)).mono ?_
              rintro e' w4 ⟨rfl, hb4⟩
              rw [Hcut.out]
              have HB4 := hidd (HB3.out.trans (hb4.mono HB3.out.size))
              have HO4 := hidd (own4_below HO3.out hb4)
              have Hit4 : Hid (w4.heap[I]? = some (.stringIter s (p + n))) := by show _ = _; rw [hb4.block I hI3]; exact Hit3.out
              have hI4 : I < w4.heap.size := (Array.getElem?_eq_some_iff.1 Hit4.out).1
              clear hb4 HO3 Hit3 HB3 hI3
              have hz4 : w.heap.size ≤ w4.heap.size := HB4.out.size
              obtain ⟨tk, htk⟩ : ∃ tk : Tk, tk = (txt, acc.length, p, p + n) := ⟨_, rfl⟩
              have Htk := hidd htk
              have Hnew := hidd (tok_cell_new w4 tk 35)
              have Hone := hidd (tok_one tk)
              have Htc : Hid (tokCells tk = [.string ⟨txt.toArray⟩, .int .i64 acc.length, .int .i64 p, .int .i64 ((p + n : Nat) : Int)]) := by show _ = _; rw [htk]; rfl
              rw [Htc.out] at Hnew Hone
              clear htk
              go_wp2_with (at_builtin; refine wpList_append_own _ rfl _ _ 29 rfl w.heap.size 35 i0 (.agg #[.string ⟨#[]⟩, .int .i64 0, .int .i64 0, .int .i64 0]) 4 40 Tryz.underlying29 hi hz0 hz1 hz2 rfl (by decide) _ _ _ rfl (HO4.out.alloc _) ⟨w4.heap.size, 0, none⟩ 1 1 [.string ⟨txt.toArray⟩, .int .i64 acc.length, .int .i64 p, .int .i64 ((p + n : Nat) : Int)] rfl rfl ?c1 ?c2 ?c3 ?c4 ?c5 ?_)
              case c1 => exact Hnew.out
              case c2 => exact Hone.out
              case c3 => unfold maxLen; omega
              case c4 => omega
              case c5 => simp; omega
              intro v' w5 hown' hgrow hne
              have R : Hid (w5.ownsRow w.heap.size 35 4 v' (acc ++ [tk]).length (toksCells (acc ++ [tk])) ∧ w5.heap[I]? = some (.stringIter s (p + n)) ∧ Below w.heap.size w w5) := by
                refine ⟨?_, ?_, (HB4.out.alloc hz4 _).grown hgrow (by simp; omega) (own4_block HO4.out)⟩
                · rw [List.length_append, toksCells_snoc, Htc.out]
                  exact hown'
                · rw [hgrow.block I (by simp; omega) (own4_ne_iter HO4.out Hit4.out), Below.heap_alloc _ _ _ hI4]
                  exact Hit4.out
              clear hown' hgrow HO4 Hit4 HB4 Hnew Hone
              go_wp2
              go_roundw
              case rel => exact ⟨p + n, p + n, acc ++ [tk], by omega, by omega, by go_num, R.out.2.1, R.out.2.2, Hv2.out, R.out.1, by rw [Htk.out]; exact HW.out.2, by rw [List.length_append, List.length_cons, List.length_nil]; omega⟩
              case measure => rw [iterPos_of R.out.2.1, Hpos.out]; omega
          · have hc4 : (clsZ (r : Int) == 4) = false := beq_eq_false_iff_ne.2 h4
            by_cases hin : innB (r : Int) = true
            · have HW := hidd (HWd.out (runK (Rs s p)) (by omega) (by rw [Hst.out]; exact wordK_inn _ _ hin) (by rw [Hst.out, runK_inn _ _ hin]; omega))
              have Hcut := hidd (Hcutk.out (runK (Rs s p)))
              have hEle := Hlek.out (runK (Rs s p))
              have Hrun := hidd (fun w0 => runEnd_any s p w0 hsz hlt HV.out)
              have hcl := (inn_cls _).1 hin
              obtain ⟨txt, htxt⟩ : ∃ txt, txt = encs ((Rs s p).take (runK (Rs s p))) := ⟨_, rfl⟩
              obtain ⟨E, hE⟩ : ∃ E, E = p + blen ((Rs s p).take (runK (Rs s p))) := ⟨_, rfl⟩
              have hpE : p ≤ E := by omega
              rw [← htxt, ← hE] at HW Hcut
              rw [← hE] at hEle Hrun
              clear HSk HNo HWd Hcutk Hlek htxt hE hin
              generalize clsZ (r : Int) = c at *
              rcases hcl with rfl | rfl
              all_goals
                go_wp2_with fail
                refine (hch.out _).mono ?_
                rintro e' w2 ⟨rfl, rfl⟩
                go_wp2_with fail
                refine (Hrun.out _).mono ?_
                rintro e' w3 ⟨rfl, hb3⟩
                have HO3 := hidd (own4_below HO2.out hb3)
                have Hit3 : Hid (w3.heap[I]? = some (.stringIter s (p + n))) := by show _ = _; rw [hb3.block I hI2]; exact hit2.out
                have HB3 := hidd (hbel2.out.trans (hb3.mono hbel2.out.size))
                have hI3 : I < w3.heap.size := (Array.getElem?_eq_some_iff.1 Hit3.out).1
                clear hb3
                by_cases hfull : acc.length = 8192
                · have hfz : ((acc.length : Int) == 8192) = true := beq_iff_eq.2 (by omega)
                  have hgt : 8192 < (allToks s).length := by have := HW.out.1; rw [List.length_append, List.length_cons, List.length_nil] at this; omega
                  have Hgt := hidd hgt
                  clear hgt hfull
                  go_wp2
                  rw [Exit.noGoto_ret]
                  go_ret2
                  rw [HBC.out, HBL.out, if_pos Hgt.out, if_pos Hgt.out]
                  exact ⟨_, rfl, World.ownsRow_nil _ _ _ _, HB3.out⟩
                · have hfz : ((acc.length : Int) == 8192) = false := beq_eq_false_iff_ne.2 (by omega)
                  have hal2 : acc.length + 1 ≤ 8192 := by omega
                  have hsl := fun wx => slice_text s p (E) ((E : Int)) (by omega) (by omega) (by omega) wx
                  clear hfull
                  go_wp2_with fail
                  refine (clone_any (s.extract p (E)) _ (ext_le s p (E) hsz)).mono ?_
                  rintro e' w4 ⟨rfl, hb4⟩
                  rw [Hcut.out]
                  have HB4 := hidd (HB3.out.trans (hb4.mono HB3.out.size))
                  have HO4 := hidd (own4_below HO3.out hb4)
                  have Hit4 : Hid (w4.heap[I]? = some (.stringIter s (p + n))) := by show _ = _; rw [hb4.block I hI3]; exact Hit3.out
                  have hI4 : I < w4.heap.size := (Array.getElem?_eq_some_iff.1 Hit4.out).1
                  clear hb4 HO3 Hit3 HB3 hI3
                  have hz4 : w.heap.size ≤ w4.heap.size := HB4.out.size
                  obtain ⟨tk, htk⟩ : ∃ tk : Tk, tk = (txt, acc.length, p, E) := ⟨_, rfl⟩
                  have Htk := hidd htk
                  have Hnew := hidd (tok_cell_new w4 tk 35)
                  have Hone := hidd (tok_one tk)
                  have Htc : Hid (tokCells tk = [.string ⟨txt.toArray⟩, .int .i64 acc.length, .int .i64 p, .int .i64 ((E : Nat) : Int)]) := by show _ = _; rw [htk]; rfl
                  rw [Htc.out] at Hnew Hone
                  clear htk
                  go_wp2_with (at_builtin; refine wpList_append_own _ rfl _ _ 29 rfl w.heap.size 35 i0 (.agg #[.string ⟨#[]⟩, .int .i64 0, .int .i64 0, .int .i64 0]) 4 40 Tryz.underlying29 hi hz0 hz1 hz2 rfl (by decide) _ _ _ rfl (HO4.out.alloc _) ⟨w4.heap.size, 0, none⟩ 1 1 [.string ⟨txt.toArray⟩, .int .i64 acc.length, .int .i64 p, .int .i64 ((E : Nat) : Int)] rfl rfl ?c1 ?c2 ?c3 ?c4 ?c5 ?_)
                  case c1 => exact Hnew.out
                  case c2 => exact Hone.out
                  case c3 => unfold maxLen; omega
                  case c4 => omega
                  case c5 => simp; omega
                  intro v' w5 hown' hgrow hne
                  have R : Hid (w5.ownsRow w.heap.size 35 4 v' (acc ++ [tk]).length (toksCells (acc ++ [tk])) ∧ w5.heap[I]? = some (.stringIter s (p + n)) ∧ Below w.heap.size w w5) := by
                    refine ⟨?_, ?_, (HB4.out.alloc hz4 _).grown hgrow (by simp; omega) (own4_block HO4.out)⟩
                    · rw [List.length_append, toksCells_snoc, Htc.out]
                      exact hown'
                    · rw [hgrow.block I (by simp; omega) (own4_ne_iter HO4.out Hit4.out), Below.heap_alloc _ _ _ hI4]
                      exact Hit4.out
                  clear hown' hgrow HO4 Hit4 HB4 Hnew Hone
                  go_wp2
                  go_roundw
                  case rel => exact ⟨p + n, E, acc ++ [tk], by omega, by omega, by go_num, R.out.2.1, R.out.2.2, Hv2.out, R.out.1, by rw [Htk.out]; exact HW.out.2, by rw [List.length_append, List.length_cons, List.length_nil]; omega⟩
                  case measure => rw [iterPos_of R.out.2.1, Hpos.out]; omega
            · have hin' : innB (r : Int) = false := by simpa using hin
              have hcl := (inn_not _).1 hin'
              have hc1 : (clsZ (r : Int) == 1) = false := beq_eq_false_iff_ne.2 hcl.1
              have hc2 : (clsZ (r : Int) == 2) = false := beq_eq_false_iff_ne.2 hcl.2
              have HB2 := hidd (HNo.out (by omega) hin' h4)
              clear HSk HNo HWd hin hin' hcl h4
              generalize clsZ (r : Int) = c at *
              go_wp2_with fail
              refine (hch.out _).mono ?_
              rintro e' w2 ⟨rfl, rfl⟩
              go_wp2
              go_roundw
              case rel => exact ⟨p + n, e, acc, by omega, by omega, rfl, hit2.out, hbel2.out, Hv2.out, HO2.out, HB2.out, hal⟩
              case measure => rw [iterPos_of hit2.out, Hpos.out]; omega
      · have hnx : ∀ ty, (Instr.next (.pointer (some ⟨I, 0, none⟩)) true ty).run Tryz.prog wr = _ := fun ty => Lib.run_next_end_at wr I s p ty hit hlt
        have HA := hidd (BrkAt_end s p e acc hlt hes hB)
        have HO := hidd hown
        clear hit hv hown hB
        go_wp2
        rw [Exit.noGoto_ret]
        go_ret2
        rw [HBC.out, HBL.out, HA.out, if_neg (by omega), if_neg (by omega)]
        exact ⟨_, rfl, HO.out, hbel⟩
  · have hcn : (decCode s != 0) = true := by rw [bne_iff_ne]; exact hc
    have HBC : Hid (brkCode s = decCode s) := by show _ = _; rw [brkCode, if_neg hc]
    have HBL : Hid (brkList s = []) := by show _ = _; rw [brkList, if_neg hc]
    clear hc
    go_enter Tryz.func33, Tryz.ntmps33
    go_wp2_with fail
    go_step3
    go_wp2_with fail
    refine (textCode_any s _ hs HT.out).mono ?_
    rintro e w1 ⟨rfl, hb1⟩
    go_wp2
    rw [Exit.noGoto_ret]
    go_ret2
    rw [HBC.out, HBL.out]
    exact ⟨_, rfl, World.ownsRow_nil _ _ _ _, hb1⟩
end Go.Proofs.YtionicjnoogpjaaGreatDoor
