import Derived.Test.YtionicjnoogpjaaGreatDoorAnalyzJ27
namespace Go.Proofs.YtionicjnoogpjaaGreatDoor
open Go Go.RowKit
set_option linter.unusedVariables false

theorem own4_empty (w : World) (e : TypeId) : (w.alloc (.cells #[] e)).ownsRow w.heap.size e 4 (.slice (some ⟨w.heap.size, 0, none⟩) 0 0) 0 [] := by
  have := World.ownsRow_lit (base := w.heap.size) (e := e) (size := 4) w #[] 0 (Nat.le_refl _) (by unfold maxLen; omega) (by simp)
  simpa using this
theorem own4_mono {w : World} {base base' e n : Nat} {v : Value} {xs : List Value} (h : w.ownsRow base e 4 v n xs) (hb : base' ≤ base) : w.ownsRow base' e 4 v n xs := by
  refine ⟨h.1, ?_⟩
  rcases h.2 with h' | ⟨g, cap, cur, h1, h2, h3⟩
  · exact Or.inl h'
  · exact Or.inr ⟨g, cap, cur, h1, Nat.le_trans hb h2, h3⟩
theorem dec_list (s : ByteArray) (h : decCode s = 0) : decList s = runes s := by
  have := dec_okB s h
  rw [decList, if_neg (by omega), decL, if_pos this.1]
set_option maxHeartbeats 8000000 in
set_option maxRecDepth 100000 in
theorem specBreak_any (s : ByteArray) (w : World) (hs : s.size ≤ 1048576) :
    Calls Tryz.prog 10 #[.string s] w fun e w' => ∃ v, e = .returned (.tuple #[v, .int .i64 (brkCode s)]) ∧ w'.ownsRow w.heap.size 35 4 v (brkList s).length (toksCells (brkList s)) ∧ Below w.heap.size w w' := by
  obtain ⟨i0, hi, hz0, hz1, hz2⟩ := info_parts Tryz.infoTok
  by_cases hc : decCode s = 0
  · have HD := hidd (dec_okB s hc)
    have hsz := (dec_okB s hc).2
    have HC := hidd hc
    have HDL := hidd (dec_list s hc)
    have HBC : Hid (brkCode s = if 8192 < (allToks s).length then 11 else 0) := by show _ = _; rw [brkCode, if_pos hc]
    have HBL : Hid (brkList s = if 8192 < (allToks s).length then [] else allToks s) := by show _ = _; rw [brkList, if_pos hc]
    have HSP := hidd (SpAt_start (runes s))
    have HAT : Hid (toks (runes s).length (runes s) 0 0 = allToks s) := rfl
    rw [HAT.out] at HSP
    have Hchr := hidd (runes_chr s (dec_okB s hc).1)
    have hLn := runes_le s
    clear hc HAT
    go_enter Tryz.func10, Tryz.ntmps10
    go_wp2_with fail
    refine (specDecode_any s _ hs).mono ?_
    rintro e' w1 ⟨v, rfl, hownL, hb0⟩
    rw [HDL.out] at hownL
    rw [HC.out]
    obtain ⟨L, hL⟩ : ∃ L, L = runes s := ⟨_, rfl⟩
    rw [← hL] at hownL HSP Hchr hLn
    clear hL HDL
    have Hb0 := hidd hb0
    have hzw : w.heap.size ≤ w1.heap.size := hb0.size
    clear hb0
    have hbl : blen L ≤ 262144 := by have := encs_le L; show (encs L).length ≤ _; omega
    rcases own_cases hownL with ⟨rfl, hz⟩ | ⟨g, cap, rfl, hbg, hgl⟩
    · obtain rfl : L = [] := List.eq_nil_of_length_eq_zero hz
      have HA := hidd (SpAt_end [] 0 0 [] (allToks s) (by simp) HSP.out)
      clear hownL Hchr
      go_wp2
      refine wp_loop_rounds 1 ?_
      rw [rounds_succ]
      go_wp2
      go_ret2
      rw [HBC.out, HBL.out, HA.out]
      exact ⟨_, rfl, own4_mono (own4_empty _ _) hzw, Hb0.out.alloc hzw _⟩
    · have Hcells1 := hidd (own_cells hownL rfl)
      have hcapL : L.length ≤ cap := own_cap hownL
      clear hownL
      go_wp2
      go_loopw [6, 7, 8] (fun out av iv wr => ∃ (i a : Nat) (acc : List Tk), i ≤ L.length ∧ iv = .int .i64 (i : Int) ∧ av = .int .i64 (a : Int) ∧ a + blen (L.drop i) = blen L ∧ wr.ownsRow w1.heap.size 35 4 out acc.length (toksCells acc) ∧ Below w1.heap.size w1 wr ∧ SpAt L i a acc (allToks s) ∧ acc.length ≤ 8192) (fun _ _ iv _ => L.length - (intOf iv).toNat)
      case atStart => exact ⟨0, 0, [], by omega, rfl, rfl, by simp, own4_empty _ _, (Below.refl _ _).alloc (Nat.le_refl _) _, HSP.out, by simp⟩
      case round =>
        obtain ⟨i, a, acc, hil, rfl, rfl, hab, hown, hbel, hsp, hal⟩ := hrel
        obtain ⟨ao, capo, rfl⟩ := own4_len hown
        have HO := hidd hown
        have HB := hidd hbel
        have Hsp := hidd hsp
        have hzr : w1.heap.size ≤ wr.heap.size := hbel.size
        have Hcells : Hid (∀ t, t < L.length → wr.cell? ⟨g, t, none⟩ = some (.int .i64 (L.getD t 0))) := fun t ht => by
          have := (hbel.cell (p := ⟨g, 0 + t, none⟩) hgl).trans (Hcells1.out t ht)
          rw [Nat.zero_add] at this
          exact this
        have Hab := hidd hab
        have hab2 : a ≤ 262144 := by omega
        clear hown hbel hsp hab
        by_cases hlt : i < L.length
        · have g1 : wr.cell? ⟨g, i, none⟩ = some (.int .i64 L[i]) := by rw [Hcells.out i hlt]; simp [hlt]
          have hch := hidd (specClass_any L[i])
          have Hst := hidd (drop_cons L i hlt)
          by_cases h4 : clsZ L[i] = 4
          · have HWK : Hid (wordK (L.drop i) = 1) := by show _ = _; rw [Hst.out, wordK_wide _ _ h4]
            rw [h4] at hch
            clear h4
            go_wp2_with (go_at_call 43; refine (hch.out _).mono ?_; rintro e' w' ⟨rfl, hw'⟩; obtain rfl := hw'.symm)
            refine wp_loop_rounds 1 ?_
            rw [rounds_succ]
            by_cases hnx : i + 1 < L.length
            all_goals
              have hkz : (((i : Int) + 1) == (i : Int)) = false := beq_eq_false_iff_ne.2 (by omega)
              have HW := hidd (SpAt_word L i a (1) acc (allToks s) hlt HWK.out (by omega) Hsp.out)
              obtain ⟨zs, hzs⟩ : ∃ zs, zs = (L.drop i).take (1) := ⟨_, rfl⟩
              have hzl : zs.length = 1 := by rw [hzs, List.length_take, List.length_drop]; omega
              have hzb : blen zs ≤ blen (L.drop i) := by rw [hzs]; exact encs_take_le _ _
              have Hzb : Hid (blen (L.drop i) = blen zs + blen (L.drop (i + 1))) := by
                show _ = _
                have hsplit : L.drop i = (L.drop i).take (1) ++ L.drop (i + 1) := by
                  have := (List.take_append_drop (1) (L.drop i)).symm
                  rw [List.drop_drop, show i + (1) = (i + 1) by omega] at this
                  exact this
                rw [hzs]
                conv => lhs; rw [hsplit]
                exact blen_append _ _
              have Hzc : Hid (∀ t, t < 1 → wr.cell? ⟨g, i + t, none⟩ = some (.int .i64 (zs.getD t 0))) := by
                intro t ht
                rw [Hcells.out (i + t) (by omega)]
                congr 2
                rw [hzs]
                simp [ht]
              have Hzk : Hid (∀ t, t < 1 → chr (zs.getD t 0) = true) := by
                intro t ht
                have hm : zs.getD t 0 ∈ L := by
                  have hlt2 : t < zs.length := by omega
                  have e : zs.getD t 0 = zs[t] := by simp [hlt2]
                  rw [e]
                  have hall : ∀ x ∈ zs, x ∈ L := fun x hx => by
                    rw [hzs] at hx
                    exact List.mem_of_mem_drop (List.mem_of_mem_take hx)
                  exact hall _ (List.getElem_mem hlt2)
                exact Hchr.out _ hm
              rw [← hzs] at HW
              have Hzs : Hid (zs = (L.drop i).take (1)) := hzs
              clear hzs HWK
              go_wp2_with (go_at_call 43; refine (hch.out _).mono ?_; rintro e' w' ⟨rfl, hw'⟩; obtain rfl := hw'.symm)
              refine (encode_some g i (1) (cap - i) zs _ (by omega) hzl (by omega) Hzc.out Hzk.out).mono ?_
              rintro e' w4 ⟨rfl, hb4⟩
              have hz4 : wr.heap.size ≤ w4.heap.size := hb4.size
              have HB4 := hidd (HB.out.trans (hb4.mono HB.out.size))
              have HO4 := hidd (own4_below HO.out hb4)
              have Htx : Hid (blen zs = (encs zs).length) := rfl
              rw [Htx.out] at hzb Hzb HW
              generalize encs zs = txt at *
              have htl : txt.length ≤ 262144 := by have := Hab.out; omega
              clear hb4 Hzc Hzk Htx Hzs
              obtain ⟨tk, htk⟩ : ∃ tk : Tk, tk = (txt, acc.length, a, a + txt.length) := ⟨_, rfl⟩
              have Htk := hidd htk
              have Hnew := hidd (tok_cell_new w4 tk 35)
              have Hone := hidd (tok_one tk)
              have Htc : Hid (tokCells tk = [.string ⟨txt.toArray⟩, .int .i64 acc.length, .int .i64 a, .int .i64 ((a : Int) + (txt.length : Int))]) := by show _ = _; rw [htk]; show [_, _, _, Value.int .i64 ((a + txt.length : Nat) : Int)] = _; rw [show ((a + txt.length : Nat) : Int) = (a : Int) + (txt.length : Int) by omega]
              rw [← htk] at HW
              rw [Htc.out] at Hnew Hone
              clear htk
              go_wp2_with (at_builtin; refine wpList_append_own _ rfl _ _ 29 rfl w1.heap.size 35 i0 (.agg #[.string ⟨#[]⟩, .int .i64 0, .int .i64 0, .int .i64 0]) 4 40 Tryz.underlying29 hi hz0 hz1 hz2 rfl (by decide) _ _ _ rfl (HO4.out.alloc _) ⟨w4.heap.size, 0, none⟩ 1 1 [.string ⟨txt.toArray⟩, .int .i64 acc.length, .int .i64 a, .int .i64 ((a : Int) + (txt.length : Int))] rfl rfl ?c1 ?c2 ?c3 ?c4 ?c5 ?_)
              case c1 => exact Hnew.out
              case c2 => exact Hone.out
              case c3 => unfold maxLen; omega
              case c4 => omega
              case c5 => have := HB4.out.size; simp; omega
              intro v' w5 hown' hgrow hne
              have R : Hid (w5.ownsRow w1.heap.size 35 4 v' (acc ++ [tk]).length (toksCells (acc ++ [tk])) ∧ Below w1.heap.size w1 w5) := by
                refine ⟨?_, (HB4.out.alloc HB4.out.size _).grown hgrow (by have := HB4.out.size; simp; omega) (own4_block HO4.out)⟩
                rw [List.length_append, toksCells_snoc, Htc.out]
                exact hown'
              have hlen' : (acc ++ [tk]).length = acc.length + 1 := by rw [List.length_append]; rfl
              have Hlen' := hidd hlen'
              obtain ⟨ao', cap', hv'⟩ := own4_len R.out.1
              rw [hlen'] at hv'
              subst hv'
              clear hown' hgrow HO4 HB4 Hnew Hone hlen'
              by_cases hfull : acc.length = 8192
              · have hfz : (8192 : Int) < ((acc.length + 1 : Nat) : Int) := by omega
                have Hgt : Hid (8192 < (allToks s).length) := by have := HW.out.1; rw [Hlen'.out] at this; show _ < _; omega
                clear hfull
                go_wp2
                go_ret2
                rw [HBC.out, HBL.out, if_pos Hgt.out, if_pos Hgt.out]
                exact ⟨_, rfl, own4_mono (own4_empty _ _) (by have := R.out.2.size; omega), (Hb0.out.trans (R.out.2.mono hzw)).alloc (by have := R.out.2.size; omega) _⟩
              · have hfz : ¬ (8192 : Int) < ((acc.length + 1 : Nat) : Int) := by omega
                go_wp2
                go_roundw
                case rel =>
                  refine ⟨(i + 1), a + txt.length, acc ++ [tk], by omega, by go_num, by go_num, by have := Hzb.out; have := Hab.out; omega, by have h := R.out.1; rw [Hlen'.out] at h ⊢; exact h, R.out.2, ?_, by rw [Hlen'.out]; omega⟩
                  have h := HW.out.2
                  rw [show i + (1) = (i + 1) by omega] at h
                  exact h
                case measure => simp [intOf]; omega
          · have hc4 : (clsZ L[i] == 4) = false := beq_eq_false_iff_ne.2 h4
            have hn4 : (clsZ L[i] != 4) = true := by rw [bne_iff_ne]; exact h4
            by_cases hin : innB L[i] = true
            · have HR0 : Hid (RunL L i i) := ⟨rfl, Or.inl rfl⟩
              have HWI : Hid (wordK (L.drop i) = runK (L.drop i)) := by show _ = _; rw [Hst.out]; exact wordK_inn _ _ hin
              clear h4
              go_wp2_with (first | (go_at_call 43; refine (specClass_any _ _).mono ?_; rintro e' w' ⟨rfl, hw'⟩; obtain rfl := hw'.symm) | (go_at_call 44; refine (inner_any _ _).mono ?_; rintro e' w' ⟨rfl, hw'⟩; obtain rfl := hw'.symm))
              go_loop [9] (fun kv => ∃ k : Nat, i ≤ k ∧ k ≤ L.length ∧ kv = .int .i64 (k : Int) ∧ RunL L i k) (fun kv => L.length - (intOf kv).toNat)
              case atStart => exact ⟨i, Nat.le_refl _, by omega, rfl, HR0.out⟩
              case round =>
                obtain ⟨k, hik, hkl, rfl, hR⟩ := hrel
                have HR := hidd hR
                clear hR
                by_cases hk : k < L.length
                · have g2 : wr.cell? ⟨g, k, none⟩ = some (.int .i64 L[k]) := by rw [Hcells.out k hk]; simp [hk]
                  by_cases hin2 : innB L[k] = true
                  · have HR2 := hidd (RunL_inn L i k hk hik HR.out hin2)
                    go_wp2_with (first | (go_at_call 43; refine (specClass_any _ _).mono ?_; rintro e' w' ⟨rfl, hw'⟩; obtain rfl := hw'.symm) | (go_at_call 44; refine (inner_any _ _).mono ?_; rintro e' w' ⟨rfl, hw'⟩; obtain rfl := hw'.symm))
                    go_round
                    case rel => exact ⟨k + 1, by omega, by omega, by go_num, HR2.out⟩
                    case measure => simp [intOf]; omega
                  · have hin2' : innB L[k] = false := by simpa using hin2
                    have hne : ¬ k = i := by intro e; subst e; rw [hin] at hin2'; cases hin2'
                    have hik2 : i < k := by omega
                    have hprev := RunL_prev L i k hk hik2 HR.out hin2'
                    have hk1 : k - 1 < L.length := by omega
                    have hprev2 : innB L[k - 1] = true := by have e : L.getD (k - 1) 0 = L[k - 1] := by simp [hk1]
                                                             rw [e] at hprev; exact hprev
                    have g3 : wr.cell? ⟨g, k - 1, none⟩ = some (.int .i64 L[k - 1]) := by rw [Hcells.out (k - 1) hk1]; simp [hk1]
                    clear hprev hin2 hne
                    by_cases hm : (clsZ L[k] == 3) = true
                    · by_cases hk2 : k + 1 < L.length
                      · have g4 : wr.cell? ⟨g, k + 1, none⟩ = some (.int .i64 L[k + 1]) := by rw [Hcells.out (k + 1) hk2]; simp [hk2]
                        by_cases hin3 : innB L[k + 1] = true
                        · have HR2 := hidd (RunL_mark L i k hk hik HR.out hin2' hm (by rw [head_at L (k + 1) hk2]; exact hin3))
                          go_wp2_with (first | (go_at_call 43; refine (specClass_any _ _).mono ?_; rintro e' w' ⟨rfl, hw'⟩; obtain rfl := hw'.symm) | (go_at_call 44; refine (inner_any _ _).mono ?_; rintro e' w' ⟨rfl, hw'⟩; obtain rfl := hw'.symm))
                          go_round
                          case rel => exact ⟨k + 1, by omega, by omega, by go_num, HR2.out⟩
                          case measure => simp [intOf]; omega
                        · have hin3' : innB L[k + 1] = false := by simpa using hin3
                          clear hin3
                          have HK := hidd (RunL_stop L i k hk HR.out hin2' (Or.inr (by rw [head_at L (k + 1) hk2]; exact hin3')))
                          have hik' : i < k := by omega
                          have HWK : Hid (wordK (L.drop i) = k - i) := by show _ = _; rw [HWI.out]; exact HK.out
                          clear HK
                          have hkz : (((k : Int)) == (i : Int)) = false := beq_eq_false_iff_ne.2 (by omega)
                          have HW := hidd (SpAt_word L i a (k - i) acc (allToks s) hlt HWK.out (by omega) Hsp.out)
                          obtain ⟨zs, hzs⟩ : ∃ zs, zs = (L.drop i).take (k - i) := ⟨_, rfl⟩
                          have hzl : zs.length = k - i := by rw [hzs, List.length_take, List.length_drop]; omega
                          have hzb : blen zs ≤ blen (L.drop i) := by rw [hzs]; exact encs_take_le _ _
                          have Hzb : Hid (blen (L.drop i) = blen zs + blen (L.drop k)) := by
                            show _ = _
                            have hsplit : L.drop i = (L.drop i).take (k - i) ++ L.drop k := by
                              have := (List.take_append_drop (k - i) (L.drop i)).symm
                              rw [List.drop_drop, show i + (k - i) = k by omega] at this
                              exact this
                            rw [hzs]
                            conv => lhs; rw [hsplit]
                            exact blen_append _ _
                          have Hzc : Hid (∀ t, t < k - i → wr.cell? ⟨g, i + t, none⟩ = some (.int .i64 (zs.getD t 0))) := by
                            intro t ht
                            rw [Hcells.out (i + t) (by omega)]
                            congr 2
                            rw [hzs]
                            simp [ht]
                          have Hzk : Hid (∀ t, t < k - i → chr (zs.getD t 0) = true) := by
                            intro t ht
                            have hm : zs.getD t 0 ∈ L := by
                              have hlt2 : t < zs.length := by omega
                              have e : zs.getD t 0 = zs[t] := by simp [hlt2]
                              rw [e]
                              have hall : ∀ x ∈ zs, x ∈ L := fun x hx => by
                                rw [hzs] at hx
                                exact List.mem_of_mem_drop (List.mem_of_mem_take hx)
                              exact hall _ (List.getElem_mem hlt2)
                            exact Hchr.out _ hm
                          rw [← hzs] at HW
                          have Hzs : Hid (zs = (L.drop i).take (k - i)) := hzs
                          clear hzs HWK
                          go_wp2_with (first | (go_at_call 43; refine (specClass_any _ _).mono ?_; rintro e' w' ⟨rfl, hw'⟩; obtain rfl := hw'.symm) | (go_at_call 44; refine (inner_any _ _).mono ?_; rintro e' w' ⟨rfl, hw'⟩; obtain rfl := hw'.symm))
                          refine (encode_some g i (k - i) (cap - i) zs _ (by omega) hzl (by omega) Hzc.out Hzk.out).mono ?_
                          rintro e' w4 ⟨rfl, hb4⟩
                          have hz4 : wr.heap.size ≤ w4.heap.size := hb4.size
                          have HB4 := hidd (HB.out.trans (hb4.mono HB.out.size))
                          have HO4 := hidd (own4_below HO.out hb4)
                          have Htx : Hid (blen zs = (encs zs).length) := rfl
                          rw [Htx.out] at hzb Hzb HW
                          generalize encs zs = txt at *
                          have htl : txt.length ≤ 262144 := by have := Hab.out; omega
                          clear hb4 Hzc Hzk Htx Hzs
                          obtain ⟨tk, htk⟩ : ∃ tk : Tk, tk = (txt, acc.length, a, a + txt.length) := ⟨_, rfl⟩
                          have Htk := hidd htk
                          have Hnew := hidd (tok_cell_new w4 tk 35)
                          have Hone := hidd (tok_one tk)
                          have Htc : Hid (tokCells tk = [.string ⟨txt.toArray⟩, .int .i64 acc.length, .int .i64 a, .int .i64 ((a : Int) + (txt.length : Int))]) := by show _ = _; rw [htk]; show [_, _, _, Value.int .i64 ((a + txt.length : Nat) : Int)] = _; rw [show ((a + txt.length : Nat) : Int) = (a : Int) + (txt.length : Int) by omega]
                          rw [← htk] at HW
                          rw [Htc.out] at Hnew Hone
                          clear htk
                          go_wp2_with (at_builtin; refine wpList_append_own _ rfl _ _ 29 rfl w1.heap.size 35 i0 (.agg #[.string ⟨#[]⟩, .int .i64 0, .int .i64 0, .int .i64 0]) 4 40 Tryz.underlying29 hi hz0 hz1 hz2 rfl (by decide) _ _ _ rfl (HO4.out.alloc _) ⟨w4.heap.size, 0, none⟩ 1 1 [.string ⟨txt.toArray⟩, .int .i64 acc.length, .int .i64 a, .int .i64 ((a : Int) + (txt.length : Int))] rfl rfl ?c1 ?c2 ?c3 ?c4 ?c5 ?_)
                          case c1 => exact Hnew.out
                          case c2 => exact Hone.out
                          case c3 => unfold maxLen; omega
                          case c4 => omega
                          case c5 => have := HB4.out.size; simp; omega
                          intro v' w5 hown' hgrow hne
                          have R : Hid (w5.ownsRow w1.heap.size 35 4 v' (acc ++ [tk]).length (toksCells (acc ++ [tk])) ∧ Below w1.heap.size w1 w5) := by
                            refine ⟨?_, (HB4.out.alloc HB4.out.size _).grown hgrow (by have := HB4.out.size; simp; omega) (own4_block HO4.out)⟩
                            rw [List.length_append, toksCells_snoc, Htc.out]
                            exact hown'
                          have hlen' : (acc ++ [tk]).length = acc.length + 1 := by rw [List.length_append]; rfl
                          have Hlen' := hidd hlen'
                          obtain ⟨ao', cap', hv'⟩ := own4_len R.out.1
                          rw [hlen'] at hv'
                          subst hv'
                          clear hown' hgrow HO4 HB4 Hnew Hone hlen'
                          by_cases hfull : acc.length = 8192
                          · have hfz : (8192 : Int) < ((acc.length + 1 : Nat) : Int) := by omega
                            have Hgt : Hid (8192 < (allToks s).length) := by have := HW.out.1; rw [Hlen'.out] at this; show _ < _; omega
                            clear hfull
                            go_wp2
                            go_ret2
                            rw [HBC.out, HBL.out, if_pos Hgt.out, if_pos Hgt.out]
                            exact ⟨_, rfl, own4_mono (own4_empty _ _) (by have := R.out.2.size; omega), (Hb0.out.trans (R.out.2.mono hzw)).alloc (by have := R.out.2.size; omega) _⟩
                          · have hfz : ¬ (8192 : Int) < ((acc.length + 1 : Nat) : Int) := by omega
                            go_wp2
                            go_roundw
                            case rel =>
                              refine ⟨k, a + txt.length, acc ++ [tk], by omega, by go_num, by go_num, by have := Hzb.out; have := Hab.out; omega, by have h := R.out.1; rw [Hlen'.out] at h ⊢; exact h, R.out.2, ?_, by rw [Hlen'.out]; omega⟩
                              have h := HW.out.2
                              rw [show i + (k - i) = k by omega] at h
                              exact h
                            case measure => simp [intOf]; omega
                      · have hk2z : ¬ (k : Int) + 1 < (L.length : Int) := by omega
                        have HK := hidd (RunL_stop L i k hk HR.out hin2' (Or.inr (head_none L (k + 1) hk2)))
                        have hik' : i < k := by omega
                        have HWK : Hid (wordK (L.drop i) = k - i) := by show _ = _; rw [HWI.out]; exact HK.out
                        clear HK
                        have hkz : (((k : Int)) == (i : Int)) = false := beq_eq_false_iff_ne.2 (by omega)
                        have HW := hidd (SpAt_word L i a (k - i) acc (allToks s) hlt HWK.out (by omega) Hsp.out)
                        obtain ⟨zs, hzs⟩ : ∃ zs, zs = (L.drop i).take (k - i) := ⟨_, rfl⟩
                        have hzl : zs.length = k - i := by rw [hzs, List.length_take, List.length_drop]; omega
                        have hzb : blen zs ≤ blen (L.drop i) := by rw [hzs]; exact encs_take_le _ _
                        have Hzb : Hid (blen (L.drop i) = blen zs + blen (L.drop k)) := by
                          show _ = _
                          have hsplit : L.drop i = (L.drop i).take (k - i) ++ L.drop k := by
                            have := (List.take_append_drop (k - i) (L.drop i)).symm
                            rw [List.drop_drop, show i + (k - i) = k by omega] at this
                            exact this
                          rw [hzs]
                          conv => lhs; rw [hsplit]
                          exact blen_append _ _
                        have Hzc : Hid (∀ t, t < k - i → wr.cell? ⟨g, i + t, none⟩ = some (.int .i64 (zs.getD t 0))) := by
                          intro t ht
                          rw [Hcells.out (i + t) (by omega)]
                          congr 2
                          rw [hzs]
                          simp [ht]
                        have Hzk : Hid (∀ t, t < k - i → chr (zs.getD t 0) = true) := by
                          intro t ht
                          have hm : zs.getD t 0 ∈ L := by
                            have hlt2 : t < zs.length := by omega
                            have e : zs.getD t 0 = zs[t] := by simp [hlt2]
                            rw [e]
                            have hall : ∀ x ∈ zs, x ∈ L := fun x hx => by
                              rw [hzs] at hx
                              exact List.mem_of_mem_drop (List.mem_of_mem_take hx)
                            exact hall _ (List.getElem_mem hlt2)
                          exact Hchr.out _ hm
                        rw [← hzs] at HW
                        have Hzs : Hid (zs = (L.drop i).take (k - i)) := hzs
                        clear hzs HWK
                        go_wp2_with (first | (go_at_call 43; refine (specClass_any _ _).mono ?_; rintro e' w' ⟨rfl, hw'⟩; obtain rfl := hw'.symm) | (go_at_call 44; refine (inner_any _ _).mono ?_; rintro e' w' ⟨rfl, hw'⟩; obtain rfl := hw'.symm))
                        refine (encode_some g i (k - i) (cap - i) zs _ (by omega) hzl (by omega) Hzc.out Hzk.out).mono ?_
                        rintro e' w4 ⟨rfl, hb4⟩
                        have hz4 : wr.heap.size ≤ w4.heap.size := hb4.size
                        have HB4 := hidd (HB.out.trans (hb4.mono HB.out.size))
                        have HO4 := hidd (own4_below HO.out hb4)
                        have Htx : Hid (blen zs = (encs zs).length) := rfl
                        rw [Htx.out] at hzb Hzb HW
                        generalize encs zs = txt at *
                        have htl : txt.length ≤ 262144 := by have := Hab.out; omega
                        clear hb4 Hzc Hzk Htx Hzs
                        obtain ⟨tk, htk⟩ : ∃ tk : Tk, tk = (txt, acc.length, a, a + txt.length) := ⟨_, rfl⟩
                        have Htk := hidd htk
                        have Hnew := hidd (tok_cell_new w4 tk 35)
                        have Hone := hidd (tok_one tk)
                        have Htc : Hid (tokCells tk = [.string ⟨txt.toArray⟩, .int .i64 acc.length, .int .i64 a, .int .i64 ((a : Int) + (txt.length : Int))]) := by show _ = _; rw [htk]; show [_, _, _, Value.int .i64 ((a + txt.length : Nat) : Int)] = _; rw [show ((a + txt.length : Nat) : Int) = (a : Int) + (txt.length : Int) by omega]
                        rw [← htk] at HW
                        rw [Htc.out] at Hnew Hone
                        clear htk
                        go_wp2_with (at_builtin; refine wpList_append_own _ rfl _ _ 29 rfl w1.heap.size 35 i0 (.agg #[.string ⟨#[]⟩, .int .i64 0, .int .i64 0, .int .i64 0]) 4 40 Tryz.underlying29 hi hz0 hz1 hz2 rfl (by decide) _ _ _ rfl (HO4.out.alloc _) ⟨w4.heap.size, 0, none⟩ 1 1 [.string ⟨txt.toArray⟩, .int .i64 acc.length, .int .i64 a, .int .i64 ((a : Int) + (txt.length : Int))] rfl rfl ?c1 ?c2 ?c3 ?c4 ?c5 ?_)
                        case c1 => exact Hnew.out
                        case c2 => exact Hone.out
                        case c3 => unfold maxLen; omega
                        case c4 => omega
                        case c5 => have := HB4.out.size; simp; omega
                        intro v' w5 hown' hgrow hne
                        have R : Hid (w5.ownsRow w1.heap.size 35 4 v' (acc ++ [tk]).length (toksCells (acc ++ [tk])) ∧ Below w1.heap.size w1 w5) := by
                          refine ⟨?_, (HB4.out.alloc HB4.out.size _).grown hgrow (by have := HB4.out.size; simp; omega) (own4_block HO4.out)⟩
                          rw [List.length_append, toksCells_snoc, Htc.out]
                          exact hown'
                        have hlen' : (acc ++ [tk]).length = acc.length + 1 := by rw [List.length_append]; rfl
                        have Hlen' := hidd hlen'
                        obtain ⟨ao', cap', hv'⟩ := own4_len R.out.1
                        rw [hlen'] at hv'
                        subst hv'
                        clear hown' hgrow HO4 HB4 Hnew Hone hlen'
                        by_cases hfull : acc.length = 8192
                        · have hfz : (8192 : Int) < ((acc.length + 1 : Nat) : Int) := by omega
                          have Hgt : Hid (8192 < (allToks s).length) := by have := HW.out.1; rw [Hlen'.out] at this; show _ < _; omega
                          clear hfull
                          go_wp2
                          go_ret2
                          rw [HBC.out, HBL.out, if_pos Hgt.out, if_pos Hgt.out]
                          exact ⟨_, rfl, own4_mono (own4_empty _ _) (by have := R.out.2.size; omega), (Hb0.out.trans (R.out.2.mono hzw)).alloc (by have := R.out.2.size; omega) _⟩
                        · have hfz : ¬ (8192 : Int) < ((acc.length + 1 : Nat) : Int) := by omega
                          go_wp2
                          go_roundw
                          case rel =>
                            refine ⟨k, a + txt.length, acc ++ [tk], by omega, by go_num, by go_num, by have := Hzb.out; have := Hab.out; omega, by have h := R.out.1; rw [Hlen'.out] at h ⊢; exact h, R.out.2, ?_, by rw [Hlen'.out]; omega⟩
                            have h := HW.out.2
                            rw [show i + (k - i) = k by omega] at h
                            exact h
                          case measure => simp [intOf]; omega
                    · have hm' : (clsZ L[k] == 3) = false := by simpa using hm
                      clear hm
                      have HK := hidd (RunL_stop L i k hk HR.out hin2' (Or.inl hm'))
                      have hik' : i < k := by omega
                      have HWK : Hid (wordK (L.drop i) = k - i) := by show _ = _; rw [HWI.out]; exact HK.out
                      clear HK
                      have hkz : (((k : Int)) == (i : Int)) = false := beq_eq_false_iff_ne.2 (by omega)
                      have HW := hidd (SpAt_word L i a (k - i) acc (allToks s) hlt HWK.out (by omega) Hsp.out)
                      obtain ⟨zs, hzs⟩ : ∃ zs, zs = (L.drop i).take (k - i) := ⟨_, rfl⟩
                      have hzl : zs.length = k - i := by rw [hzs, List.length_take, List.length_drop]; omega
                      have hzb : blen zs ≤ blen (L.drop i) := by rw [hzs]; exact encs_take_le _ _
                      have Hzb : Hid (blen (L.drop i) = blen zs + blen (L.drop k)) := by
                        show _ = _
                        have hsplit : L.drop i = (L.drop i).take (k - i) ++ L.drop k := by
                          have := (List.take_append_drop (k - i) (L.drop i)).symm
                          rw [List.drop_drop, show i + (k - i) = k by omega] at this
                          exact this
                        rw [hzs]
                        conv => lhs; rw [hsplit]
                        exact blen_append _ _
                      have Hzc : Hid (∀ t, t < k - i → wr.cell? ⟨g, i + t, none⟩ = some (.int .i64 (zs.getD t 0))) := by
                        intro t ht
                        rw [Hcells.out (i + t) (by omega)]
                        congr 2
                        rw [hzs]
                        simp [ht]
                      have Hzk : Hid (∀ t, t < k - i → chr (zs.getD t 0) = true) := by
                        intro t ht
                        have hm : zs.getD t 0 ∈ L := by
                          have hlt2 : t < zs.length := by omega
                          have e : zs.getD t 0 = zs[t] := by simp [hlt2]
                          rw [e]
                          have hall : ∀ x ∈ zs, x ∈ L := fun x hx => by
                            rw [hzs] at hx
                            exact List.mem_of_mem_drop (List.mem_of_mem_take hx)
                          exact hall _ (List.getElem_mem hlt2)
                        exact Hchr.out _ hm
                      rw [← hzs] at HW
                      have Hzs : Hid (zs = (L.drop i).take (k - i)) := hzs
                      clear hzs HWK
                      go_wp2_with (first | (go_at_call 43; refine (specClass_any _ _).mono ?_; rintro e' w' ⟨rfl, hw'⟩; obtain rfl := hw'.symm) | (go_at_call 44; refine (inner_any _ _).mono ?_; rintro e' w' ⟨rfl, hw'⟩; obtain rfl := hw'.symm))
                      refine (encode_some g i (k - i) (cap - i) zs _ (by omega) hzl (by omega) Hzc.out Hzk.out).mono ?_
                      rintro e' w4 ⟨rfl, hb4⟩
                      have hz4 : wr.heap.size ≤ w4.heap.size := hb4.size
                      have HB4 := hidd (HB.out.trans (hb4.mono HB.out.size))
                      have HO4 := hidd (own4_below HO.out hb4)
                      have Htx : Hid (blen zs = (encs zs).length) := rfl
                      rw [Htx.out] at hzb Hzb HW
                      generalize encs zs = txt at *
                      have htl : txt.length ≤ 262144 := by have := Hab.out; omega
                      clear hb4 Hzc Hzk Htx Hzs
                      obtain ⟨tk, htk⟩ : ∃ tk : Tk, tk = (txt, acc.length, a, a + txt.length) := ⟨_, rfl⟩
                      have Htk := hidd htk
                      have Hnew := hidd (tok_cell_new w4 tk 35)
                      have Hone := hidd (tok_one tk)
                      have Htc : Hid (tokCells tk = [.string ⟨txt.toArray⟩, .int .i64 acc.length, .int .i64 a, .int .i64 ((a : Int) + (txt.length : Int))]) := by show _ = _; rw [htk]; show [_, _, _, Value.int .i64 ((a + txt.length : Nat) : Int)] = _; rw [show ((a + txt.length : Nat) : Int) = (a : Int) + (txt.length : Int) by omega]
                      rw [← htk] at HW
                      rw [Htc.out] at Hnew Hone
                      clear htk
                      go_wp2_with (at_builtin; refine wpList_append_own _ rfl _ _ 29 rfl w1.heap.size 35 i0 (.agg #[.string ⟨#[]⟩, .int .i64 0, .int .i64 0, .int .i64 0]) 4 40 Tryz.underlying29 hi hz0 hz1 hz2 rfl (by decide) _ _ _ rfl (HO4.out.alloc _) ⟨w4.heap.size, 0, none⟩ 1 1 [.string ⟨txt.toArray⟩, .int .i64 acc.length, .int .i64 a, .int .i64 ((a : Int) + (txt.length : Int))] rfl rfl ?c1 ?c2 ?c3 ?c4 ?c5 ?_)
                      case c1 => exact Hnew.out
                      case c2 => exact Hone.out
                      case c3 => unfold maxLen; omega
                      case c4 => omega
                      case c5 => have := HB4.out.size; simp; omega
                      intro v' w5 hown' hgrow hne
                      have R : Hid (w5.ownsRow w1.heap.size 35 4 v' (acc ++ [tk]).length (toksCells (acc ++ [tk])) ∧ Below w1.heap.size w1 w5) := by
                        refine ⟨?_, (HB4.out.alloc HB4.out.size _).grown hgrow (by have := HB4.out.size; simp; omega) (own4_block HO4.out)⟩
                        rw [List.length_append, toksCells_snoc, Htc.out]
                        exact hown'
                      have hlen' : (acc ++ [tk]).length = acc.length + 1 := by rw [List.length_append]; rfl
                      have Hlen' := hidd hlen'
                      obtain ⟨ao', cap', hv'⟩ := own4_len R.out.1
                      rw [hlen'] at hv'
                      subst hv'
                      clear hown' hgrow HO4 HB4 Hnew Hone hlen'
                      by_cases hfull : acc.length = 8192
                      · have hfz : (8192 : Int) < ((acc.length + 1 : Nat) : Int) := by omega
                        have Hgt : Hid (8192 < (allToks s).length) := by have := HW.out.1; rw [Hlen'.out] at this; show _ < _; omega
                        clear hfull
                        go_wp2
                        go_ret2
                        rw [HBC.out, HBL.out, if_pos Hgt.out, if_pos Hgt.out]
                        exact ⟨_, rfl, own4_mono (own4_empty _ _) (by have := R.out.2.size; omega), (Hb0.out.trans (R.out.2.mono hzw)).alloc (by have := R.out.2.size; omega) _⟩
                      · have hfz : ¬ (8192 : Int) < ((acc.length + 1 : Nat) : Int) := by omega
                        go_wp2
                        go_roundw
                        case rel =>
                          refine ⟨k, a + txt.length, acc ++ [tk], by omega, by go_num, by go_num, by have := Hzb.out; have := Hab.out; omega, by have h := R.out.1; rw [Hlen'.out] at h ⊢; exact h, R.out.2, ?_, by rw [Hlen'.out]; omega⟩
                          have h := HW.out.2
                          rw [show i + (k - i) = k by omega] at h
                          exact h
                        case measure => simp [intOf]; omega
                · have hkz2 : ¬ (k : Int) < (L.length : Int) := by omega
                  have HK := hidd (RunL_end L i k hk HR.out)
                  have hik' : i < k := by omega
                  have HWK : Hid (wordK (L.drop i) = k - i) := by show _ = _; rw [HWI.out]; exact HK.out
                  clear HK
                  have hkz : (((k : Int)) == (i : Int)) = false := beq_eq_false_iff_ne.2 (by omega)
                  have HW := hidd (SpAt_word L i a (k - i) acc (allToks s) hlt HWK.out (by omega) Hsp.out)
                  obtain ⟨zs, hzs⟩ : ∃ zs, zs = (L.drop i).take (k - i) := ⟨_, rfl⟩
                  have hzl : zs.length = k - i := by rw [hzs, List.length_take, List.length_drop]; omega
                  have hzb : blen zs ≤ blen (L.drop i) := by rw [hzs]; exact encs_take_le _ _
                  have Hzb : Hid (blen (L.drop i) = blen zs + blen (L.drop k)) := by
                    show _ = _
                    have hsplit : L.drop i = (L.drop i).take (k - i) ++ L.drop k := by
                      have := (List.take_append_drop (k - i) (L.drop i)).symm
                      rw [List.drop_drop, show i + (k - i) = k by omega] at this
                      exact this
                    rw [hzs]
                    conv => lhs; rw [hsplit]
                    exact blen_append _ _
                  have Hzc : Hid (∀ t, t < k - i → wr.cell? ⟨g, i + t, none⟩ = some (.int .i64 (zs.getD t 0))) := by
                    intro t ht
                    rw [Hcells.out (i + t) (by omega)]
                    congr 2
                    rw [hzs]
                    simp [ht]
                  have Hzk : Hid (∀ t, t < k - i → chr (zs.getD t 0) = true) := by
                    intro t ht
                    have hm : zs.getD t 0 ∈ L := by
                      have hlt2 : t < zs.length := by omega
                      have e : zs.getD t 0 = zs[t] := by simp [hlt2]
                      rw [e]
                      have hall : ∀ x ∈ zs, x ∈ L := fun x hx => by
                        rw [hzs] at hx
                        exact List.mem_of_mem_drop (List.mem_of_mem_take hx)
                      exact hall _ (List.getElem_mem hlt2)
                    exact Hchr.out _ hm
                  rw [← hzs] at HW
                  have Hzs : Hid (zs = (L.drop i).take (k - i)) := hzs
                  clear hzs HWK
                  go_wp2_with (first | (go_at_call 43; refine (specClass_any _ _).mono ?_; rintro e' w' ⟨rfl, hw'⟩; obtain rfl := hw'.symm) | (go_at_call 44; refine (inner_any _ _).mono ?_; rintro e' w' ⟨rfl, hw'⟩; obtain rfl := hw'.symm))
                  refine (encode_some g i (k - i) (cap - i) zs _ (by omega) hzl (by omega) Hzc.out Hzk.out).mono ?_
                  rintro e' w4 ⟨rfl, hb4⟩
                  have hz4 : wr.heap.size ≤ w4.heap.size := hb4.size
                  have HB4 := hidd (HB.out.trans (hb4.mono HB.out.size))
                  have HO4 := hidd (own4_below HO.out hb4)
                  have Htx : Hid (blen zs = (encs zs).length) := rfl
                  rw [Htx.out] at hzb Hzb HW
                  generalize encs zs = txt at *
                  have htl : txt.length ≤ 262144 := by have := Hab.out; omega
                  clear hb4 Hzc Hzk Htx Hzs
                  obtain ⟨tk, htk⟩ : ∃ tk : Tk, tk = (txt, acc.length, a, a + txt.length) := ⟨_, rfl⟩
                  have Htk := hidd htk
                  have Hnew := hidd (tok_cell_new w4 tk 35)
                  have Hone := hidd (tok_one tk)
                  have Htc : Hid (tokCells tk = [.string ⟨txt.toArray⟩, .int .i64 acc.length, .int .i64 a, .int .i64 ((a : Int) + (txt.length : Int))]) := by show _ = _; rw [htk]; show [_, _, _, Value.int .i64 ((a + txt.length : Nat) : Int)] = _; rw [show ((a + txt.length : Nat) : Int) = (a : Int) + (txt.length : Int) by omega]
                  rw [← htk] at HW
                  rw [Htc.out] at Hnew Hone
                  clear htk
                  go_wp2_with (at_builtin; refine wpList_append_own _ rfl _ _ 29 rfl w1.heap.size 35 i0 (.agg #[.string ⟨#[]⟩, .int .i64 0, .int .i64 0, .int .i64 0]) 4 40 Tryz.underlying29 hi hz0 hz1 hz2 rfl (by decide) _ _ _ rfl (HO4.out.alloc _) ⟨w4.heap.size, 0, none⟩ 1 1 [.string ⟨txt.toArray⟩, .int .i64 acc.length, .int .i64 a, .int .i64 ((a : Int) + (txt.length : Int))] rfl rfl ?c1 ?c2 ?c3 ?c4 ?c5 ?_)
                  case c1 => exact Hnew.out
                  case c2 => exact Hone.out
                  case c3 => unfold maxLen; omega
                  case c4 => omega
                  case c5 => have := HB4.out.size; simp; omega
                  intro v' w5 hown' hgrow hne
                  have R : Hid (w5.ownsRow w1.heap.size 35 4 v' (acc ++ [tk]).length (toksCells (acc ++ [tk])) ∧ Below w1.heap.size w1 w5) := by
                    refine ⟨?_, (HB4.out.alloc HB4.out.size _).grown hgrow (by have := HB4.out.size; simp; omega) (own4_block HO4.out)⟩
                    rw [List.length_append, toksCells_snoc, Htc.out]
                    exact hown'
                  have hlen' : (acc ++ [tk]).length = acc.length + 1 := by rw [List.length_append]; rfl
                  have Hlen' := hidd hlen'
                  obtain ⟨ao', cap', hv'⟩ := own4_len R.out.1
                  rw [hlen'] at hv'
                  subst hv'
                  clear hown' hgrow HO4 HB4 Hnew Hone hlen'
                  by_cases hfull : acc.length = 8192
                  · have hfz : (8192 : Int) < ((acc.length + 1 : Nat) : Int) := by omega
                    have Hgt : Hid (8192 < (allToks s).length) := by have := HW.out.1; rw [Hlen'.out] at this; show _ < _; omega
                    clear hfull
                    go_wp2
                    go_ret2
                    rw [HBC.out, HBL.out, if_pos Hgt.out, if_pos Hgt.out]
                    exact ⟨_, rfl, own4_mono (own4_empty _ _) (by have := R.out.2.size; omega), (Hb0.out.trans (R.out.2.mono hzw)).alloc (by have := R.out.2.size; omega) _⟩
                  · have hfz : ¬ (8192 : Int) < ((acc.length + 1 : Nat) : Int) := by omega
                    go_wp2
                    go_roundw
                    case rel =>
                      refine ⟨k, a + txt.length, acc ++ [tk], by omega, by go_num, by go_num, by have := Hzb.out; have := Hab.out; omega, by have h := R.out.1; rw [Hlen'.out] at h ⊢; exact h, R.out.2, ?_, by rw [Hlen'.out]; omega⟩
                      have h := HW.out.2
                      rw [show i + (k - i) = k by omega] at h
                      exact h
                    case measure => simp [intOf]; omega
            · have hin' : innB L[i] = false := by simpa using hin
              have HWK := hidd (show wordK (L.drop i) = 0 by rw [Hst.out]; exact wordK_none _ _ hin' h4)
              have hic := hidd (inner_any L[i])
              rw [hin'] at hic
              have HS2 := hidd (SpAt_skip L i a acc (allToks s) hlt HWK.out Hsp.out)
              have hchr := Hchr.out _ (List.getElem_mem hlt)
              have hrl := Lib.runeCells_le L[i]
              have Hab2 : Hid (blen (L.drop i) = (Lib.runeCells L[i]).length + blen (L.drop (i + 1))) := by show _ = _; rw [Hst.out, blen_cons, Lib.runeCells_length]
              clear hin hin' h4 HWK
              generalize clsZ L[i] = c at *
              go_wp2_with (go_at_call 43; refine (hch.out _).mono ?_; rintro e' w' ⟨rfl, hw'⟩; obtain rfl := hw'.symm)
              refine wp_loop_rounds 1 ?_
              rw [rounds_succ]
              go_wp2_with (first | (go_at_call 43; refine (hch.out _).mono ?_; rintro e' w' ⟨rfl, hw'⟩; obtain rfl := hw'.symm) | (go_at_call 44; refine (hic.out _).mono ?_; rintro e' w' ⟨rfl, hw'⟩; obtain rfl := hw'.symm))
              refine (bytes_any L[i] _ hchr).mono ?_
              rintro e' w4 ⟨rfl, rfl⟩
              go_wp2
              go_roundw
              case rel => exact ⟨i + 1, a + (Lib.runeCells L[i]).length, acc, by omega, by go_num, by go_num, by have := Hab2.out; have := Hab.out; omega, HO.out.alloc _, HB.out.alloc hzr _, HS2.out, hal⟩
              case measure => simp [intOf]; omega
        · have HA := hidd (SpAt_end L i a acc (allToks s) hlt Hsp.out)
          go_wp2
          go_ret2
          rw [HBC.out, HBL.out, HA.out, if_neg (by omega), if_neg (by omega)]
          exact ⟨_, rfl, own4_mono HO.out hzw, Hb0.out.trans (HB.out.mono hzw)⟩
  · have hcn : (decCode s != 0) = true := by rw [bne_iff_ne]; exact hc
    have HBC : Hid (brkCode s = decCode s) := by show _ = _; rw [brkCode, if_neg hc]
    have HBL : Hid (brkList s = []) := by show _ = _; rw [brkList, if_neg hc]
    clear hc
    go_enter Tryz.func10, Tryz.ntmps10
    go_wp2_with fail
    refine (specDecode_any s _ hs).mono ?_
    rintro e w1 ⟨v, rfl, _, hb1⟩
    go_wp2
    go_ret2
    rw [HBC.out, HBL.out]
    exact ⟨_, rfl, own4_mono (own4_empty _ _) hb1.size, hb1.alloc hb1.size _⟩
end Go.Proofs.YtionicjnoogpjaaGreatDoor
