import Derived.Test.YtcjiphknpagenaaGreatDoorDocsJ20
namespace Go.Proofs.YtcjiphknpagenaaGreatDoor
open Go Go.RowKit
set_option linter.unusedVariables false
set_option linter.unusedSimpArgs false
set_option maxRecDepth 100000
set_option maxHeartbeats 8000000
theorem eu(w:World)(e:TypeId) :(w.alloc (.cells #[] e)).ownsRow w.heap.size e 4 (.slice (some ⟨w.heap.size,0,none⟩) 0 0) 0 [] :=by have:=World.ownsRow_lit (base:=w.heap.size) (e:=e) (size:=4) w #[] 0 (Nat.le_refl _) (by unfold maxLen;omega) (by simp);simpa using this
theorem dS {w:World} {base base' e n:Nat} {v:Value} {xs:List Value}(h:w.ownsRow base e 4 v n xs)(hb:base'≤base) :w.ownsRow base' e 4 v n xs:=by
 refine⟨h.1,?_⟩;rcases h.2 with h'| ⟨g,cap,cur,h1,h2,h3⟩;·exact Or.inl h'
 ·exact Or.inr ⟨g,cap,cur,h1,Nat.le_trans hb h2,h3⟩
theorem WG(s:ByteArray)(h:aJ s=0) :di s=runes s:=by have:=vw s h;rw[di,if_neg (by omega),oG,if_pos this.1]
theorem zV (s : ByteArray) (w : World) (hs : s.size ≤ 1048576) :
    Calls Tryz.prog 66 #[.string s] w fun e w' => ∃ v, e = .returned (.tuple #[v, .int .i64 (dI s)]) ∧ w'.ownsRow w.heap.size 46 4 v (bY s).length (ak (bY s)) ∧ Below w.heap.size w w' := by
  obtain ⟨i0, hi, hz0, hz1, hz2⟩ := info_parts Tryz.infoTok
  by_cases hc : aJ s = 0
  · have HD := aa (vw s hc)
    have hsz := (vw s hc).2
    have HC := aa hc
    have HDL := aa (WG s hc)
    have vV : Hid (dI s = if 8192 < (dh s).length then 11 else 0) := by show _ = _; rw [dI, if_pos hc]
    have oh : Hid (bY s = if 8192 < (dh s).length then [] else dh s) := by show _ = _; rw [bY, if_pos hc]
    have Yj := aa (Qd (runes s))
    have HAT : Hid (toks (runes s).length (runes s) 0 0 = dh s) := rfl
    rw [HAT.out] at Yj
    have BG := aa (wO s (vw s hc).1)
    have hLn := mG s
    clear hc HAT
    go_enter Tryz.func66, Tryz.ntmps66
    go_wp2_with fail
    refine (gH s _ hs).mono ?_
    rintro e' w1 ⟨v, rfl, zq, hb0⟩
    rw [HDL.out] at zq
    rw [HC.out]
    obtain ⟨L, hL⟩ : ∃ L, L = runes s := ⟨_, rfl⟩
    rw [← hL] at zq Yj BG hLn
    clear hL HDL
    have Hb0 := aa hb0
    have lC : w.heap.size ≤ w1.heap.size := hb0.size
    clear hb0
    have hbl : aM L ≤ 262144 := by have := ym L; show (encs L).length ≤ _; omega
    rcases fO zq with ⟨rfl, hz⟩ | ⟨g, cap, rfl, hbg, hgl⟩
    · obtain rfl : L = [] := List.eq_nil_of_length_eq_zero hz
      have HA := aa (Kl [] 0 0 [] (dh s) (by simp) Yj.out)
      clear zq BG
      go_wp2
      refine wp_loop_rounds 1 ?_
      rw [rounds_succ]
      go_wp2
      go_ret2
      rw [vV.out, oh.out, HA.out]
      exact ⟨_, rfl, dS (eu _ _) lC, Hb0.out.alloc lC _⟩
    · have Zb := aa (xB zq rfl)
      have aiu : L.length ≤ cap := NI zq
      clear zq
      go_wp2
      go_loopw [6, 7, 8] (fun out av iv wr => ∃ (i a : Nat) (acc : List Tk), i ≤ L.length ∧ iv = .int .i64 (i : Int) ∧ av = .int .i64 (a : Int) ∧ a + aM (L.drop i) = aM L ∧ wr.ownsRow w1.heap.size 46 4 out acc.length (ak acc) ∧ Below w1.heap.size w1 wr ∧ DF L i a acc (dh s) ∧ acc.length ≤ 8192) (fun _ _ iv _ => L.length - (intOf iv).toNat)
      case atStart => exact ⟨0, 0, [], by omega, rfl, rfl, by simp, eu _ _, (Below.refl _ _).alloc (Nat.le_refl _) _, Yj.out, by simp⟩
      case round =>
        obtain ⟨i, a, acc, hil, rfl, rfl, hab, hown, hbel, hsp, hal⟩ := hrel
        obtain ⟨ao, aiN, rfl⟩ := kr hown
        have HO := aa hown
        have HB := aa hbel
        have Lp := aa hsp
        have sG : w1.heap.size ≤ wr.heap.size := hbel.size
        have rU : Hid (∀ t, t < L.length → wr.cell? ⟨g, t, none⟩ = some (.int .i64 (L.getD t 0))) := fun t ht => by
          have := (hbel.cell (p := ⟨g, 0 + t, none⟩) hgl).trans (Zb.out t ht)
          rw [Nat.zero_add] at this
          exact this
        have Ci := aa hab
        have ajg : a ≤ 262144 := by omega
        clear hown hbel hsp hab
        by_cases hlt : i < L.length
        · have g1 : wr.cell? ⟨g, i, none⟩ = some (.int .i64 L[i]) := by rw [rU.out i hlt]; simp [hlt]
          have hch := aa (iB L[i])
          have jS := aa (drop_cons L i hlt)
          by_cases h4 : dZ L[i] = 4
          · have tQ : Hid (fV (L.drop i) = 1) := by show _ = _; rw [jS.out, FT _ _ h4]
            rw [h4] at hch
            clear h4
            go_wp2_with (go_at_call 88; refine (hch.out _).mono ?_; rintro e' w' ⟨rfl, hw'⟩; obtain rfl := hw'.symm)
            refine wp_loop_rounds 1 ?_
            rw [rounds_succ]
            by_cases hnx : i + 1 < L.length
            all_goals
              have hkz : (((i : Int) + 1) == (i : Int)) = false := beq_eq_false_iff_ne.2 (by omega)
              have HW := aa (uh L i a (1) acc (dh s) hlt tQ.out (by omega) Lp.out)
              obtain ⟨zs, hzs⟩ : ∃ zs, zs = (L.drop i).take (1) := ⟨_, rfl⟩
              have hzl : zs.length = 1 := by rw [hzs, List.length_take, List.length_drop]; omega
              have hzb : aM zs ≤ aM (L.drop i) := by rw [hzs]; exact oW _ _
              have wN : Hid (aM (L.drop i) = aM zs + aM (L.drop (i + 1))) := by
                show _ = _
                have hsplit : L.drop i = (L.drop i).take (1) ++ L.drop (i + 1) := by
                  have := (List.take_append_drop (1) (L.drop i)).symm
                  rw [List.drop_drop, show i + (1) = (i + 1) by omega] at this
                  exact this
                rw [hzs]
                conv => lhs; rw [hsplit]
                exact kL _ _
              have uE : Hid (∀ t, t < 1 → wr.cell? ⟨g, i + t, none⟩ = some (.int .i64 (zs.getD t 0))) := by
                intro t ht
                rw [rU.out (i + t) (by omega)]
                congr 2
                rw [hzs]
                simp [ht]
              have wQ : Hid (∀ t, t < 1 → fT (zs.getD t 0) = true) := by
                intro t ht
                have hm : zs.getD t 0 ∈ L := by
                  have hlt2 : t < zs.length := by omega
                  have e : zs.getD t 0 = zs[t] := by simp [hlt2]
                  rw [e]
                  have hall : ∀ x ∈ zs, x ∈ L := fun x hx => by
                    rw [hzs] at hx
                    exact List.mem_of_mem_drop (List.mem_of_mem_take hx)
                  exact hall _ (List.getElem_mem hlt2)
                exact BG.out _ hm
              rw [← hzs] at HW
              have FE : Hid (zs = (L.drop i).take (1)) := hzs
              clear hzs tQ
              go_wp2_with (go_at_call 88; refine (hch.out _).mono ?_; rintro e' w' ⟨rfl, hw'⟩; obtain rfl := hw'.symm)
              refine (mI g i (1) (cap - i) zs _ (by omega) hzl (by omega) uE.out wQ.out).mono ?_
              rintro e' w4 ⟨rfl, hb4⟩
              have Aj : wr.heap.size ≤ w4.heap.size := hb4.size
              have bU := aa (HB.out.trans (hb4.mono HB.out.size))
              have iA := aa (bJ HO.out hb4)
              have xg : Hid (aM zs = (encs zs).length) := rfl
              rw [xg.out] at hzb wN HW
              generalize encs zs = txt at *
              have htl : txt.length ≤ 262144 := by have := Ci.out; omega
              clear hb4 uE wQ xg FE
              obtain ⟨tk, htk⟩ : ∃ tk : Tk, tk = (txt, acc.length, a, a + txt.length) := ⟨_, rfl⟩
              have Di := aa htk
              have jA := aa (lg w4 tk 46)
              have jB := aa (qK tk)
              have qW : Hid (eF tk = [.string ⟨txt.toArray⟩, .int .i64 acc.length, .int .i64 a, .int .i64 ((a : Int) + (txt.length : Int))]) := by show _ = _; rw [htk]; show [_, _, _, Value.int .i64 ((a + txt.length : Nat) : Int)] = _; rw [show ((a + txt.length : Nat) : Int) = (a : Int) + (txt.length : Int) by omega]
              rw [← htk] at HW
              rw [qW.out] at jA jB
              clear htk
              go_wp2_with (at_builtin; refine wpList_append_own _ rfl _ _ 37 rfl w1.heap.size 46 i0 (.agg #[.string ⟨#[]⟩, .int .i64 0, .int .i64 0, .int .i64 0]) 4 40 Tryz.underlying37 hi hz0 hz1 hz2 rfl (by decide) _ _ _ rfl (iA.out.alloc _) ⟨w4.heap.size, 0, none⟩ 1 1 [.string ⟨txt.toArray⟩, .int .i64 acc.length, .int .i64 a, .int .i64 ((a : Int) + (txt.length : Int))] rfl rfl ?c1 ?c2 ?c3 ?c4 ?c5 ?_)
              case c1 => exact jA.out
              case c2 => exact jB.out
              case c3 => unfold maxLen; omega
              case c4 => omega
              case c5 => have := bU.out.size; simp; omega
              intro v' w5 hown' hgrow hne
              have R : Hid (w5.ownsRow w1.heap.size 46 4 v' (acc ++ [tk]).length (ak (acc ++ [tk])) ∧ Below w1.heap.size w1 w5) := by
                refine ⟨?_, (bU.out.alloc bU.out.size _).grown hgrow (by have := bU.out.size; simp; omega) (bW iA.out)⟩
                rw [List.length_append, cK, qW.out]
                exact hown'
              have hlen' : (acc ++ [tk]).length = acc.length + 1 := by rw [List.length_append]; rfl
              have ku := aa hlen'
              obtain ⟨YU, cap', hv'⟩ := kr R.out.1
              rw [hlen'] at hv'
              subst hv'
              clear hown' hgrow iA bU jA jB hlen'
              by_cases hfull : acc.length = 8192
              · have hfz : (8192 : Int) < ((acc.length + 1 : Nat) : Int) := by omega
                have qJ : Hid (8192 < (dh s).length) := by have := HW.out.1; rw [ku.out] at this; show _ < _; omega
                clear hfull
                go_wp2
                go_ret2
                rw [vV.out, oh.out, if_pos qJ.out, if_pos qJ.out]
                exact ⟨_, rfl, dS (eu _ _) (by have := R.out.2.size; omega), (Hb0.out.trans (R.out.2.mono lC)).alloc (by have := R.out.2.size; omega) _⟩
              · have hfz : ¬ (8192 : Int) < ((acc.length + 1 : Nat) : Int) := by omega
                go_wp2
                go_roundw
                case rel =>
                  refine ⟨(i + 1), a + txt.length, acc ++ [tk], by omega, by go_num, by go_num, by have := wN.out; have := Ci.out; omega, by have h := R.out.1; rw [ku.out] at h ⊢; exact h, R.out.2, ?_, by rw [ku.out]; omega⟩
                  have h := HW.out.2
                  rw [show i + (1) = (i + 1) by omega] at h
                  exact h
                case measure => simp [intOf]; omega
          · have hc4 : (dZ L[i] == 4) = false := beq_eq_false_iff_ne.2 h4
            have hn4 : (dZ L[i] != 4) = true := by rw [bne_iff_ne]; exact h4
            by_cases hin : fF L[i] = true
            · have FI : Hid (yZ L i i) := ⟨rfl, Or.inl rfl⟩
              have YL : Hid (fV (L.drop i) = runK (L.drop i)) := by show _ = _; rw [jS.out]; exact Hu _ _ hin
              clear h4
              go_wp2_with (first | (go_at_call 88; refine (iB _ _).mono ?_; rintro e' w' ⟨rfl, hw'⟩; obtain rfl := hw'.symm) | (go_at_call 89; refine (nE _ _).mono ?_; rintro e' w' ⟨rfl, hw'⟩; obtain rfl := hw'.symm))
              go_loop [9] (fun kv => ∃ k : Nat, i ≤ k ∧ k ≤ L.length ∧ kv = .int .i64 (k : Int) ∧ yZ L i k) (fun kv => L.length - (intOf kv).toNat)
              case atStart => exact ⟨i, Nat.le_refl _, by omega, rfl, FI.out⟩
              case round =>
                obtain ⟨k, hik, hkl, rfl, hR⟩ := hrel
                have HR := aa hR
                clear hR
                by_cases hk : k < L.length
                · have g2 : wr.cell? ⟨g, k, none⟩ = some (.int .i64 L[k]) := by rw [rU.out k hk]; simp [hk]
                  by_cases hin2 : fF L[k] = true
                  · have HR2 := aa (Vz L i k hk hik HR.out hin2)
                    go_wp2_with (first | (go_at_call 88; refine (iB _ _).mono ?_; rintro e' w' ⟨rfl, hw'⟩; obtain rfl := hw'.symm) | (go_at_call 89; refine (nE _ _).mono ?_; rintro e' w' ⟨rfl, hw'⟩; obtain rfl := hw'.symm))
                    go_round
                    case rel => exact ⟨k + 1, by omega, by omega, by go_num, HR2.out⟩
                    case measure => simp [intOf]; omega
                  · have yQ : fF L[k] = false := by simpa using hin2
                    have hne : ¬ k = i := by intro e; subst e; rw [hin] at yQ; cases yQ
                    have agm : i < k := by omega
                    have QH := Ro L i k hk agm HR.out yQ
                    have hk1 : k - 1 < L.length := by omega
                    have ag8 : fF L[k - 1] = true := by
                      have e : L.getD (k - 1) 0 = L[k - 1] := by simp [hk1]
                      rw [e] at QH; exact QH
                    have g3 : wr.cell? ⟨g, k - 1, none⟩ = some (.int .i64 L[k - 1]) := by rw [rU.out (k - 1) hk1]; simp [hk1]
                    clear QH hin2 hne
                    by_cases hm : (dZ L[k] == 3) = true
                    · by_cases hk2 : k + 1 < L.length
                      · have g4 : wr.cell? ⟨g, k + 1, none⟩ = some (.int .i64 L[k + 1]) := by rw [rU.out (k + 1) hk2]; simp [hk2]
                        by_cases V3 : fF L[k + 1] = true
                        · have HR2 := aa (Ru L i k hk hik HR.out yQ hm (by rw [OW L (k + 1) hk2]; exact V3))
                          go_wp2_with (first | (go_at_call 88; refine (iB _ _).mono ?_; rintro e' w' ⟨rfl, hw'⟩; obtain rfl := hw'.symm) | (go_at_call 89; refine (nE _ _).mono ?_; rintro e' w' ⟨rfl, hw'⟩; obtain rfl := hw'.symm))
                          go_round
                          case rel => exact ⟨k + 1, by omega, by omega, by go_num, HR2.out⟩
                          case measure => simp [intOf]; omega
                        · have adi : fF L[k + 1] = false := by simpa using V3
                          clear V3
                          have HK := aa (AV L i k hk HR.out yQ (Or.inr (by rw [OW L (k + 1) hk2]; exact adi)))
                          have hik' : i < k := by omega
                          have tQ : Hid (fV (L.drop i) = k - i) := by show _ = _; rw [YL.out]; exact HK.out
                          clear HK
                          have hkz : (((k : Int)) == (i : Int)) = false := beq_eq_false_iff_ne.2 (by omega)
                          have HW := aa (uh L i a (k - i) acc (dh s) hlt tQ.out (by omega) Lp.out)
                          obtain ⟨zs, hzs⟩ : ∃ zs, zs = (L.drop i).take (k - i) := ⟨_, rfl⟩
                          have hzl : zs.length = k - i := by rw [hzs, List.length_take, List.length_drop]; omega
                          have hzb : aM zs ≤ aM (L.drop i) := by rw [hzs]; exact oW _ _
                          have wN : Hid (aM (L.drop i) = aM zs + aM (L.drop k)) := by
                            show _ = _
                            have hsplit : L.drop i = (L.drop i).take (k - i) ++ L.drop k := by
                              have := (List.take_append_drop (k - i) (L.drop i)).symm
                              rw [List.drop_drop, show i + (k - i) = k by omega] at this
                              exact this
                            rw [hzs]
                            conv => lhs; rw [hsplit]
                            exact kL _ _
                          have uE : Hid (∀ t, t < k - i → wr.cell? ⟨g, i + t, none⟩ = some (.int .i64 (zs.getD t 0))) := by
                            intro t ht
                            rw [rU.out (i + t) (by omega)]
                            congr 2
                            rw [hzs]
                            simp [ht]
                          have wQ : Hid (∀ t, t < k - i → fT (zs.getD t 0) = true) := by
                            intro t ht
                            have hm : zs.getD t 0 ∈ L := by
                              have hlt2 : t < zs.length := by omega
                              have e : zs.getD t 0 = zs[t] := by simp [hlt2]
                              rw [e]
                              have hall : ∀ x ∈ zs, x ∈ L := fun x hx => by
                                rw [hzs] at hx
                                exact List.mem_of_mem_drop (List.mem_of_mem_take hx)
                              exact hall _ (List.getElem_mem hlt2)
                            exact BG.out _ hm
                          rw [← hzs] at HW
                          have FE : Hid (zs = (L.drop i).take (k - i)) := hzs
                          clear hzs tQ
                          go_wp2_with (first | (go_at_call 88; refine (iB _ _).mono ?_; rintro e' w' ⟨rfl, hw'⟩; obtain rfl := hw'.symm) | (go_at_call 89; refine (nE _ _).mono ?_; rintro e' w' ⟨rfl, hw'⟩; obtain rfl := hw'.symm))
                          refine (mI g i (k - i) (cap - i) zs _ (by omega) hzl (by omega) uE.out wQ.out).mono ?_
                          rintro e' w4 ⟨rfl, hb4⟩
                          have Aj : wr.heap.size ≤ w4.heap.size := hb4.size
                          have bU := aa (HB.out.trans (hb4.mono HB.out.size))
                          have iA := aa (bJ HO.out hb4)
                          have xg : Hid (aM zs = (encs zs).length) := rfl
                          rw [xg.out] at hzb wN HW
                          generalize encs zs = txt at *
                          have htl : txt.length ≤ 262144 := by have := Ci.out; omega
                          clear hb4 uE wQ xg FE
                          obtain ⟨tk, htk⟩ : ∃ tk : Tk, tk = (txt, acc.length, a, a + txt.length) := ⟨_, rfl⟩
                          have Di := aa htk
                          have jA := aa (lg w4 tk 46)
                          have jB := aa (qK tk)
                          have qW : Hid (eF tk = [.string ⟨txt.toArray⟩, .int .i64 acc.length, .int .i64 a, .int .i64 ((a : Int) + (txt.length : Int))]) := by show _ = _; rw [htk]; show [_, _, _, Value.int .i64 ((a + txt.length : Nat) : Int)] = _; rw [show ((a + txt.length : Nat) : Int) = (a : Int) + (txt.length : Int) by omega]
                          rw [← htk] at HW
                          rw [qW.out] at jA jB
                          clear htk
                          go_wp2_with (at_builtin; refine wpList_append_own _ rfl _ _ 37 rfl w1.heap.size 46 i0 (.agg #[.string ⟨#[]⟩, .int .i64 0, .int .i64 0, .int .i64 0]) 4 40 Tryz.underlying37 hi hz0 hz1 hz2 rfl (by decide) _ _ _ rfl (iA.out.alloc _) ⟨w4.heap.size, 0, none⟩ 1 1 [.string ⟨txt.toArray⟩, .int .i64 acc.length, .int .i64 a, .int .i64 ((a : Int) + (txt.length : Int))] rfl rfl ?c1 ?c2 ?c3 ?c4 ?c5 ?_)
                          case c1 => exact jA.out
                          case c2 => exact jB.out
                          case c3 => unfold maxLen; omega
                          case c4 => omega
                          case c5 => have := bU.out.size; simp; omega
                          intro v' w5 hown' hgrow hne
                          have R : Hid (w5.ownsRow w1.heap.size 46 4 v' (acc ++ [tk]).length (ak (acc ++ [tk])) ∧ Below w1.heap.size w1 w5) := by
                            refine ⟨?_, (bU.out.alloc bU.out.size _).grown hgrow (by have := bU.out.size; simp; omega) (bW iA.out)⟩
                            rw [List.length_append, cK, qW.out]
                            exact hown'
                          have hlen' : (acc ++ [tk]).length = acc.length + 1 := by rw [List.length_append]; rfl
                          have ku := aa hlen'
                          obtain ⟨YU, cap', hv'⟩ := kr R.out.1
                          rw [hlen'] at hv'
                          subst hv'
                          clear hown' hgrow iA bU jA jB hlen'
                          by_cases hfull : acc.length = 8192
                          · have hfz : (8192 : Int) < ((acc.length + 1 : Nat) : Int) := by omega
                            have qJ : Hid (8192 < (dh s).length) := by have := HW.out.1; rw [ku.out] at this; show _ < _; omega
                            clear hfull
                            go_wp2
                            go_ret2
                            rw [vV.out, oh.out, if_pos qJ.out, if_pos qJ.out]
                            exact ⟨_, rfl, dS (eu _ _) (by have := R.out.2.size; omega), (Hb0.out.trans (R.out.2.mono lC)).alloc (by have := R.out.2.size; omega) _⟩
                          · have hfz : ¬ (8192 : Int) < ((acc.length + 1 : Nat) : Int) := by omega
                            go_wp2
                            go_roundw
                            case rel =>
                              refine ⟨k, a + txt.length, acc ++ [tk], by omega, by go_num, by go_num, by have := wN.out; have := Ci.out; omega, by have h := R.out.1; rw [ku.out] at h ⊢; exact h, R.out.2, ?_, by rw [ku.out]; omega⟩
                              have h := HW.out.2
                              rw [show i + (k - i) = k by omega] at h
                              exact h
                            case measure => simp [intOf]; omega
                      · have aao : ¬ (k : Int) + 1 < (L.length : Int) := by omega
                        have HK := aa (AV L i k hk HR.out yQ (Or.inr (Rx L (k + 1) hk2)))
                        have hik' : i < k := by omega
                        have tQ : Hid (fV (L.drop i) = k - i) := by show _ = _; rw [YL.out]; exact HK.out
                        clear HK
                        have hkz : (((k : Int)) == (i : Int)) = false := beq_eq_false_iff_ne.2 (by omega)
                        have HW := aa (uh L i a (k - i) acc (dh s) hlt tQ.out (by omega) Lp.out)
                        obtain ⟨zs, hzs⟩ : ∃ zs, zs = (L.drop i).take (k - i) := ⟨_, rfl⟩
                        have hzl : zs.length = k - i := by rw [hzs, List.length_take, List.length_drop]; omega
                        have hzb : aM zs ≤ aM (L.drop i) := by rw [hzs]; exact oW _ _
                        have wN : Hid (aM (L.drop i) = aM zs + aM (L.drop k)) := by
                          show _ = _
                          have hsplit : L.drop i = (L.drop i).take (k - i) ++ L.drop k := by
                            have := (List.take_append_drop (k - i) (L.drop i)).symm
                            rw [List.drop_drop, show i + (k - i) = k by omega] at this
                            exact this
                          rw [hzs]
                          conv => lhs; rw [hsplit]
                          exact kL _ _
                        have uE : Hid (∀ t, t < k - i → wr.cell? ⟨g, i + t, none⟩ = some (.int .i64 (zs.getD t 0))) := by
                          intro t ht
                          rw [rU.out (i + t) (by omega)]
                          congr 2
                          rw [hzs]
                          simp [ht]
                        have wQ : Hid (∀ t, t < k - i → fT (zs.getD t 0) = true) := by
                          intro t ht
                          have hm : zs.getD t 0 ∈ L := by
                            have hlt2 : t < zs.length := by omega
                            have e : zs.getD t 0 = zs[t] := by simp [hlt2]
                            rw [e]
                            have hall : ∀ x ∈ zs, x ∈ L := fun x hx => by
                              rw [hzs] at hx
                              exact List.mem_of_mem_drop (List.mem_of_mem_take hx)
                            exact hall _ (List.getElem_mem hlt2)
                          exact BG.out _ hm
                        rw [← hzs] at HW
                        have FE : Hid (zs = (L.drop i).take (k - i)) := hzs
                        clear hzs tQ
                        go_wp2_with (first | (go_at_call 88; refine (iB _ _).mono ?_; rintro e' w' ⟨rfl, hw'⟩; obtain rfl := hw'.symm) | (go_at_call 89; refine (nE _ _).mono ?_; rintro e' w' ⟨rfl, hw'⟩; obtain rfl := hw'.symm))
                        refine (mI g i (k - i) (cap - i) zs _ (by omega) hzl (by omega) uE.out wQ.out).mono ?_
                        rintro e' w4 ⟨rfl, hb4⟩
                        have Aj : wr.heap.size ≤ w4.heap.size := hb4.size
                        have bU := aa (HB.out.trans (hb4.mono HB.out.size))
                        have iA := aa (bJ HO.out hb4)
                        have xg : Hid (aM zs = (encs zs).length) := rfl
                        rw [xg.out] at hzb wN HW
                        generalize encs zs = txt at *
                        have htl : txt.length ≤ 262144 := by have := Ci.out; omega
                        clear hb4 uE wQ xg FE
                        obtain ⟨tk, htk⟩ : ∃ tk : Tk, tk = (txt, acc.length, a, a + txt.length) := ⟨_, rfl⟩
                        have Di := aa htk
                        have jA := aa (lg w4 tk 46)
                        have jB := aa (qK tk)
                        have qW : Hid (eF tk = [.string ⟨txt.toArray⟩, .int .i64 acc.length, .int .i64 a, .int .i64 ((a : Int) + (txt.length : Int))]) := by show _ = _; rw [htk]; show [_, _, _, Value.int .i64 ((a + txt.length : Nat) : Int)] = _; rw [show ((a + txt.length : Nat) : Int) = (a : Int) + (txt.length : Int) by omega]
                        rw [← htk] at HW
                        rw [qW.out] at jA jB
                        clear htk
                        go_wp2_with (at_builtin; refine wpList_append_own _ rfl _ _ 37 rfl w1.heap.size 46 i0 (.agg #[.string ⟨#[]⟩, .int .i64 0, .int .i64 0, .int .i64 0]) 4 40 Tryz.underlying37 hi hz0 hz1 hz2 rfl (by decide) _ _ _ rfl (iA.out.alloc _) ⟨w4.heap.size, 0, none⟩ 1 1 [.string ⟨txt.toArray⟩, .int .i64 acc.length, .int .i64 a, .int .i64 ((a : Int) + (txt.length : Int))] rfl rfl ?c1 ?c2 ?c3 ?c4 ?c5 ?_)
                        case c1 => exact jA.out
                        case c2 => exact jB.out
                        case c3 => unfold maxLen; omega
                        case c4 => omega
                        case c5 => have := bU.out.size; simp; omega
                        intro v' w5 hown' hgrow hne
                        have R : Hid (w5.ownsRow w1.heap.size 46 4 v' (acc ++ [tk]).length (ak (acc ++ [tk])) ∧ Below w1.heap.size w1 w5) := by
                          refine ⟨?_, (bU.out.alloc bU.out.size _).grown hgrow (by have := bU.out.size; simp; omega) (bW iA.out)⟩
                          rw [List.length_append, cK, qW.out]
                          exact hown'
                        have hlen' : (acc ++ [tk]).length = acc.length + 1 := by rw [List.length_append]; rfl
                        have ku := aa hlen'
                        obtain ⟨YU, cap', hv'⟩ := kr R.out.1
                        rw [hlen'] at hv'
                        subst hv'
                        clear hown' hgrow iA bU jA jB hlen'
                        by_cases hfull : acc.length = 8192
                        · have hfz : (8192 : Int) < ((acc.length + 1 : Nat) : Int) := by omega
                          have qJ : Hid (8192 < (dh s).length) := by have := HW.out.1; rw [ku.out] at this; show _ < _; omega
                          clear hfull
                          go_wp2
                          go_ret2
                          rw [vV.out, oh.out, if_pos qJ.out, if_pos qJ.out]
                          exact ⟨_, rfl, dS (eu _ _) (by have := R.out.2.size; omega), (Hb0.out.trans (R.out.2.mono lC)).alloc (by have := R.out.2.size; omega) _⟩
                        · have hfz : ¬ (8192 : Int) < ((acc.length + 1 : Nat) : Int) := by omega
                          go_wp2
                          go_roundw
                          case rel =>
                            refine ⟨k, a + txt.length, acc ++ [tk], by omega, by go_num, by go_num, by have := wN.out; have := Ci.out; omega, by have h := R.out.1; rw [ku.out] at h ⊢; exact h, R.out.2, ?_, by rw [ku.out]; omega⟩
                            have h := HW.out.2
                            rw [show i + (k - i) = k by omega] at h
                            exact h
                          case measure => simp [intOf]; omega
                    · have hm' : (dZ L[k] == 3) = false := by simpa using hm
                      clear hm
                      have HK := aa (AV L i k hk HR.out yQ (Or.inl hm'))
                      have hik' : i < k := by omega
                      have tQ : Hid (fV (L.drop i) = k - i) := by show _ = _; rw [YL.out]; exact HK.out
                      clear HK
                      have hkz : (((k : Int)) == (i : Int)) = false := beq_eq_false_iff_ne.2 (by omega)
                      have HW := aa (uh L i a (k - i) acc (dh s) hlt tQ.out (by omega) Lp.out)
                      obtain ⟨zs, hzs⟩ : ∃ zs, zs = (L.drop i).take (k - i) := ⟨_, rfl⟩
                      have hzl : zs.length = k - i := by rw [hzs, List.length_take, List.length_drop]; omega
                      have hzb : aM zs ≤ aM (L.drop i) := by rw [hzs]; exact oW _ _
                      have wN : Hid (aM (L.drop i) = aM zs + aM (L.drop k)) := by
                        show _ = _
                        have hsplit : L.drop i = (L.drop i).take (k - i) ++ L.drop k := by
                          have := (List.take_append_drop (k - i) (L.drop i)).symm
                          rw [List.drop_drop, show i + (k - i) = k by omega] at this
                          exact this
                        rw [hzs]
                        conv => lhs; rw [hsplit]
                        exact kL _ _
                      have uE : Hid (∀ t, t < k - i → wr.cell? ⟨g, i + t, none⟩ = some (.int .i64 (zs.getD t 0))) := by
                        intro t ht
                        rw [rU.out (i + t) (by omega)]
                        congr 2
                        rw [hzs]
                        simp [ht]
                      have wQ : Hid (∀ t, t < k - i → fT (zs.getD t 0) = true) := by
                        intro t ht
                        have hm : zs.getD t 0 ∈ L := by
                          have hlt2 : t < zs.length := by omega
                          have e : zs.getD t 0 = zs[t] := by simp [hlt2]
                          rw [e]
                          have hall : ∀ x ∈ zs, x ∈ L := fun x hx => by
                            rw [hzs] at hx
                            exact List.mem_of_mem_drop (List.mem_of_mem_take hx)
                          exact hall _ (List.getElem_mem hlt2)
                        exact BG.out _ hm
                      rw [← hzs] at HW
                      have FE : Hid (zs = (L.drop i).take (k - i)) := hzs
                      clear hzs tQ
                      go_wp2_with (first | (go_at_call 88; refine (iB _ _).mono ?_; rintro e' w' ⟨rfl, hw'⟩; obtain rfl := hw'.symm) | (go_at_call 89; refine (nE _ _).mono ?_; rintro e' w' ⟨rfl, hw'⟩; obtain rfl := hw'.symm))
                      refine (mI g i (k - i) (cap - i) zs _ (by omega) hzl (by omega) uE.out wQ.out).mono ?_
                      rintro e' w4 ⟨rfl, hb4⟩
                      have Aj : wr.heap.size ≤ w4.heap.size := hb4.size
                      have bU := aa (HB.out.trans (hb4.mono HB.out.size))
                      have iA := aa (bJ HO.out hb4)
                      have xg : Hid (aM zs = (encs zs).length) := rfl
                      rw [xg.out] at hzb wN HW
                      generalize encs zs = txt at *
                      have htl : txt.length ≤ 262144 := by have := Ci.out; omega
                      clear hb4 uE wQ xg FE
                      obtain ⟨tk, htk⟩ : ∃ tk : Tk, tk = (txt, acc.length, a, a + txt.length) := ⟨_, rfl⟩
                      have Di := aa htk
                      have jA := aa (lg w4 tk 46)
                      have jB := aa (qK tk)
                      have qW : Hid (eF tk = [.string ⟨txt.toArray⟩, .int .i64 acc.length, .int .i64 a, .int .i64 ((a : Int) + (txt.length : Int))]) := by show _ = _; rw [htk]; show [_, _, _, Value.int .i64 ((a + txt.length : Nat) : Int)] = _; rw [show ((a + txt.length : Nat) : Int) = (a : Int) + (txt.length : Int) by omega]
                      rw [← htk] at HW
                      rw [qW.out] at jA jB
                      clear htk
                      go_wp2_with (at_builtin; refine wpList_append_own _ rfl _ _ 37 rfl w1.heap.size 46 i0 (.agg #[.string ⟨#[]⟩, .int .i64 0, .int .i64 0, .int .i64 0]) 4 40 Tryz.underlying37 hi hz0 hz1 hz2 rfl (by decide) _ _ _ rfl (iA.out.alloc _) ⟨w4.heap.size, 0, none⟩ 1 1 [.string ⟨txt.toArray⟩, .int .i64 acc.length, .int .i64 a, .int .i64 ((a : Int) + (txt.length : Int))] rfl rfl ?c1 ?c2 ?c3 ?c4 ?c5 ?_)
                      case c1 => exact jA.out
                      case c2 => exact jB.out
                      case c3 => unfold maxLen; omega
                      case c4 => omega
                      case c5 => have := bU.out.size; simp; omega
                      intro v' w5 hown' hgrow hne
                      have R : Hid (w5.ownsRow w1.heap.size 46 4 v' (acc ++ [tk]).length (ak (acc ++ [tk])) ∧ Below w1.heap.size w1 w5) := by
                        refine ⟨?_, (bU.out.alloc bU.out.size _).grown hgrow (by have := bU.out.size; simp; omega) (bW iA.out)⟩
                        rw [List.length_append, cK, qW.out]
                        exact hown'
                      have hlen' : (acc ++ [tk]).length = acc.length + 1 := by rw [List.length_append]; rfl
                      have ku := aa hlen'
                      obtain ⟨YU, cap', hv'⟩ := kr R.out.1
                      rw [hlen'] at hv'
                      subst hv'
                      clear hown' hgrow iA bU jA jB hlen'
                      by_cases hfull : acc.length = 8192
                      · have hfz : (8192 : Int) < ((acc.length + 1 : Nat) : Int) := by omega
                        have qJ : Hid (8192 < (dh s).length) := by have := HW.out.1; rw [ku.out] at this; show _ < _; omega
                        clear hfull
                        go_wp2
                        go_ret2
                        rw [vV.out, oh.out, if_pos qJ.out, if_pos qJ.out]
                        exact ⟨_, rfl, dS (eu _ _) (by have := R.out.2.size; omega), (Hb0.out.trans (R.out.2.mono lC)).alloc (by have := R.out.2.size; omega) _⟩
                      · have hfz : ¬ (8192 : Int) < ((acc.length + 1 : Nat) : Int) := by omega
                        go_wp2
                        go_roundw
                        case rel =>
                          refine ⟨k, a + txt.length, acc ++ [tk], by omega, by go_num, by go_num, by have := wN.out; have := Ci.out; omega, by have h := R.out.1; rw [ku.out] at h ⊢; exact h, R.out.2, ?_, by rw [ku.out]; omega⟩
                          have h := HW.out.2
                          rw [show i + (k - i) = k by omega] at h
                          exact h
                        case measure => simp [intOf]; omega
                · have aiB : ¬ (k : Int) < (L.length : Int) := by omega
                  have HK := aa (Xr L i k hk HR.out)
                  have hik' : i < k := by omega
                  have tQ : Hid (fV (L.drop i) = k - i) := by show _ = _; rw [YL.out]; exact HK.out
                  clear HK
                  have hkz : (((k : Int)) == (i : Int)) = false := beq_eq_false_iff_ne.2 (by omega)
                  have HW := aa (uh L i a (k - i) acc (dh s) hlt tQ.out (by omega) Lp.out)
                  obtain ⟨zs, hzs⟩ : ∃ zs, zs = (L.drop i).take (k - i) := ⟨_, rfl⟩
                  have hzl : zs.length = k - i := by rw [hzs, List.length_take, List.length_drop]; omega
                  have hzb : aM zs ≤ aM (L.drop i) := by rw [hzs]; exact oW _ _
                  have wN : Hid (aM (L.drop i) = aM zs + aM (L.drop k)) := by
                    show _ = _
                    have hsplit : L.drop i = (L.drop i).take (k - i) ++ L.drop k := by
                      have := (List.take_append_drop (k - i) (L.drop i)).symm
                      rw [List.drop_drop, show i + (k - i) = k by omega] at this
                      exact this
                    rw [hzs]
                    conv => lhs; rw [hsplit]
                    exact kL _ _
                  have uE : Hid (∀ t, t < k - i → wr.cell? ⟨g, i + t, none⟩ = some (.int .i64 (zs.getD t 0))) := by
                    intro t ht
                    rw [rU.out (i + t) (by omega)]
                    congr 2
                    rw [hzs]
                    simp [ht]
                  have wQ : Hid (∀ t, t < k - i → fT (zs.getD t 0) = true) := by
                    intro t ht
                    have hm : zs.getD t 0 ∈ L := by
                      have hlt2 : t < zs.length := by omega
                      have e : zs.getD t 0 = zs[t] := by simp [hlt2]
                      rw [e]
                      have hall : ∀ x ∈ zs, x ∈ L := fun x hx => by
                        rw [hzs] at hx
                        exact List.mem_of_mem_drop (List.mem_of_mem_take hx)
                      exact hall _ (List.getElem_mem hlt2)
                    exact BG.out _ hm
                  rw [← hzs] at HW
                  have FE : Hid (zs = (L.drop i).take (k - i)) := hzs
                  clear hzs tQ
                  go_wp2_with (first | (go_at_call 88; refine (iB _ _).mono ?_; rintro e' w' ⟨rfl, hw'⟩; obtain rfl := hw'.symm) | (go_at_call 89; refine (nE _ _).mono ?_; rintro e' w' ⟨rfl, hw'⟩; obtain rfl := hw'.symm))
                  refine (mI g i (k - i) (cap - i) zs _ (by omega) hzl (by omega) uE.out wQ.out).mono ?_
                  rintro e' w4 ⟨rfl, hb4⟩
                  have Aj : wr.heap.size ≤ w4.heap.size := hb4.size
                  have bU := aa (HB.out.trans (hb4.mono HB.out.size))
                  have iA := aa (bJ HO.out hb4)
                  have xg : Hid (aM zs = (encs zs).length) := rfl
                  rw [xg.out] at hzb wN HW
                  generalize encs zs = txt at *
                  have htl : txt.length ≤ 262144 := by have := Ci.out; omega
                  clear hb4 uE wQ xg FE
                  obtain ⟨tk, htk⟩ : ∃ tk : Tk, tk = (txt, acc.length, a, a + txt.length) := ⟨_, rfl⟩
                  have Di := aa htk
                  have jA := aa (lg w4 tk 46)
                  have jB := aa (qK tk)
                  have qW : Hid (eF tk = [.string ⟨txt.toArray⟩, .int .i64 acc.length, .int .i64 a, .int .i64 ((a : Int) + (txt.length : Int))]) := by show _ = _; rw [htk]; show [_, _, _, Value.int .i64 ((a + txt.length : Nat) : Int)] = _; rw [show ((a + txt.length : Nat) : Int) = (a : Int) + (txt.length : Int) by omega]
                  rw [← htk] at HW
                  rw [qW.out] at jA jB
                  clear htk
                  go_wp2_with (at_builtin; refine wpList_append_own _ rfl _ _ 37 rfl w1.heap.size 46 i0 (.agg #[.string ⟨#[]⟩, .int .i64 0, .int .i64 0, .int .i64 0]) 4 40 Tryz.underlying37 hi hz0 hz1 hz2 rfl (by decide) _ _ _ rfl (iA.out.alloc _) ⟨w4.heap.size, 0, none⟩ 1 1 [.string ⟨txt.toArray⟩, .int .i64 acc.length, .int .i64 a, .int .i64 ((a : Int) + (txt.length : Int))] rfl rfl ?c1 ?c2 ?c3 ?c4 ?c5 ?_)
                  case c1 => exact jA.out
                  case c2 => exact jB.out
                  case c3 => unfold maxLen; omega
                  case c4 => omega
                  case c5 => have := bU.out.size; simp; omega
                  intro v' w5 hown' hgrow hne
                  have R : Hid (w5.ownsRow w1.heap.size 46 4 v' (acc ++ [tk]).length (ak (acc ++ [tk])) ∧ Below w1.heap.size w1 w5) := by
                    refine ⟨?_, (bU.out.alloc bU.out.size _).grown hgrow (by have := bU.out.size; simp; omega) (bW iA.out)⟩
                    rw [List.length_append, cK, qW.out]
                    exact hown'
                  have hlen' : (acc ++ [tk]).length = acc.length + 1 := by rw [List.length_append]; rfl
                  have ku := aa hlen'
                  obtain ⟨YU, cap', hv'⟩ := kr R.out.1
                  rw [hlen'] at hv'
                  subst hv'
                  clear hown' hgrow iA bU jA jB hlen'
                  by_cases hfull : acc.length = 8192
                  · have hfz : (8192 : Int) < ((acc.length + 1 : Nat) : Int) := by omega
                    have qJ : Hid (8192 < (dh s).length) := by have := HW.out.1; rw [ku.out] at this; show _ < _; omega
                    clear hfull
                    go_wp2
                    go_ret2
                    rw [vV.out, oh.out, if_pos qJ.out, if_pos qJ.out]
                    exact ⟨_, rfl, dS (eu _ _) (by have := R.out.2.size; omega), (Hb0.out.trans (R.out.2.mono lC)).alloc (by have := R.out.2.size; omega) _⟩
                  · have hfz : ¬ (8192 : Int) < ((acc.length + 1 : Nat) : Int) := by omega
                    go_wp2
                    go_roundw
                    case rel =>
                      refine ⟨k, a + txt.length, acc ++ [tk], by omega, by go_num, by go_num, by have := wN.out; have := Ci.out; omega, by have h := R.out.1; rw [ku.out] at h ⊢; exact h, R.out.2, ?_, by rw [ku.out]; omega⟩
                      have h := HW.out.2
                      rw [show i + (k - i) = k by omega] at h
                      exact h
                    case measure => simp [intOf]; omega
            · have hin' : fF L[i] = false := by simpa using hin
              have tQ := aa (show fV (L.drop i) = 0 by rw [jS.out]; exact Ez _ _ hin' h4)
              have hic := aa (nE L[i])
              rw [hin'] at hic
              have HS2 := aa (Sg L i a acc (dh s) hlt tQ.out Lp.out)
              have afh := BG.out _ (List.getElem_mem hlt)
              have hrl := Lib.runeCells_le L[i]
              have afS : Hid (aM (L.drop i) = (Lib.runeCells L[i]).length + aM (L.drop (i + 1))) := by show _ = _; rw [jS.out, jT, Lib.runeCells_length]
              clear hin hin' h4 tQ
              generalize dZ L[i] = c at *
              go_wp2_with (go_at_call 88; refine (hch.out _).mono ?_; rintro e' w' ⟨rfl, hw'⟩; obtain rfl := hw'.symm)
              refine wp_loop_rounds 1 ?_
              rw [rounds_succ]
              go_wp2_with (first | (go_at_call 88; refine (hch.out _).mono ?_; rintro e' w' ⟨rfl, hw'⟩; obtain rfl := hw'.symm) | (go_at_call 89; refine (hic.out _).mono ?_; rintro e' w' ⟨rfl, hw'⟩; obtain rfl := hw'.symm))
              refine (nD L[i] _ afh).mono ?_
              rintro e' w4 ⟨rfl, rfl⟩
              go_wp2
              go_roundw
              case rel => exact ⟨i + 1, a + (Lib.runeCells L[i]).length, acc, by omega, by go_num, by go_num, by have := afS.out; have := Ci.out; omega, HO.out.alloc _, HB.out.alloc sG _, HS2.out, hal⟩
              case measure => simp [intOf]; omega
        · have HA := aa (Kl L i a acc (dh s) hlt Lp.out)
          go_wp2
          go_ret2
          rw [vV.out, oh.out, HA.out, if_neg (by omega), if_neg (by omega)]
          exact ⟨_, rfl, dS HO.out lC, Hb0.out.trans (HB.out.mono lC)⟩
  · have hcn : (aJ s != 0) = true := by rw [bne_iff_ne]; exact hc
    have vV : Hid (dI s = aJ s) := by show _ = _; rw [dI, if_neg hc]
    have oh : Hid (bY s = []) := by show _ = _; rw [bY, if_neg hc]
    clear hc
    go_enter Tryz.func66, Tryz.ntmps66
    go_wp2_with fail
    refine (gH s _ hs).mono ?_
    rintro e w1 ⟨v, rfl, _, hb1⟩
    go_wp2
    go_ret2
    rw [vV.out, oh.out]
    exact ⟨_, rfl, dS (eu _ _) hb1.size, hb1.alloc hb1.size _⟩
theorem xE(st ph:Bool)(lo hi:Int) : ∀(xs o:List (List UInt8)),(iK st ph lo hi o xs).1.length≤o.length+xs.length*4096
 | [],o=>by rw[iK];simp
 |x::xs,o=>by
  rw[iK];split;·have h1:=xE st ph lo hi xs (jD o (jf lo hi (bQ ph (eO st x))));have h2:=zg (jf lo hi (bQ ph (eO st x))) o;have h3:=Et lo hi (bQ ph (eO st x));rw[List.length_cons];omega
  ·exact Nat.zero_le _
theorem Ng(fo st ph:Bool)(stops:List (List UInt8))(af:List (List UInt8×List UInt8))(lo hi:Int)(t:List UInt8)(h:af.length≤64) :(gV fo st ph stops af lo hi t).1.length≤266240:=by
 unfold gV;split;·exact Nat.zero_le _
 ·have h1:=xE st ph lo hi (bB af (eH fo t)) [];have h2:=pF af (eH fo t);rw[bB,List.length_cons]at h1;rw[bB];simp only[List.length_nil]at h1;omega
theorem xC(fo st ph:Bool)(aS aY:Option Addr)(cS cY:Nat)(stops:List (List UInt8))(af:List (List UInt8×List UInt8))(lo hi:Int)(s:ByteArray)(w:World)(hS:bE w aS stops)(hY:dB w aY af)(zS:Mv stops)(zY:Kc af)(FK:stops.length≤1048576)(Al:af.length≤1048576)(hs:s.size≤1048576)(L:List Tk)(C:Int)(HF:Hid (oU fo st ph stops af lo hi s=(L,C))) :Calls Tryz.prog 65 #[.agg #[.bool fo,.bool st,.bool ph,.slice aS stops.length cS,.slice aY af.length cY,.int .i64 lo,.int .i64 hi],.string s] w fun e w'=>∃v,e= .returned (.tuple #[v,.int .i64 C])∧w'.ownsRow w.heap.size 46 4 v L.length (ak L)∧Below w.heap.size w w':=by
 obtain⟨i0,hi0,hz0,hz1,hz2⟩ :=info_parts Tryz.infoTok;have HS:=aa hS;have HY:=aa hY;have ZS:=aa zS;have ZY:=aa zY;clear hS hY zS zY;have ax:Hid (Below w.heap.size w (w.alloc (.cells #[.bool fo,.bool st,.bool ph,.slice aS stops.length cS,.slice aY af.length cY,.int .i64 lo,.int .i64 hi] 73))) :=(Below.refl _ _).alloc (Nat.le_refl _) _;have hblk:(w.alloc (.cells #[.bool fo,.bool st,.bool ph,.slice aS stops.length cS,.slice aY af.length cY,.int .i64 lo,.int .i64 hi] 73)).heap[w.heap.size]?=some (.cells #[.bool fo,.bool st,.bool ph,.slice aS stops.length cS,.slice aY af.length cY,.int .i64 lo,.int .i64 hi] 73) :=heap_alloc_new _ _;have fe:=aa hblk;clear hblk;by_cases h1:65536<s.size
 ·have HE:Hid (L= []∧C=2) :=by have h:=HF.out;rw[oU,if_pos h1]at h;exact⟨(Prod.mk.inj h).1.symm,(Prod.mk.inj h).2.symm⟩
  have h1z:(65536:Int)<(s.size:Int) :=by omega
  go_enter Tryz.func65,Tryz.ntmps65;go_wp2_with fail;go_ret2;rw[HE.out.1,HE.out.2];have hza:=ax.out.size;have h:=eu (w.alloc (.cells #[.bool fo,.bool st,.bool ph,.slice aS stops.length cS,.slice aY af.length cY,.int .i64 lo,.int .i64 hi] 73)) 46;rw[show(w.alloc (.cells #[.bool fo,.bool st,.bool ph,.slice aS stops.length cS,.slice aY af.length cY,.int .i64 lo,.int .i64 hi] 73)).heap.size=w.heap.size+1 by simp]at h;exact⟨.slice (some ⟨w.heap.size+1,0,none⟩) 0 0,rfl,dS h (by omega),ax.out.alloc (by omega) _⟩
 ·have h1z: ¬(65536:Int)<(s.size:Int) :=by omega
  have Ep:=HF.out;rw[oU,if_neg h1]at Ep;have IY:=aa Ep;clear Ep HF;go_enter Tryz.func65,Tryz.ntmps65;go_wp2_with fail;have yw:=aa (HS.out.below ax.out);have uB:=aa (HY.out.below ax.out);generalize w.alloc (.cells #[.bool fo,.bool st,.bool ph,.slice aS stops.length cS,.slice aY af.length cY,.int .i64 lo,.int .i64 hi] 73)=wa at*;generalize hB:w.heap.size=B at*;have hza:=ax.out.size;clear HS HY;refine(Cw fo st ph aS aY cS cY stops af lo hi _ yw.out uB.out ZS.out ZY.out FK Al).mono ?_;rintro e w1⟨rfl,hb1⟩;have Ey:=aa (aD fe.out hb1);have j5:=aa (yw.out.below hb1);have FV:=aa (uB.out.below hb1);have HB1:=aa (ax.out.trans (hb1.mono (by omega)));clear hb1 ZS ZY yw uB fe ax hza;have hw1:=HB1.out.size;cases hok:mq stops af lo hi
  ·have HE:Hid (L= []∧C=1) :=by have h:=IY.out;rw[hok]at h;exact⟨(Prod.mk.inj h).1.symm,(Prod.mk.inj h).2.symm⟩
   clear hok;go_wp2_with fail;go_ret2;rw[HE.out.1,HE.out.2];try rw[hB]
   exact⟨_,rfl,dS (eu w1 _) (by omega),HB1.out.alloc (by omega) _⟩
  ·obtain⟨hn1,hn2,hn3⟩ :=uP hok;have Bn:=aa hn3;have GR:=IY.out;rw[hok,if_pos rfl]at GR;have YC:=aa GR;clear hok hn3 GR IY;go_wp2_with fail;refine(zV s _ hs).mono ?_;rintro e w2⟨v2,rfl,hown2,hb2⟩;have cu:=aa hown2;have HB2:=aa (HB1.out.trans (hb2.mono (by omega)));have hw2:=HB2.out.size;have xX:=aa (aD Ey.out hb2);have HS2:=aa (j5.out.below hb2);have Fp:=aa (FV.out.below hb2);clear hown2 hb2 Ey j5 FV;by_cases hc:dI s=0
   ·rw[hc];have HF5:Hid (jE (gV fo st ph stops af lo hi) [] (bY s)=(L,C)) :=by have h:=YC.out;rw[if_pos hc]at h;exact h
    have HBO:=aa (yU s);have hbl:=xL s;clear hc YC;obtain⟨aW,cW,rfl,hT,Ag⟩ :=kJ cu.out;have HT:=aa hT;have AZ:=aa Ag;clear hT Ag cu;generalize bY s=W at*;go_wp2_with fail;go_loopw [8,9](fun v i wx=>∃(k:Nat)(o:List Tk),k≤W.length∧i= .int .i64 k∧wx.ownsRow w2.heap.size 46 4 v o.length (ak o)∧o.length≤8192∧jE (gV fo st ph stops af lo hi) o (W.drop k)=(L,C)∧Below w2.heap.size w2 wx)(fun _ i _=>W.length-(intOf i).toNat);case atStart=>exact⟨0,[],by omega,rfl,eu w2 _,by simp,HF5.out,(Below.refl _ _).alloc (Nat.le_refl _) _⟩
    case round=>
     obtain⟨k,o,hk,rfl,hown,hol,hgo,hbx⟩ :=hrel;have HO:=aa hown;have HG:=aa hgo;have bq:=aa hbx;have rY:=aa (aD xX.out hbx);have NS:=aa (HS2.out.below hbx);have YB:=aa (Fp.out.below hbx);have gP:=aa (HT.out.below hbx);have hwx:=hbx.size;clear hown hgo hbx HF5;by_cases hlt:k<W.length
     ·have FW:=HBO.out (W.getD k bS) (by rw[List.getD_eq_getElem?_getD,List.getElem?_eq_getElem hlt,Option.getD_some];exact List.getElem_mem _);have HST:=aa (GY (gV fo st ph stops af lo hi) o W k hlt);obtain⟨b,off,rfl,Gu,hc⟩ :=gP.out.resolve_left (fun h=>by rw[h]at hlt;simp at hlt);obtain⟨g0,-,-,-⟩ :=hc k hlt;clear hc;obtain⟨tk,htk⟩ : ∃tk,W.getD k bS=tk:=⟨_,rfl⟩;have Di:=aa htk;rw[htk]at FW g0 HST;clear htk;obtain⟨tx,p0,p1,p2⟩ :=tk;obtain⟨fl,fc,hf⟩ : ∃fl fc,gV fo st ph stops af lo hi tx=(fl,fc) :=⟨_,_,rfl⟩;have hfl:=Ng fo st ph stops af lo hi tx hn2;have HFf:=aa hf;rw[hf]at hfl HST;clear hf;dsimp only at hfl HST FW g0;have HV:=aa FW.1;have htz:=FW.2;clear FW;have q0:wr.cell? ⟨B,0,none⟩=some (.bool fo) :=ah rY.out 0;have q1:wr.cell? ⟨B,1,none⟩=some (.bool st) :=ah rY.out 1;have q2:wr.cell? ⟨B,2,none⟩=some (.bool ph) :=ah rY.out 2;have q3:wr.cell? ⟨B,3,none⟩=some (.slice aS stops.length cS) :=ah rY.out 3
      have q4:wr.cell? ⟨B,4,none⟩=some (.slice aY af.length cY) :=ah rY.out 4;have q5:wr.cell? ⟨B,5,none⟩=some (.int .i64 lo) :=ah rY.out 5;have q6:wr.cell? ⟨B,6,none⟩=some (.int .i64 hi) :=ah rY.out 6;have HC:Hid (∀(u:World)(Q:Ending→World→Prop),Below wr.heap.size wr u→(∀v w',w'.ownsRow wr.heap.size 9 1 v fl.length (bR fl)→Below wr.heap.size wr w'→Q (.returned (.tuple #[v,.int .i64 fc])) w')→Calls Tryz.prog 86 #[.agg #[.bool fo,.bool st,.bool ph,.slice aS stops.length cS,.slice aY af.length cY,.int .i64 lo,.int .i64 hi],.string (bs tx)] u Q) :=fun u Q hu hQ=>(Tp fo st ph aS aY cS cY stops af lo hi tx u (NS.out.below hu) (YB.out.below hu) hn1 hn2 Bn.out htz HV.out fl fc HFf).mono fun e w' h=>by obtain⟨v,rfl,h1,h2⟩ :=h;exact hQ v w' (fQ h1 hu.size) (hu.trans (h2.mono hu.size))
      go_upto_region 12 with fail;go_cut [10,11](fun a c wy=>c= .int .i64 fc∧wy.ownsRow wr.heap.size 9 1 a fl.length (bR fl)∧Below wr.heap.size wr wy);case first=>
       go_region_with(go_at_call 86;refine HC.out _ _ (below_drewN (Below.refl _ _) 1) ?_;intro v3 w3 hown3 hb3);all_goals go_wp2_with fail
       all_goals go_meet;case rel=>exact⟨rfl,hown3,hb3⟩
      case rest=>
       obtain⟨rfl,hown3,hb3⟩ :=hcut;have qb:=aa (bJ HO.out hb3);have HT3:=aa (gP.out.below hb3);have HB3:=aa (bq.out.trans (hb3.mono bq.out.size));have fZ:Hid (Below B w wc) :=HB2.out.trans (HB3.out.mono (by omega));have hf3:=fZ.out.size;clear q0 q1 q2 q3 q4 q5 q6 g0 HC hb3;by_cases hfc:fc=0
       ·subst hfc;have PY:Hid ((if(o++aG (tx,p0,p1,p2) fl).length≤8192 then jE (gV fo st ph stops af lo hi) (o++aG (tx,p0,p1,p2) fl) (W.drop (k+1))else([],11))=(L,C)) :=by show _=_;have h:=HG.out;rw[HST.out,if_pos rfl]at h;exact h
        obtain⟨aF,cF,rfl,Rh,Rz⟩ :=xw hown3;have Tn:=aa Rh;have qP:=aa (sQ HO.out (fun b off e=>(Rz b off e).1));clear hown3 Rh Rz HST HG HO gP bq rY NS YB HFf;go_wp2_with fail;generalize wc=w4 at*;go_loopw [8,12](fun v i wx=>∃j:Nat,j≤fl.length∧i= .int .i64 j∧wx.ownsRow w2.heap.size 46 4 v (o++aG (tx,p0,p1,p2) (fl.take j)).length (ak (o++aG (tx,p0,p1,p2) (fl.take j)))∧bE wx aF fl∧(∀b off,aF=some ⟨b,off,none⟩→some b≠v.ownBlock)∧jr wx (some ⟨b,off,none⟩) W∧Below w2.heap.size w2 wx)(fun _ i _=>fl.length-(intOf i).toNat);case atStart=>exact⟨0,by omega,rfl,by rw[show o++aG (tx,p0,p1,p2) (fl.take 0)=o from List.append_nil o];exact qb.out,Tn.out,qP.out,HT3.out,HB3.out⟩
        case round=>
         obtain⟨j,hj,rfl,hown,hh,hne,hht,hby⟩ :=hrel;have iF:=aa hown;have si:=aa hh;have uI:=aa hne;have gQ:=aa hht;have jX:=aa hby;have h2r:=hby.size;clear hown hh hne hht hby qb Tn qP HT3 HB3;by_cases hjl:j<fl.length
         ·obtain⟨bF,oF,rfl,af9,U0⟩ :=si.out.resolve_left (fun h=>by rw[h]at hjl;simp at hjl);have f0:=U0 j hjl;obtain⟨b',off',e',aiR,UI⟩ :=gQ.out.resolve_left (fun h=>by rw[h]at hlt;simp at hlt);cases e';obtain⟨t0,t1,t2,t3⟩ :=UI k hlt;rw[Di.out]at t0 t1 t2 t3;dsimp only at t0 t1 t2 t3;have HAD:Hid (o++aG (tx,p0,p1,p2) (fl.take (j+1))=(o++aG (tx,p0,p1,p2) (fl.take j))++ [(fl.getD j [],p0,p1,p2)]) :=by show _=_;rw[yT _ _ _ hjl,List.append_assoc]
          have hal:(o++aG (tx,p0,p1,p2) (fl.take j)).length≤8192+266240:=by rw[List.length_append,kK,List.length_take];omega
          clear U0 UI;generalize fl.getD j []=y at*;generalize o++aG (tx,p0,p1,p2) (fl.take j)=A at*;have hbW:b<w2.heap.size:=(AZ.out b off rfl).2;go_wp2_with(at_builtin;refine wpList_append_own_at _ rfl _ _ 37 rfl w2.heap.size 46 i0 (.agg #[.string ⟨#[]⟩,.int .i64 0,.int .i64 0,.int .i64 0]) 4 40 Tryz.underlying37 hi0 hz0 hz1 hz2 rfl (by decide) _ _ _ rfl ((iF.out.alloc _).alloc _) ⟨wr.heap.size+1,0,none⟩ 1 1 [.string (bs y),.int .i64 p0,.int .i64 p1,.int .i64 p2] rfl rfl ?c1 ?c2 ?c3 ?c4 ?c5 ?_);case c1=>
           intro q u hq;match q,hq with
           |0,hq=>simp at hq;subst hq;simp[Addr.add]
           |1,hq=>simp at hq;subst hq;simp[Addr.add]
           |2,hq=>simp at hq;subst hq;simp[Addr.add]
           |3,hq=>simp at hq;subst hq;simp[Addr.add]
           |q+4,hq=>simp at hq
          case c2=>intro u hu;simp at hu;rcases hu with rfl|rfl|rfl|rfl<;>rfl
          case c3=>unfold maxLen;omega
          case c4=>omega
          case c5=>simp;omega
          intro v' w6 hown' hgrow hne hat;have RR:Hid (w6.ownsRow w2.heap.size 46 4 v' (A++ [(y,p0,p1,p2)]).length (ak (A++ [(y,p0,p1,p2)]))∧bE w6 (some ⟨bF,oF,none⟩) fl∧(∀b' off',some (⟨bF,oF,none⟩ :Addr)=some ⟨b',off',none⟩→some b'≠v'.ownBlock)∧jr w6 (some ⟨b,off,none⟩) W∧Below w2.heap.size w2 w6) :=by
           refine⟨?_,(si.out.below (((Below.refl _ _).alloc (Nat.le_refl _) _).alloc (by simp) _)).grown hgrow uI.out,?_,(gQ.out.below (((Below.refl _ _).alloc (Nat.le_refl _) _).alloc (by simp) _)).grown hgrow (fun b' off' e1=>by cases e1;exact vF iF.out hbW),((jX.out.alloc h2r _).alloc (by simp;omega) _).grown hgrow (by simp;omega) (bW iF.out)⟩;·rw[cK,List.length_append];exact hown'
           ·intro b1 off1 e1;rcases hat with h|h;·rw[h];exact uI.out b1 off1 e1
            ·rw[h];cases e1;intro e2;have e3:=Option.some.inj e2;try simp at e3
             omega
          clear hown' hgrow hne hat iF si uI gQ jX;go_wp2_with fail;go_roundw;case rel=>exact⟨j+1,by omega,by go_num,by rw[HAD.out];exact RR.out.1,RR.out.2.1,RR.out.2.2.1,RR.out.2.2.2.1,RR.out.2.2.2.2⟩
          case measure=>simp[intOf];omega
         ·have wH:=iF.out;rw[List.take_of_length_le (by omega)]at wH;have jH:=aa wH;clear wH iF si uI gQ;obtain⟨aO,cO,rfl⟩ :=kr jH.out;generalize o++aG (tx,p0,p1,p2) fl=A at*;by_cases h8:A.length≤8192
          ·have h8z: ¬(8192:Int)<(A.length:Int) :=by omega
           have afa:Hid (jE (gV fo st ph stops af lo hi) A (W.drop (k+1))=(L,C)) :=by show _=_;have h:=PY.out;rw[if_pos h8]at h;exact h
           clear PY;go_wp2_with fail;go_roundw;case rel=>exact⟨k+1,A,by omega,by go_num,jH.out,h8,afa.out,jX.out⟩
           case measure=>simp[intOf];omega
          ·have h8z:(8192:Int)<(A.length:Int) :=by omega
           have HE:Hid (L= []∧C=11) :=by have h:=PY.out;rw[if_neg h8]at h;exact⟨(Prod.mk.inj h).1.symm,(Prod.mk.inj h).2.symm⟩
           clear PY;go_wp2_with fail;go_ret2;rw[HE.out.1,HE.out.2];try rw[hB]
           exact⟨_,rfl,dS (eu wr _) (by omega),(HB2.out.trans (jX.out.mono (by omega))).alloc (by omega) _⟩
       ·have HE:Hid (L= []∧C=fc) :=by have h:=HG.out;rw[HST.out,if_neg hfc]at h;exact⟨(Prod.mk.inj h).1.symm,(Prod.mk.inj h).2.symm⟩
        have hcn:(fc !=0)=true:=by rw[bne_iff_ne];exact hfc
        clear hfc HG HST qb HT3 hown3;go_wp2_with fail;go_ret2;rw[HE.out.1,HE.out.2];try rw[hB]
        exact⟨_,rfl,dS (eu wc _) (by omega),fZ.out.alloc (by omega) _⟩
     ·have HE:Hid (L=o∧C=0) :=by have h:=HG.out;rw[List.drop_of_length_le (by omega),jE]at h;exact⟨(Prod.mk.inj h).1.symm,(Prod.mk.inj h).2.symm⟩
      go_wp2_with fail;go_ret2;rw[HE.out.1,HE.out.2];try rw[hB]
      exact⟨_,rfl,dS HO.out (by omega),HB2.out.trans (bq.out.mono (by omega))⟩
   ·have HE:Hid (L= []∧C=dI s) :=by have h:=YC.out;rw[if_neg hc]at h;exact⟨(Prod.mk.inj h).1.symm,(Prod.mk.inj h).2.symm⟩
    have hcn:(dI s !=0)=true:=by rw[bne_iff_ne];exact hc
    clear hc YC cu;generalize dI s=c at*;go_wp2_with fail;go_ret2;rw[HE.out.1,HE.out.2];try rw[hB]
    exact⟨_,rfl,dS (eu w2 _) (by omega),HB2.out.alloc (by omega) _⟩
end Go.Proofs.YtcjiphknpagenaaGreatDoor
