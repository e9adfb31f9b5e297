import Derived.Test.YtfdmahbjofolhamDoorLkE
import Derived.BigQuiet
namespace Go.Proofs.YtfdmahbjofolhamDoor
open Go Go.RowKit
set_option linter.unusedVariables false
set_option maxRecDepth 100000

/-! impl.fits. -/
def chars (t : List Int) : Prop := ∀ c ∈ t, 0 ≤ c ∧ c ≤ 1114111
theorem chars.drop {t : List Int} (h : chars t) (k : Nat) : chars (t.drop k) := fun c hc => h c (List.mem_of_mem_drop hc)
theorem chars.take {t : List Int} (h : chars t) (k : Nat) : chars (t.take k) := fun c hc => h c (List.mem_of_mem_take hc)
theorem getD_mem0 {l : List (List Int)} {k : Nat} (h : k < l.length) : l.getD k [] ∈ l := by
  rw [List.getD_eq_getElem?_getD, List.getElem?_eq_getElem h]; exact List.getElem_mem _
theorem StrV.formR {w : World} {v : Value} {t : List Int} (h : StrV w v (zR t)) : ∃ ad cap, v = .slice ad t.length cap := by
  obtain ⟨ad, cap, e⟩ := h.form; exact ⟨ad, cap, by rw [e, zR_len]⟩
theorem StrV.formP {w : World} {v : Value} {s : List Int} (h : StrV w v (zI (pcs s))) : ∃ ad cap, v = .slice ad s.length cap := by
  obtain ⟨ad, cap, e⟩ := h.form; exact ⟨ad, cap, by rw [e, zI_len, pcs_len]⟩
theorem snoc_of {l : List (List Int)} (h : l ≠ []) : ∃ m x, l = m ++ [x] := ⟨l.dropLast, l.getLast h, (List.dropLast_concat_getLast h).symm⟩
theorem below_drewN' (w : World) (n : Nat) : Below w.heap.size w (w.drewN n) := below_drewN (Below.refl _ _) n

def vlenS : Value → Nat
  | .slice _ n _ => n
  | _ => 0
theorem cutR (t : List Int) (a b : Nat) : ((zR t).drop a).take b = zR ((t.drop a).take b) := by simp [zR]
theorem drop_atL (l : List (List Int)) (i : Nat) (h : i < l.length) : l.drop i = l.getD i [] :: l.drop (i + 1) := by
  rw [List.drop_eq_getElem_cons h]; simp [h]
theorem splitS_len : ∀ p : List Int, (splitS p).length ≤ p.length + 1 ∧ ∀ s ∈ splitS p, s.length ≤ p.length
  | [] => by simp [splitS]
  | x :: p => by
    have ih := splitS_len p
    by_cases h : x = -2
    · rw [splitS, if_pos h]
      refine ⟨by simp only [List.length_cons]; omega, fun s hs => ?_⟩
      rcases List.mem_cons.1 hs with rfl | hs
      · simp
      · have := ih.2 s hs; simp only [List.length_cons]; omega
    · rw [splitS, if_neg h]
      have hf := splitS_form p
      have h1 := congrArg List.length hf
      simp only [List.length_cons] at h1
      refine ⟨by simp only [List.length_cons]; omega, fun s hs => ?_⟩
      rcases List.mem_cons.1 hs with rfl | hs
      · have := ih.2 ((splitS p).headD []) (by rw [hf]; simp)
        simp only [List.length_cons]; omega
      · have := ih.2 s (by rw [hf]; simp [hs]); simp only [List.length_cons]; omega

set_option maxHeartbeats 16000000 in
set_option maxRecDepth 100000 in
theorem fits_any (vp vt : Value) (p t : List Int) (w : World) (hp : ∀ x ∈ p, okP x) (hpl : p.length ≤ 65537) (htl : t.length ≤ 65536) (htc : chars t) (hvp : StrV w vp (zI (pcs p))) (hvt : StrV w vt (zR t)) :
    Calls Tryd.prog 50 #[vp, vt] w fun e w' => e = .returned (.bool (fit p t)) ∧ Below w.heap.size w w' := by
  have HTc := hidd htc
  have HVt := hidd hvt
  have HPo := hidd (partsOf_any vp p w hp hpl hvp)
  have HNo := hidd (splitS_noStar p)
  have HLe := hidd (splitS_len p)
  have Hf1 := hidd (fun h (hq : splitS p = [h]) => fits_one hq t)
  have Hf2 := hidd (fun h mid tl (hq : splitS p = h :: (mid ++ [tl])) => fits_many hq t)
  obtain ⟨at', ct, het⟩ := hvt.formR
  subst het
  clear htc hvt hp hvp
  go_enter Tryd.func50, Tryd.ntmps50
  go_wp2_with fail
  refine HPo.out.mono ?_
  rintro e w1 ⟨vq, vs, rfl, hown, hsegs, hb1⟩
  have hne := splitS_ne p
  generalize splitS p = l at *
  have hlen := hsegs.1
  have hl1 : 1 ≤ l.length := by
    rcases Nat.eq_zero_or_pos l.length with h | h
    · exact absurd (List.length_eq_zero_iff.1 h) hne
    · exact h
  rcases own_cases hown with ⟨rfl, h0⟩ | ⟨gv, cv, rfl, hg1, hg2⟩
  · omega
  have HB1 := hidd hb1
  have HVt1 := hidd (HVt.out.below hb1)
  have HSg : Hid (∀ j, j < l.length → StrV w1 (vs.getD j nilS) (zI (pcs (l.getD j [])))) := fun j hj => (hsegs.2 j hj).below hb1
  have HO := hidd hown
  obtain ⟨L, hL⟩ : ∃ L, l.length = L + 1 := ⟨l.length - 1, by omega⟩
  obtain ⟨ah, ch, hvh⟩ := (HSg.out 0 (by omega)).formP
  obtain ⟨al, cl, hvl⟩ := (HSg.out L (by omega)).formP
  have c0 : w1.cell? ⟨gv, 0, none⟩ = some (.slice ah (l.getD 0 []).length ch) := by
    rw [HO.out.cellAt 0 (by omega), ← hvh, List.getD_eq_getElem?_getD, List.getElem?_eq_getElem (by omega)]; rfl
  have cL : w1.cell? ⟨gv, L, none⟩ = some (.slice al (l.getD L []).length cl) := by
    rw [HO.out.cellAt L (by omega), ← hvl, List.getD_eq_getElem?_getD, List.getElem?_eq_getElem (by omega)]; rfl
  have HvH := hidd (HSg.out 0 (by omega))
  rw [hvh] at HvH
  have HvL := hidd (HSg.out L (by omega))
  rw [hvl] at HvL
  rw [hlen, hL] at HO ⊢
  have HL := hidd hL
  have Hlen := hidd (hlen.trans hL)
  have hLz : ((L : Int) + 1) - 1 = (L : Int) := by omega
  clear hown hsegs hb1 HPo HVt hvh hvl hlen hL hg1
  obtain ⟨h, hh⟩ : ∃ h, l.getD 0 [] = h := ⟨_, rfl⟩
  obtain ⟨tl, htl'⟩ : ∃ tl, l.getD L [] = tl := ⟨_, rfl⟩
  have Hh := hidd hh
  have Htl := hidd htl'
  rw [hh] at c0 HvH
  rw [htl'] at cL HvL
  clear hh htl'
  have HNh : Hid (noStar h) := by have := HNo.out _ (getD_mem0 (k := 0) (l := l) (by omega)); rw [Hh.out] at this; exact this
  have HNt : Hid (noStar tl) := by have := HNo.out _ (getD_mem0 (k := L) (l := l) (by have := HL.out; omega)); rw [Htl.out] at this; exact this
  have hLb : L ≤ 65537 := by have h1 := HL.out; have h2 := HLe.out.1; omega
  have hhb : h.length ≤ 65537 := by have h2 := HLe.out.2 _ (getD_mem0 (k := 0) (l := l) (by omega)); rw [Hh.out] at h2; omega
  have htb : tl.length ≤ 65537 := by have h2 := HLe.out.2 _ (getD_mem0 (k := L) (l := l) (by have := HL.out; omega)); rw [Htl.out] at h2; omega
  have hwL : IntKind.i64.wrap (L : Int) = (L : Int) := IntWalk.i64_in _ ⟨by omega, by omega⟩
  have hL0 : (0 : Int) < (L : Int) + 1 := by omega
  have hL1 : (L : Int) < (L : Int) + 1 := by omega
  go_wp2
  go_quiet (fail)
  have HOq := hidd (own_drewN HO.out nq)
  have HBq := hidd (below_drewN HB1.out nq)
  have HVq := hidd (HVt1.out.below (below_drewN' w1 nq))
  have HvHq := hidd (HvH.out.below (below_drewN' w1 nq))
  have HvLq := hidd (HvL.out.below (below_drewN' w1 nq))
  have HSq : Hid (∀ j, j < l.length → StrV (w1.drewN nq) (vs.getD j nilS) (zI (pcs (l.getD j [])))) := fun j hj => (HSg.out j hj).below (below_drewN' w1 nq)
  clear HO HB1 HVt1 HvH HvL HSg c0 cL hg2
  generalize w1.drewN nq = wz at *
  by_cases hL1' : L = 0
  · subst hL1'
    clear hLz hwL hL0 hL1
    simp only [Nat.zero_add]
    have hle : l = [h] := by
      have h1 := HL.out
      have h2 := Hh.out
      match l, h1, h2 with
      | [x], _, h2 => simp at h2; rw [h2]
    have HF := hidd (Hf1.out h hle)
    by_cases hth : t.length = h.length
    · have hbt : ((t.length : Int) == (h.length : Int)) = true := by simp [hth]
      have Hth := hidd hth
      clear hth
      go_wp2_with fail
      refine (startsWith_any _ _ t h wz HNh.out HVq.out HvHq.out (by omega) HTc.out).mono ?_
      rintro e w' ⟨rfl, hw'⟩
      obtain rfl := hw'.symm
      clear hw'
      go_wp2
      go_ret
      rw [HF.out]
      exact ⟨by simp [Hth.out], HBq.out⟩
    · have hbt : ((t.length : Int) == (h.length : Int)) = false := beq_false_of_ne (by omega)
      go_wp2
      go_ret
      rw [HF.out]
      exact ⟨by simp [hth], HBq.out⟩
  have hb1 : ((L : Int) + 1 == 1) = false := beq_false_of_ne (by omega)
  obtain ⟨mid, hmid⟩ : ∃ mid, l = h :: (mid ++ [tl]) := by
    have h1 := HL.out
    have h2 := Hh.out
    have h3 := Htl.out
    match l, h1, h2, h3 with
    | x :: r, h1, h2, h3 =>
      have hr : r ≠ [] := by rintro rfl; simp at h1; omega
      obtain ⟨m, y, rfl⟩ := snoc_of hr
      simp at h1
      have e1 : x = h := by simpa using h2
      have e2 : y = tl := by
        obtain rfl : L = m.length + 1 := by omega
        simpa using h3
      exact ⟨m, by rw [e1, e2]⟩
  have Hmid := hidd hmid
  have HF := hidd (Hf2.out h mid tl hmid)
  have HmL : Hid (mid.length + 1 = L) := by have := HL.out; rw [hmid] at this; simp at this; show _ = _; omega
  clear hmid Hf1 Hf2
  by_cases hend : t.length < h.length + tl.length
  · have hez : (t.length : Int) - (tl.length : Int) < (h.length : Int) := by omega
    go_wp2
    go_ret
    rw [HF.out, decide_eq_false (by omega)]
    exact ⟨by simp, HBq.out⟩
  have hez : ¬ (t.length : Int) - (tl.length : Int) < (h.length : Int) := by omega
  obtain ⟨E, hE⟩ : ∃ E : Nat, t.length - tl.length = E := ⟨_, rfl⟩
  have hEz : (t.length : Int) - (tl.length : Int) = (E : Int) := by omega
  rw [hE, decide_eq_true (by omega)] at HF
  have hEt : E ≤ t.length := by omega
  have hEh : h.length ≤ E := by omega
  have HE := hidd hE
  rw [hEz] at hez
  clear hE hend
  cases hsh : seg h t with
  | false =>
    have Hsh := hidd hsh
    clear hsh
    go_wp2_with fail
    refine (startsWith_any _ _ t h wz HNh.out HVq.out HvHq.out (by omega) HTc.out).mono ?_
    rintro e w' ⟨rfl, hw'⟩
    obtain rfl := hw'.symm
    clear hw'
    rw [Hsh.out]
    go_wp2
    go_ret
    rw [HF.out, Hsh.out]
    exact ⟨by simp, HBq.out⟩
  | true =>
    have Hsh := hidd hsh
    clear hsh
    have Hrl := hidd (run_l (w0 := wz) 83 tyU83 tyZ83 (ad := at') (cap := ct) (xs := zR t) (by rw [zR_len]; exact HVq.out) E (by rw [zR_len]; exact hEt))
    obtain ⟨ae, ce, hrun, hve⟩ := Hrl.out
    rw [zR_len] at hrun hve
    rw [zR_drop] at hve
    have HVe := hidd hve
    clear Hrl hve
    go_wp2_with fail
    refine (startsWith_any _ _ t h wz HNh.out HVq.out HvHq.out (by omega) HTc.out).mono ?_
    rintro e w' ⟨rfl, hw'⟩
    obtain rfl := hw'.symm
    clear hw'
    rw [Hsh.out]
    go_wp2_with fail
    refine (startsWith_any _ _ (t.drop E) tl wz HNt.out HVe.out HvLq.out (by rw [List.length_drop]; omega) (HTc.out.drop E)).mono ?_
    rintro e w' ⟨rfl, hw'⟩
    obtain rfl := hw'.symm
    clear hw' hrun HVe
    cases hst : seg tl (t.drop E) with
    | false =>
      have Hst := hidd hst
      clear hst
      go_wp2
      go_ret
      rw [HF.out, Hst.out]
      exact ⟨by simp, HBq.out⟩
    | true =>
    have Hst := hidd hst
    clear hst
    rw [Hsh.out, Hst.out, Bool.true_and, Bool.true_and, Bool.true_and] at HF
    clear Hsh Hst
    have HMs : Hid (∀ j, j < mid.length → ∃ ad cap, ((vs.drop 1).take (L - 1))[j]? = some (.slice ad (mid.getD j []).length cap) ∧ StrV wz (.slice ad (mid.getD j []).length cap) (zI (pcs (mid.getD j [])))) := by
      intro j hj
      have h1 := HL.out
      have h2 := HmL.out
      have h3 := Hlen.out
      have h4 := HSq.out (j + 1) (by omega)
      have h5 : l.getD (j + 1) [] = mid.getD j [] := by
        rw [Hmid.out, List.getD_cons_succ, List.getD_eq_getElem?_getD, List.getElem?_append_left hj, ← List.getD_eq_getElem?_getD]
      rw [h5] at h4
      obtain ⟨ad, cap, he⟩ := h4.formP
      rw [he] at h4
      refine ⟨ad, cap, ?_, h4⟩
      rw [List.getElem?_take, if_pos (by omega), List.getElem?_drop, show 1 + j = j + 1 from by omega, List.getElem?_eq_getElem (by omega), ← he, List.getD_eq_getElem?_getD, List.getElem?_eq_getElem (by omega)]
      rfl
    have HmN : Hid (∀ j, j < mid.length → noStar (mid.getD j [])) := fun j hj => HNo.out _ (by rw [Hmid.out]; exact List.mem_cons_of_mem _ (List.mem_append_left _ (getD_mem0 hj)))
    have HmB : Hid (∀ j, j < mid.length → (mid.getD j []).length ≤ 65537) := fun j hj => by
      have h2 := HLe.out.2 (mid.getD j []) (by rw [Hmid.out]; exact List.mem_cons_of_mem _ (List.mem_append_left _ (getD_mem0 hj)))
      omega
    have Hvs := hidd (StrV.own HOq.out Hlen.out)
    have Hml : Hid (((vs.drop 1).take (L - 1)).length = mid.length) := by
      have h2 := HmL.out
      have h3 := Hlen.out
      show _ = _
      rw [List.length_take, List.length_drop]
      omega
    have hL1z : (1 : Int) ≤ (L : Int) := by omega
    have Hle0 : Hid (1 ≤ L ∧ L ≤ vs.length) := by have := Hlen.out; exact ⟨by omega, by omega⟩
    obtain ⟨u0, hu0⟩ : ∃ u0, (t.drop h.length).take (E - h.length) = u0 := ⟨_, rfl⟩
    have Hu0 := hidd hu0
    have hu0l : u0.length ≤ 65536 := by rw [← hu0, List.length_take, List.length_drop]; omega
    have HU0c : Hid (chars u0) := by show chars u0; rw [← hu0]; exact (HTc.out.drop _).take _
    rw [hu0] at HF
    clear hu0
    clear HSq HNo HL Hh Htl Hmid hne hl1
    go_wp2_with (first
      | (refine wpV_lh (w0 := wz) 83 tyU83 tyZ83 rfl _ _ _ rfl _ (zR t) h.length E rfl rfl rfl HVq.out hEh (by rw [zR_len]; exact hEt) ?_; intro v5 hv5; rw [cutR, Hu0.out] at hv5; obtain ⟨ad5, cp5, he5⟩ := hv5.formR; have HV5 := hidd hv5; clear hv5; subst he5)
      | (refine wpV_lh (w0 := wz) 55 tyU55 tyZ55 rfl _ _ _ rfl _ vs 1 L rfl rfl rfl Hvs.out Hle0.out.1 Hle0.out.2 ?_; intro v6 hv6; obtain ⟨ad6, cp6, he6, -, hc6⟩ := hv6; rw [Hml.out] at he6 hc6; have HC6 := hidd hc6; clear hc6; subst he6))
    generalize (vs.drop 1).take (L - 1) = ms at *
    clear Hu0 Hle0 hL1z Hvs
    have hmb : mid.length ≤ 65537 := by have := HmL.out; omega
    go_loopw [1, 69] (fun xv kv wr => ∃ (k : Nat) (u : List Int), k ≤ mid.length ∧ kv = .int .i64 (k : Int) ∧ StrV wz xv (zR u) ∧ chars u ∧ u.length ≤ 65536 ∧ gr mid u0 = gr (mid.drop k) u ∧ wr = wz) (fun _ kv _ => mid.length - (intOf kv).toNat)
    case atStart => exact ⟨0, u0, Nat.zero_le _, rfl, HV5.out, HU0c.out, hu0l, by rw [List.drop_zero], rfl⟩
    case round =>
      obtain ⟨k, u, hk, rfl, hvu, huc, hul, hgr, hw'⟩ := hrel
      obtain rfl := hw'.symm
      clear hw' HV5 HU0c hu0l
      have HVu := hidd hvu
      have HUc := hidd huc
      have HGr := hidd hgr
      clear hvu huc hgr
      by_cases hlt : k < mid.length
      · have hltz : (k : Int) < (mid.length : Int) := by omega
        obtain ⟨adk, cpk, hmk, hsk⟩ := HMs.out k hlt
        obtain ⟨g6, o6, rfl, hg6, hc6⟩ := HC6.out.resolve_left (fun h => by have h2 := Hml.out; rw [h, List.length_nil] at h2; omega)
        have c6 := (hc6 k (by first | exact hlt | (rw [Hml.out]; exact hlt))).trans hmk
        have HSk := hidd hsk
        have HNk := hidd (HmN.out k hlt)
        have Hdk := hidd (drop_atL mid k hlt)
        clear hc6 hmk hsk
        have hsl : (mid.getD k []).length ≤ 65537 := HmB.out k hlt
        generalize mid.getD k [] = s at *
        obtain ⟨adu, cpu, heu⟩ := HVu.out.formR
        subst heu
        go_wp2
        go_loopw [1] (fun xv wr => ∃ (u : List Int), StrV wz xv (zR u) ∧ chars u ∧ u.length ≤ 65536 ∧ gr mid u0 = gr (mid.drop k) u ∧ wr = wz) (fun xv _ => vlenS xv)
        case atStart => exact ⟨u, HVu.out, HUc.out, hul, HGr.out, rfl⟩
        case round =>
          obtain ⟨u', hvu, huc, hul', hgr, hw'⟩ := hrel
          obtain rfl := hw'.symm
          clear hw' HVu HUc HGr hul
          have HVu := hidd hvu
          have HUc := hidd huc
          have HGr := hidd hgr
          clear hvu huc hgr
          obtain ⟨adu, cpu, heu⟩ := HVu.out.formR
          subst heu
          cases hsg : seg s u' with
          | true =>
            have Hsg := hidd hsg
            have hsu := seg_len hsg
            clear hsg
            have HG2 : Hid (gr mid u0 = gr (mid.drop (k + 1)) (u'.drop s.length)) := by show _ = _; rw [HGr.out, Hdk.out, gr_yes _ Hsg.out]
            go_wp2_with (first
              | (go_at_call 86; refine (startsWith_any _ _ u' s wz HNk.out HVu.out HSk.out (by omega) HUc.out).mono ?_; rintro e w' ⟨rfl, hw'⟩; obtain rfl := hw'.symm; clear hw'; rw [Hsg.out])
              | (refine wpV_l (w0 := wz) 83 tyU83 tyZ83 rfl _ _ rfl _ (zR u') s.length rfl rfl HVu.out (by rw [zR_len]; exact hsu) ?_; intro v7 hv7; rw [zR_drop] at hv7; have HV7 := hidd hv7; clear hv7))
            go_roundw
            case rel => exact ⟨k + 1, u'.drop s.length, by omega, by go_num, HV7.out, HUc.out.drop _, by rw [List.length_drop]; omega, HG2.out, by first | rfl | trivial⟩
            case measure => simp [intOf]; omega
          | false =>
            have Hsg := hidd hsg
            clear hsg
            by_cases hsh : u'.length < s.length
            · have hshz : (u'.length : Int) < (s.length : Int) := by omega
              have HG2 : Hid (gr mid u0 = false) := by show _ = _; rw [HGr.out, Hdk.out, gr_short _ hsh]
              go_wp2_with fail
              refine (startsWith_any _ _ u' s wz HNk.out HVu.out HSk.out (by omega) HUc.out).mono ?_
              rintro e w' ⟨rfl, hw'⟩
              obtain rfl := hw'.symm
              clear hw'
              rw [Hsg.out]
              go_wp2
              go_ret
              rw [HF.out, HG2.out]
              exact ⟨rfl, HBq.out⟩
            · have hshz : ¬ (u'.length : Int) < (s.length : Int) := by omega
              have hs1 : 1 ≤ u'.length := by
                rcases Nat.eq_zero_or_pos u'.length with h0 | h0
                · exfalso
                  have h3 : s = [] := List.length_eq_zero_iff.1 (by omega)
                  have h4 := Hsg.out
                  rw [h3] at h4
                  simp [seg] at h4
                · exact h0
              have HG2 : Hid (gr mid u0 = gr (mid.drop k) (u'.drop 1)) := by
                show _ = _
                rw [HGr.out, Hdk.out]
                match u', hs1, Hsg.out with
                | c :: u1, _, h4 => rw [gr_no _ h4]; rfl
              go_wp2_with (first
                | (go_at_call 86; refine (startsWith_any _ _ u' s wz HNk.out HVu.out HSk.out (by omega) HUc.out).mono ?_; rintro e w' ⟨rfl, hw'⟩; obtain rfl := hw'.symm; clear hw'; rw [Hsg.out])
                | (refine wpV_l (w0 := wz) 83 tyU83 tyZ83 rfl _ _ rfl _ (zR u') 1 rfl rfl HVu.out (by rw [zR_len]; exact hs1) ?_; intro v7 hv7; rw [zR_drop] at hv7; obtain ⟨ad7, cp7, he7⟩ := hv7.formR; subst he7; rw [List.length_drop] at hv7; have HV7 := hidd hv7; clear hv7))
              go_roundw
              case rel => exact ⟨u'.drop 1, HV7.out, HUc.out.drop _, by rw [List.length_drop]; omega, HG2.out, by first | rfl | trivial⟩
              case measure => simp only [vlenS]; omega
      · have hltz : ¬ (k : Int) < (mid.length : Int) := by omega
        have HG2 : Hid (gr mid u0 = true) := by show _ = _; rw [HGr.out, List.drop_eq_nil_iff.2 (by omega), gr]
        go_wp2
        go_ret
        rw [HF.out, HG2.out]
        exact ⟨rfl, HBq.out⟩
end Go.Proofs.YtfdmahbjofolhamDoor
