import Derived.Test.YtfdmahbjofolhamDoorLkD
namespace Go.Proofs.YtfdmahbjofolhamDoor
open Go Go.RowKit
set_option linter.unusedVariables false
set_option maxRecDepth 100000

/-! impl.partsOf. -/
theorem drop_at' (zs : List Int) (i : Nat) (h : i < zs.length) : zs.drop i = zs.getD i 0 :: zs.drop (i + 1) := by
  rw [List.drop_eq_getElem_cons h]; simp [h]
def nilS : Value := .slice none 0 0
def Segs (w : World) (vs : List Value) (l : List (List Int)) : Prop := vs.length = l.length ∧ ∀ j, j < l.length → StrV w (vs.getD j nilS) (zI (pcs (l.getD j [])))
theorem Segs.snoc {w : World} {vs : List Value} {l : List (List Int)} {v : Value} {s : List Int} (h : Segs w vs l) (hv : StrV w v (zI (pcs s))) : Segs w (vs ++ [v]) (l ++ [s]) := by
  refine ⟨by simp [h.1], fun j hj => ?_⟩
  rw [List.length_append, List.length_singleton] at hj
  by_cases e : j < l.length
  · have := h.2 j e
    rw [List.getD_eq_getElem?_getD, List.getD_eq_getElem?_getD, List.getElem?_append_left (by rw [h.1]; exact e), List.getElem?_append_left e, ← List.getD_eq_getElem?_getD, ← List.getD_eq_getElem?_getD]
    exact this
  · obtain rfl : j = l.length := by omega
    rw [List.getD_eq_getElem?_getD, List.getD_eq_getElem?_getD, List.getElem?_append_right (by rw [h.1]; exact Nat.le_refl _), List.getElem?_append_right (Nat.le_refl _), h.1, Nat.sub_self]
    exact hv
theorem StrV.form {w : World} {v : Value} {xs : List Value} (h : StrV w v xs) : ∃ ad cap, v = .slice ad xs.length cap := by
  obtain ⟨ad, cap, e, _⟩ := h; exact ⟨ad, cap, e⟩
theorem pcs_cut (p : List Int) (a b : Nat) : ((zI (pcs p)).drop a).take b = zI (pcs ((p.drop a).take b)) := by simp [zI, pcs]
theorem pcs_drop (p : List Int) (a : Nat) : (zI (pcs p)).drop a = zI (pcs (p.drop a)) := by simp [zI, pcs]
theorem cut_snoc (p : List Int) (a k : Nat) (h1 : a ≤ k) (h2 : k < p.length) : (p.drop a).take (k + 1 - a) = (p.drop a).take (k - a) ++ [p.getD k 0] := by
  rw [show k + 1 - a = k - a + 1 from by omega, take_snoc _ _ (by rw [List.length_drop]; omega)]
  congr 2
  rw [List.getD_eq_getElem?_getD, List.getElem?_drop, show a + (k - a) = k from by omega, ← List.getD_eq_getElem?_getD]
theorem Tryd.infoSl : (Tryd.prog.info? 46).map (fun i => (i.zero, i.size, i.bytes)) = some (some (.slice none 0 0), 1, 24) := by kernel_rfl

set_option maxHeartbeats 8000000 in
set_option maxRecDepth 100000 in
theorem partsOf_any (v : Value) (p : List Int) (w : World) (hp : ∀ x ∈ p, okP x) (hl : p.length ≤ 65537) (hv : StrV w v (zI (pcs p))) :
    Calls Tryd.prog 85 #[v] w fun e w' => ∃ v' vs, e = .returned v' ∧ w'.ownsRow w.heap.size 46 1 v' vs.length vs ∧ Segs w vs (splitS p) ∧ Below w.heap.size w w' := by
  obtain ⟨i0, hi, hz0, hz1, hz2⟩ := info_parts Tryd.infoSl
  obtain ⟨ad, cv, rfl, hcv, hst⟩ := id hv
  have HV := hidd hv
  have HS := hidd hst
  have HP := hidd hp
  have Hln : Hid ((zI (pcs p)).length = p.length) := by show _ = _; rw [zI_len, pcs_len]
  rw [Hln.out] at HV HS ⊢
  clear hv hst hp hcv
  go_enter Tryd.func85, Tryd.ntmps85
  go_wp2
  go_loopw [3, 4, 9] (fun ov fv kv wr => ∃ (k fr : Nat) (vs : List Value) (D : List (List Int)), k ≤ p.length ∧ fr ≤ k ∧ kv = .int .i64 (k : Int) ∧ fv = .int .i64 (fr : Int) ∧ wr.ownsRow w.heap.size 46 1 ov vs.length vs ∧ Segs w vs D ∧ vs.length ≤ k ∧ D ++ ahead ((p.drop fr).take (k - fr)) (splitS (p.drop k)) = splitS p ∧ Below w.heap.size w wr) (fun _ _ kv _ => p.length - (intOf kv).toNat)
  case atStart => exact ⟨0, 0, [], [], Nat.zero_le _, Nat.le_refl _, rfl, rfl, World.ownsRow_nil _ _ _ _, ⟨rfl, fun j hj => by simp at hj⟩, by simp, by simp [ahead_nil], Below.refl _ _⟩
  case round =>
    obtain ⟨k, fr, vs, D, hk, hfr, rfl, rfl, hown, hsegs, hvl, hD, hbel⟩ := hrel
    have HO := hidd hown
    have HSg := hidd hsegs
    have HD := hidd hD
    have HB := hidd hbel
    have hzw := hbel.size
    clear hown hsegs hD hbel
    by_cases hlt : k < p.length
    · have hltz : (k : Int) < (p.length : Int) := by omega
      obtain ⟨g, off, rfl, hg, hc⟩ := HS.out.resolve_left (fun h => by have := congrArg List.length h; rw [Hln.out, List.length_nil] at this; omega)
      have c1 := ((HB.out.cell (p := ⟨g, off + k, none⟩) hg).trans (hc k (by first | exact hlt | (rw [Hln.out]; exact hlt)))).trans (zI_at (pcs p) (by rw [pcs_len]; exact hlt))
      rw [pcs_at p hlt] at c1
      have hok := HP.out (p.getD k 0) (by rw [List.getD_eq_getElem?_getD, List.getElem?_eq_getElem hlt]; exact List.getElem_mem _)
      have Hdr := hidd (drop_at' p k hlt)
      have Hcs := hidd (cut_snoc p fr k hfr hlt)
      have Hps := hidd (pieceI_star hok)
      clear hc hok
      by_cases hx : p.getD k 0 = -2
      · have HN : Hid (D ++ [(p.drop fr).take (k - fr)] ++ ahead ((p.drop (k + 1)).take (k + 1 - (k + 1))) (splitS (p.drop (k + 1))) = splitS p) := by
          show _ = _
          rw [← HD.out, Hdr.out, hx, ahead_star]; simp
        rw [hx, show pieceI (-2) = -3 from by decide] at c1
        clear HD Hdr Hcs Hps hx
        go_wp2_with (first
          | (refine wpV_lh (w0 := w) 46 tyU46 tyZ46 rfl _ _ _ rfl _ (zI (pcs p)) fr k rfl rfl rfl HV.out hfr (by rw [Hln.out]; omega) ?_; intro v2 hv2; rw [pcs_cut] at hv2; obtain ⟨ad2, cp2, he2⟩ := hv2.form; have HV2 := hidd hv2; clear hv2; subst he2)
          | (at_builtin; refine wpList_append_own _ rfl _ _ 55 rfl w.heap.size 46 i0 (.slice none 0 0) 1 24 Tryd.underlying55 hi hz0 hz1 hz2 rfl (by decide) _ _ _ rfl (HO.out.alloc _) ⟨wr.heap.size, 0, none⟩ 1 1 [.slice ad2 (zI (pcs ((p.drop fr).take (k - fr)))).length cp2] rfl rfl ?c1a ?c2a ?c3a ?c4a ?c5a ?_))
        try case c1a =>
          intro j u hj
          match j, hj with
          | 0, hj => simp at hj; subst hj; simp [Addr.add]
        case c2a => first | rfl | (intro u hu; simp at hu; subst hu; rfl)
        case c3a => unfold maxLen; omega
        case c4a => omega
        case c5a => first | omega | (simp; omega)
        intro v' w2 hown' hgrow hne
        have R : Hid (w2.ownsRow w.heap.size 46 1 v' (vs ++ [Value.slice ad2 (zI (pcs ((p.drop fr).take (k - fr)))).length cp2]).length (vs ++ [Value.slice ad2 (zI (pcs ((p.drop fr).take (k - fr)))).length cp2]) ∧ Below w.heap.size w w2) := by
          refine ⟨?_, (HB.out.alloc hzw _).grown hgrow (by simp; omega) (own_block HO.out)⟩
          rw [List.length_append]
          exact hown'
        clear hown' hgrow HO HB
        go_wp2
        go_roundw
        case rel => exact ⟨k + 1, k + 1, _, _, by omega, Nat.le_refl _, by go_num, by go_num, R.out.1, HSg.out.snoc HV2.out, by simp; omega, HN.out, R.out.2⟩
        case measure => simp [intOf]; omega
      · have HN : Hid (D ++ ahead ((p.drop fr).take (k + 1 - fr)) (splitS (p.drop (k + 1))) = splitS p) := by
          show _ = _
          rw [← HD.out, Hdr.out, ahead_other _ _ hx, Hcs.out]
        have hy : ¬ pieceI (p.getD k 0) = -3 := fun e => hx (Hps.out.1 e)
        generalize pieceI (p.getD k 0) = y at *
        have hyb : (y == -3) = false := beq_false_of_ne hy
        clear HD Hdr Hcs Hps hx hy
        go_wp2
        go_roundw
        case rel => exact ⟨k + 1, fr, vs, D, by omega, by omega, by go_num, rfl, HO.out, HSg.out, by omega, HN.out, HB.out⟩
        case measure => simp [intOf]; omega
    · have hltz : ¬ (k : Int) < (p.length : Int) := by omega
      obtain rfl : k = p.length := by omega
      have HN : Hid (splitS p = D ++ [p.drop fr]) := by
        show _ = _
        rw [← HD.out, List.drop_length, ahead_end, List.take_of_length_le (by rw [List.length_drop]; exact Nat.le_refl _)]
      clear HD
      go_wp2_with (first
        | (refine wpV_l (w0 := w) 46 tyU46 tyZ46 rfl _ _ rfl _ (zI (pcs p)) fr rfl rfl HV.out (by rw [Hln.out]; omega) ?_; intro v2 hv2; rw [pcs_drop] at hv2; obtain ⟨ad2, cp2, he2⟩ := hv2.form; have HV2 := hidd hv2; clear hv2; subst he2)
        | (at_builtin; refine wpList_append_own _ rfl _ _ 55 rfl w.heap.size 46 i0 (.slice none 0 0) 1 24 Tryd.underlying55 hi hz0 hz1 hz2 rfl (by decide) _ _ _ rfl (HO.out.alloc _) ⟨wr.heap.size, 0, none⟩ 1 1 [.slice ad2 (zI (pcs (p.drop fr))).length cp2] rfl rfl ?c1b ?c2b ?c3b ?c4b ?c5b ?_))
      try case c1b =>
        intro j u hj
        match j, hj with
        | 0, hj => simp at hj; subst hj; simp [Addr.add]
      case c2b => first | rfl | (intro u hu; simp at hu; subst hu; rfl)
      case c3b => unfold maxLen; omega
      case c4b => omega
      case c5b => first | omega | (simp; omega)
      intro v' w2 hown' hgrow hne
      have R : Hid (w2.ownsRow w.heap.size 46 1 v' (vs ++ [Value.slice ad2 (zI (pcs (p.drop fr))).length cp2]).length (vs ++ [Value.slice ad2 (zI (pcs (p.drop fr))).length cp2]) ∧ Below w.heap.size w w2) := by
        refine ⟨?_, (HB.out.alloc hzw _).grown hgrow (by simp; omega) (own_block HO.out)⟩
        rw [List.length_append]
        exact hown'
      clear hown' hgrow HO HB
      go_wp2
      go_ret
      rw [HN.out]
      exact ⟨_, _, rfl, R.out.1, HSg.out.snoc HV2.out, R.out.2⟩
end Go.Proofs.YtfdmahbjofolhamDoor
