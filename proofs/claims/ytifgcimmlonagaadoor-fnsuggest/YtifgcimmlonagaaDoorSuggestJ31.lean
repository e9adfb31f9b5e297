import Derived.Test.YtifgcimmlonagaaDoorSuggestJ30
namespace Go.Proofs.YtifgcimmlonagaaDoor
open Go Go.RowKit
set_option linter.unusedVariables false
set_option linter.unusedSimpArgs false
set_option maxRecDepth 100000

/-! FnSuggest. -/
theorem exec_idxN (W : World) (ρ : Operand → Value) (o : Oper) (x y : Operand) (ho : o.op = .indexAddr 23 x y) (g off la c i : Nat) (hx : ρ x = .slice (some ⟨g, off, none⟩) la c) (hy : ρ y = .int .i64 (i : Int)) (h : i < la) : (execOp ρ o).run Tryd.prog W = .ok (.value (.pointer (some ⟨g, off + i, none⟩))) W := by
  unfold execOp
  have hz : (i : Int) < (la : Int) := by omega
  simp only [ho, hx, hy, Sem.run_bind, Sem.run_pure, Result.andThen_ok]
  go_simp
set_option maxHeartbeats 16000000 in
theorem sgFn_any (ao : Option Addr) (n cap : Nat) (w : World) (hc : CodeIn w ao n) (hT : Tabs w) :
    Calls Tryd.prog 3 #[.slice ao n cap] w fun e w' => e = .returned (.bool true) ∧ Below w.heap.size w w' := by
  have HC := hidd hc
  have HT := hidd hT
  clear hc hT
  by_cases hn : 1048576 < n
  · have hnz : (n : Int) > 1048576 := by omega
    go_enter Tryd.func3, Tryd.ntmps3
    go_wp2_with fail
    go_ret
    exact ⟨rfl, Below.refl _ _⟩
  have hnz : ¬ (n : Int) > 1048576 := by omega
  have HDr := hidd (drawSg_any ao n cap w (by omega) HC.out)
  go_enter Tryd.func3, Tryd.ntmps3
  go_wp2_with fail
  refine HDr.out.mono ?_
  rintro e w1 ⟨v, L, t, most, rfl, hown, hL, hsm, ht, hm0, hm1, hb1⟩
  obtain ⟨sL, cL, rfl, hcL, hsL⟩ := own_slice hown
  have HTm : Hid (TmA w1 sL L) := by
    obtain ⟨s', c', e1, e2, e3, e4⟩ := Sl.own hown
    simp only [Value.slice.injEq] at e1
    obtain ⟨rfl, _, rfl⟩ := e1
    exact e3
  have HB1 := hidd hb1
  have HSp := hidd (specSuggest_any L sL cL t most w1 (by omega) hcL (fun x hx => by have := hsm x hx; omega) (by omega) HTm.out)
  have HIm : Hid (∀ W, Below w1.heap.size w1 W → Calls Tryd.prog 7 #[.slice sL L.length cL, .string t, .int .i64 most] W fun e w' => ∃ v, e = .returned (.tuple #[v, .int .i64 (sgCode L t most)]) ∧ w'.ownsRow W.heap.size 9 1 v (sgList L t most).length (tmCells (sgList L t most)) ∧ Below W.heap.size W w') := fun W hW => implSuggest_any L sL cL t most W (by omega) (fun x hx => by have := hsm x hx; omega) (by omega) (HTm.out.below hW) ((HT.out.below HB1.out).below hW)
  have HSm := hidd hsm
  have HLs : Hid (sgCode L t most = 0 → sgList L t most = toldW (eX (runes t)) (names L) most.toNat ∧ validB t = true ∧ (L.all fun x => validB (bs x)) = true ∧ ¬ 200 < (runes t).length ∧ 0 ≤ most) := by
    intro h
    refine ⟨by rw [sgList, if_pos h], ?_⟩
    unfold sgCode at h
    split at h
    · omega
    · split at h
      · contradiction
      · rename_i h5 h6
        split at h
        · omega
        · rename_i h7
          split at h
          · omega
          · rename_i h8
            refine ⟨(dec_zero (Classical.not_not.1 h6)).2, by simpa using h7, fun h9 => h8 (.inl h9), ?_⟩
            exact Int.not_lt.1 fun h9 => h8 (.inr (.inl h9))
  obtain ⟨C, hC⟩ : ∃ C, sgCode L t most = C := ⟨_, rfl⟩
  obtain ⟨G, hG⟩ : ∃ G, sgList L t most = G := ⟨_, rfl⟩
  rw [hC, hG] at HSp HIm
  rw [hC, hG] at HLs
  clear hC hG hown hb1 hsm HDr hsL
  have hcn : (C != C) = false := by simp
  go_wp2_with fail
  refine HSp.out.mono ?_
  rintro e w2 ⟨v2, rfl, hown2, hb2⟩
  have HI2 := hidd (HIm.out w2 hb2)
  have HB2 := hidd hb2
  clear hown2 hb2 HSp HIm
  go_wp2_with fail
  refine HI2.out.mono ?_
  rintro e w3 ⟨v3, rfl, hown3, hb3⟩
  obtain ⟨sG, cG, rfl, hcG, hsG⟩ := own_slice hown3
  have HTg : Hid (TmA w3 sG G) := by
    obtain ⟨s', c', e1, e2, e3, e4⟩ := Sl.own hown3
    simp only [Value.slice.injEq] at e1
    obtain ⟨rfl, _, rfl⟩ := e1
    exact e3
  have HB13 := hidd (HB2.out.trans (hb3.mono HB2.out.size))
  have HBw3 := hidd (HB1.out.trans (HB13.out.mono HB1.out.size))
  have HTm3 := hidd (HTm.out.below HB13.out)
  clear hown3 hb3 HI2 HB2 hsG HTm
  by_cases hC0 : C = 0
  · subst hC0
    obtain ⟨hGe, hvt, hvL, hrt, hmo⟩ := HLs.out rfl
    obtain ⟨mo, rfl⟩ := Int.eq_ofNat_of_zero_le hmo
    rw [Int.toNat_natCast] at hGe
    have HGe := hidd hGe
    clear hGe HLs
    have HNr := hidd (names_rise L)
    have HSt : Hid (∀ i, i < G.length → G.getD i [] ∈ names L ∧ eX (runes t) (G.getD i []) ≤ 2 ∧ lastE (eX (runes t)) G i ≤ eX (runes t) (G.getD i []) ∧ (0 < i → eX (runes t) (G.getD i []) = lastE (eX (runes t)) G i → ltT (G.getD (i - 1) []) (G.getD i []) = true)) := by
      have h := told_step (eX (runes t)) (names L) HNr.out mo
      rw [← HGe.out] at h
      exact h
    have HLf : Hid (∀ x, x ∈ L → eX (runes t) x ≤ 2 → x ∉ G → ¬ G.length < mo ∧ ¬ eX (runes t) x < lastE (eX (runes t)) G G.length) := by
      intro x hx
      have h := told_left (eX (runes t)) (names L) HNr.out mo x ((names_mem L x).2 hx)
      rw [← HGe.out] at h
      exact h
    have hGl : G.length ≤ mo := by rw [HGe.out]; exact told_len _ _ _
    have HEv : Hid (∀ x, x ∈ L → ∀ d : Nat, d ≤ 2 → (edCode t (bs x) == 0 && edVal t (bs x) == (d : Int)) = decide (eX (runes t) x = d)) := fun x hx d hd => ed_eX t x d hd (by omega) hvt hrt (List.all_eq_true.1 hvL x hx)
    have HEd : Hid (∀ x W, x ∈ L → Below w3.heap.size w3 W → Calls Tryd.prog 8 #[.string t, .string (bs x)] W fun e w' => e = .returned (.tuple #[.int .i64 (edVal t (bs x)), .int .i64 (edCode t (bs x))]) ∧ Below W.heap.size W w') := fun x W hx hW => implEdits_any t (bs x) W (by omega) (by rw [bs_size]; have := HSm.out x hx; omega) ((HT.out.below HBw3.out).below hW)
    have HGm : Hid (∀ i, i < G.length → G.getD i [] ∈ L) := fun i hi => (names_mem L _).1 (HSt.out i hi).1
    clear hvt hvL hrt HNr HGe
    obtain ⟨E, hE⟩ : ∃ E, eX (runes t) = E := ⟨_, rfl⟩
    rw [hE] at HSt HLf HEv
    clear hE
    go_wp2_with fail
    go_loopw [10, 11] (fun lv iv wr => ∃ i : Nat, i ≤ G.length ∧ iv = .int .i64 (i : Int) ∧ lv = .int .i64 ((lastE E G i : Nat) : Int) ∧ Below w3.heap.size w3 wr) (fun _ iv _ => G.length - (intOf iv).toNat)
    case atStart => exact ⟨0, Nat.zero_le _, rfl, rfl, Below.refl _ _⟩
    case round =>
      obtain ⟨i, hi, rfl, rfl, hb⟩ := hrel
      have HB := hidd hb
      clear hb
      by_cases hlt : i < G.length
      · have hltz : (i : Int) < (G.length : Int) := by omega
        obtain ⟨g, off, rfl, hg, hc⟩ := (HTg.out.below HB.out).resolve_left (fun h => by rw [h] at hlt; simp at hlt)
        have x0 := hc i hlt
        have HCell := hidd hc
        clear hc
        obtain ⟨hxN, hx2, hxl, hxe⟩ := HSt.out i hlt
        have hxL := HGm.out i hlt
        have hev := HEv.out _ hxL (E (G.getD i [])) hx2
        rw [decide_eq_true rfl, Bool.and_eq_true, beq_iff_eq, beq_iff_eq] at hev
        have HEi := hidd (HEd.out _ wr hxL HB.out)
        rw [hev.1, hev.2] at HEi
        have hls : lastE E G (i + 1) = E (G.getD i []) := by rw [lastE, if_neg (by omega), Nat.add_sub_cancel]
        have HLs1 := hidd hls
        have Hxe := hidd hxe
        clear hls hxN hxL hev hxe
        generalize G.getD i [] = x at *
        generalize E x = d at *
        generalize lastE E G i = la at *
        generalize hT0 : bs x = T0 at *
        have HT0 := hidd hT0
        clear hT0
        go_wp2_with fail
        refine HEi.out.mono ?_
        rintro e w4 ⟨rfl, hb4⟩
        have HB4 := hidd (HB.out.trans (hb4.mono HB.out.size))
        have x4 := (hb4.cell (p := ⟨g, off + i, none⟩) hg).trans x0
        have hd2 : ¬ (d : Int) > 2 := by omega
        have hdl : ¬ (d : Int) < (la : Int) := by omega
        clear HEi x0
        go_upto_region 15 with fail
        go_cut [93] (fun cv wy => cv = .bool false ∧ ∃ q, wy = w4.drewN q)
        case first =>
          by_cases hi0 : 0 < i
          · have hi0z : (i : Int) > 0 := by omega
            cases hde : ((d : Int) == (la : Int)) with
            | false =>
              refine wp_region_held_drew (S := fun W1 => True) (by kernel_rfl) ?_ (fun hHeld => ?_)
              · trivial
              refine tkX 0 (h := ?_)
              (simp only [Act.put, List.getElem_toArray, List.getElem_cons_succ, List.getElem_cons_zero, List.setIfInBounds_toArray, List.set_cons_zero, List.set_cons_succ])
              refine tkW 1 (v := .bool false) (hx := ?_) (h := ?_)
              · intro W1 _; go_simp
              (simp only [Act.put, List.getElem_toArray, List.getElem_cons_succ, List.getElem_cons_zero, List.setIfInBounds_toArray, List.set_cons_zero, List.set_cons_succ])
              refine tkX 2 (h := ?_)
              refine tkX 3 (h := ?_)
              (simp only [Act.put, List.getElem_toArray, List.getElem_cons_succ, List.getElem_cons_zero, List.setIfInBounds_toArray, List.set_cons_zero, List.set_cons_succ])
              refine tkW 4 (v := .bool false) (hx := ?_) (h := ?_)
              · intro W1 _; go_simp <;> omega
              (simp only [Act.put, List.getElem_toArray, List.getElem_cons_succ, List.getElem_cons_zero, List.setIfInBounds_toArray, List.set_cons_zero, List.set_cons_succ])
              refine tkX 5 (h := ?_)
              refine tkX 6 (h := ?_)
              refine tkX 7 (h := ?_)
              refine tkX 8 (h := ?_)
              (simp only [Act.put, List.getElem_toArray, List.getElem_cons_succ, List.getElem_cons_zero, List.setIfInBounds_toArray, List.set_cons_zero, List.set_cons_succ])
              refine tkW 9 (v := .bool false) (hx := ?_) (h := ?_)
              · intro W1 _; go_simp <;> omega
              (simp only [Act.put, List.getElem_toArray, List.getElem_cons_succ, List.getElem_cons_zero, List.setIfInBounds_toArray, List.set_cons_zero, List.set_cons_succ])
              refine tkX 10 (h := ?_)
              refine tkX 11 (h := ?_)
              refine tkX 12 (h := ?_)
              (simp only [Act.put, List.getElem_toArray, List.getElem_cons_succ, List.getElem_cons_zero, List.setIfInBounds_toArray, List.set_cons_zero, List.set_cons_succ])
              refine tkW 13 (v := .bool true) (hx := ?_) (h := ?_)
              · intro W1 _; go_simp <;> omega
              (simp only [Act.put, List.getElem_toArray, List.getElem_cons_succ, List.getElem_cons_zero, List.setIfInBounds_toArray, List.set_cons_zero, List.set_cons_succ])
              refine tkX 14 (h := ?_)
              refine tkX 15 (h := ?_)
              refine tkX 16 (h := ?_)
              (simp only [Act.put, List.getElem_toArray, List.getElem_cons_succ, List.getElem_cons_zero, List.setIfInBounds_toArray, List.set_cons_zero, List.set_cons_succ])
              refine tkW 17 (v := .bool false) (hx := ?_) (h := ?_)
              · intro W1 _; go_simp <;> exact hde
              (simp only [Act.put, List.getElem_toArray, List.getElem_cons_succ, List.getElem_cons_zero, List.setIfInBounds_toArray, List.set_cons_zero, List.set_cons_succ])
              refine tkX 18 (h := ?_)
              refine tkX 19 (h := ?_)
              refine tkS 20 (h := ?_)
              refine tkS 21 (h := ?_)
              refine tkS 22 (h := ?_)
              refine tkS 23 (h := ?_)
              refine tkS 24 (h := ?_)
              refine tkS 25 (h := ?_)
              refine tkS 26 (h := ?_)
              refine tkS 27 (h := ?_)
              refine tkS 28 (h := ?_)
              refine tkS 29 (h := ?_)
              refine tkX 30 (h := ?_)
              refine tkX 31 (h := ?_)
              (simp only [Act.put, List.getElem_toArray, List.getElem_cons_succ, List.getElem_cons_zero, List.setIfInBounds_toArray, List.set_cons_zero, List.set_cons_succ])
              refine wpAnyH_done (by kernel_rfl) ?_ _
              go_wp2_with fail
              go_meet
              exact ⟨rfl, 1, rfl⟩
            | true =>
              have hlt1 := Hxe.out hi0 (by have := beq_iff_eq.1 hde; omega)
              have x5 := (hb4.cell (p := ⟨g, off + (i - 1), none⟩) hg).trans (HCell.out (i - 1) (by omega))
              have hcmp : (Op.bytesLess T0.toList (bs (G.getD (i - 1) [])).toList || T0.toList == (bs (G.getD (i - 1) [])).toList) = false := by
                rw [← HT0.out, bs_tl, bs_tl]
                have := gtr_lt x (G.getD (i - 1) [])
                rw [hlt1] at this
                simpa using this
              generalize bs (G.getD (i - 1) []) = T1 at *
              clear HCell hb4 hlt1
              refine wp_region_held_drew (S := fun W1 => W1.cell? ⟨g, off + i, none⟩ = some (.string T0) ∧ W1.cell? ⟨g, off + (i - 1), none⟩ = some (.string T1)) (by kernel_rfl) ?_ (fun hHeld => ?_)
              · exact ⟨x4, x5⟩
              refine tkX 0 (h := ?_)
              (simp only [Act.put, List.getElem_toArray, List.getElem_cons_succ, List.getElem_cons_zero, List.setIfInBounds_toArray, List.set_cons_zero, List.set_cons_succ])
              refine tkW 1 (v := .bool false) (hx := ?_) (h := ?_)
              · intro W1 _; go_simp
              (simp only [Act.put, List.getElem_toArray, List.getElem_cons_succ, List.getElem_cons_zero, List.setIfInBounds_toArray, List.set_cons_zero, List.set_cons_succ])
              refine tkX 2 (h := ?_)
              refine tkX 3 (h := ?_)
              (simp only [Act.put, List.getElem_toArray, List.getElem_cons_succ, List.getElem_cons_zero, List.setIfInBounds_toArray, List.set_cons_zero, List.set_cons_succ])
              refine tkW 4 (v := .bool false) (hx := ?_) (h := ?_)
              · intro W1 _; go_simp <;> omega
              (simp only [Act.put, List.getElem_toArray, List.getElem_cons_succ, List.getElem_cons_zero, List.setIfInBounds_toArray, List.set_cons_zero, List.set_cons_succ])
              refine tkX 5 (h := ?_)
              refine tkX 6 (h := ?_)
              refine tkX 7 (h := ?_)
              refine tkX 8 (h := ?_)
              (simp only [Act.put, List.getElem_toArray, List.getElem_cons_succ, List.getElem_cons_zero, List.setIfInBounds_toArray, List.set_cons_zero, List.set_cons_succ])
              refine tkW 9 (v := .bool false) (hx := ?_) (h := ?_)
              · intro W1 _; go_simp <;> omega
              (simp only [Act.put, List.getElem_toArray, List.getElem_cons_succ, List.getElem_cons_zero, List.setIfInBounds_toArray, List.set_cons_zero, List.set_cons_succ])
              refine tkX 10 (h := ?_)
              refine tkX 11 (h := ?_)
              refine tkX 12 (h := ?_)
              (simp only [Act.put, List.getElem_toArray, List.getElem_cons_succ, List.getElem_cons_zero, List.setIfInBounds_toArray, List.set_cons_zero, List.set_cons_succ])
              refine tkW 13 (v := .bool true) (hx := ?_) (h := ?_)
              · intro W1 _; go_simp <;> omega
              (simp only [Act.put, List.getElem_toArray, List.getElem_cons_succ, List.getElem_cons_zero, List.setIfInBounds_toArray, List.set_cons_zero, List.set_cons_succ])
              refine tkX 14 (h := ?_)
              refine tkX 15 (h := ?_)
              refine tkX 16 (h := ?_)
              (simp only [Act.put, List.getElem_toArray, List.getElem_cons_succ, List.getElem_cons_zero, List.setIfInBounds_toArray, List.set_cons_zero, List.set_cons_succ])
              refine tkW 17 (v := .bool true) (hx := ?_) (h := ?_)
              · intro W1 _; go_simp <;> exact hde
              (simp only [Act.put, List.getElem_toArray, List.getElem_cons_succ, List.getElem_cons_zero, List.setIfInBounds_toArray, List.set_cons_zero, List.set_cons_succ])
              refine tkX 18 (h := ?_)
              refine tkX 19 (h := ?_)
              refine tkX 20 (h := ?_)
              refine tkX 21 (h := ?_)
              (simp only [Act.put, List.getElem_toArray, List.getElem_cons_succ, List.getElem_cons_zero, List.setIfInBounds_toArray, List.set_cons_zero, List.set_cons_succ])
              refine tkW 22 (v := .pointer (some ⟨g, off + i, none⟩)) (hx := fun W1 _ => exec_idxN W1 _ _ _ _ rfl g off G.length cG i (by kernel_rfl) (by kernel_rfl) hlt) (h := ?_)
              (simp only [Act.put, List.getElem_toArray, List.getElem_cons_succ, List.getElem_cons_zero, List.setIfInBounds_toArray, List.set_cons_zero, List.set_cons_succ])
              refine tkX 23 (h := ?_)
              refine tkX 24 (h := ?_)
              refine tkX 25 (h := ?_)
              (simp only [Act.put, List.getElem_toArray, List.getElem_cons_succ, List.getElem_cons_zero, List.setIfInBounds_toArray, List.set_cons_zero, List.set_cons_succ])
              refine tkW 26 (v := .int .i64 ((i - 1 : Nat) : Int)) (hx := ?_) (h := ?_)
              · intro W1 _; go_simp <;> (rw [IntKind.wrap_i64]; omega)
              (simp only [Act.put, List.getElem_toArray, List.getElem_cons_succ, List.getElem_cons_zero, List.setIfInBounds_toArray, List.set_cons_zero, List.set_cons_succ])
              refine tkW 27 (v := .pointer (some ⟨g, off + (i - 1), none⟩)) (hx := fun W1 _ => exec_idxN W1 _ _ _ _ rfl g off G.length cG (i - 1) (by kernel_rfl) (by kernel_rfl) (by omega)) (h := ?_)
              (simp only [Act.put, List.getElem_toArray, List.getElem_cons_succ, List.getElem_cons_zero, List.setIfInBounds_toArray, List.set_cons_zero, List.set_cons_succ])
              refine tkX 28 (h := ?_)
              (simp only [Act.put, List.getElem_toArray, List.getElem_cons_succ, List.getElem_cons_zero, List.setIfInBounds_toArray, List.set_cons_zero, List.set_cons_succ])
              refine tkW 29 (v := .bool false) (hx := ?_) (h := ?_)
              · intro W1 _; go_simp
              (simp only [Act.put, List.getElem_toArray, List.getElem_cons_succ, List.getElem_cons_zero, List.setIfInBounds_toArray, List.set_cons_zero, List.set_cons_succ])
              refine tkX 30 (h := ?_)
              refine tkX 31 (h := ?_)
              (simp only [Act.put, List.getElem_toArray, List.getElem_cons_succ, List.getElem_cons_zero, List.setIfInBounds_toArray, List.set_cons_zero, List.set_cons_succ])
              refine wpAnyH_done (by kernel_rfl) ?_ _
              go_wp2_with fail
              go_meet
              exact ⟨rfl, 1, rfl⟩
          · have hi0z : ¬ (i : Int) > 0 := by omega
            refine wp_region_held_drew (S := fun W1 => True) (by kernel_rfl) ?_ (fun hHeld => ?_)
            · trivial
            refine tkX 0 (h := ?_)
            (simp only [Act.put, List.getElem_toArray, List.getElem_cons_succ, List.getElem_cons_zero, List.setIfInBounds_toArray, List.set_cons_zero, List.set_cons_succ])
            refine tkW 1 (v := .bool false) (hx := ?_) (h := ?_)
            · intro W1 _; go_simp
            (simp only [Act.put, List.getElem_toArray, List.getElem_cons_succ, List.getElem_cons_zero, List.setIfInBounds_toArray, List.set_cons_zero, List.set_cons_succ])
            refine tkX 2 (h := ?_)
            refine tkX 3 (h := ?_)
            (simp only [Act.put, List.getElem_toArray, List.getElem_cons_succ, List.getElem_cons_zero, List.setIfInBounds_toArray, List.set_cons_zero, List.set_cons_succ])
            refine tkW 4 (v := .bool false) (hx := ?_) (h := ?_)
            · intro W1 _; go_simp <;> omega
            (simp only [Act.put, List.getElem_toArray, List.getElem_cons_succ, List.getElem_cons_zero, List.setIfInBounds_toArray, List.set_cons_zero, List.set_cons_succ])
            refine tkX 5 (h := ?_)
            refine tkX 6 (h := ?_)
            refine tkX 7 (h := ?_)
            refine tkX 8 (h := ?_)
            (simp only [Act.put, List.getElem_toArray, List.getElem_cons_succ, List.getElem_cons_zero, List.setIfInBounds_toArray, List.set_cons_zero, List.set_cons_succ])
            refine tkW 9 (v := .bool false) (hx := ?_) (h := ?_)
            · intro W1 _; go_simp <;> omega
            (simp only [Act.put, List.getElem_toArray, List.getElem_cons_succ, List.getElem_cons_zero, List.setIfInBounds_toArray, List.set_cons_zero, List.set_cons_succ])
            refine tkX 10 (h := ?_)
            refine tkX 11 (h := ?_)
            refine tkX 12 (h := ?_)
            (simp only [Act.put, List.getElem_toArray, List.getElem_cons_succ, List.getElem_cons_zero, List.setIfInBounds_toArray, List.set_cons_zero, List.set_cons_succ])
            refine tkW 13 (v := .bool false) (hx := ?_) (h := ?_)
            · intro W1 _; go_simp <;> omega
            (simp only [Act.put, List.getElem_toArray, List.getElem_cons_succ, List.getElem_cons_zero, List.setIfInBounds_toArray, List.set_cons_zero, List.set_cons_succ])
            refine tkX 14 (h := ?_)
            refine tkS 15 (h := ?_)
            refine tkS 16 (h := ?_)
            refine tkS 17 (h := ?_)
            refine tkX 18 (h := ?_)
            refine tkX 19 (h := ?_)
            refine tkS 20 (h := ?_)
            refine tkS 21 (h := ?_)
            refine tkS 22 (h := ?_)
            refine tkS 23 (h := ?_)
            refine tkS 24 (h := ?_)
            refine tkS 25 (h := ?_)
            refine tkS 26 (h := ?_)
            refine tkS 27 (h := ?_)
            refine tkS 28 (h := ?_)
            refine tkS 29 (h := ?_)
            refine tkX 30 (h := ?_)
            refine tkX 31 (h := ?_)
            (simp only [Act.put, List.getElem_toArray, List.getElem_cons_succ, List.getElem_cons_zero, List.setIfInBounds_toArray, List.set_cons_zero, List.set_cons_succ])
            refine wpAnyH_done (by kernel_rfl) ?_ _
            go_wp2_with fail
            go_meet
            exact ⟨rfl, 1, rfl⟩
        case rest =>
          obtain ⟨rfl, q, hwq⟩ := hcut
          have HB5 : Hid (Below w3.heap.size w3 wc) := by rw [hwq]; exact below_drewN HB4.out q
          clear hwq HB4 x4 hb4
          go_wp2_with fail
          go_roundw
          case rel => exact ⟨i + 1, by omega, by go_num, by rw [HLs1.out], HB5.out⟩
          case measure => simp [intOf]; omega
      · have hltz : ¬ (i : Int) < (G.length : Int) := by omega
        obtain rfl : i = G.length := by omega
        have HEN : Hid (∀ x : Tx, ∃ d : Nat, edVal t (bs x) = (d : Int)) := fun x => by
          unfold edVal
          split
          · exact ⟨_, rfl⟩
          · exact ⟨0, rfl⟩
        obtain ⟨la, hla⟩ : ∃ la, lastE E G G.length = la := ⟨_, rfl⟩
        rw [hla] at HLf
        try rw [hla]
        have HB0 := hidd HB.out
        clear HSt HGm hltz hi HB hla
        go_wp2_with fail
        go_loopw [14] (fun iv wr => ∃ i : Nat, i ≤ L.length ∧ iv = .int .i64 (i : Int) ∧ Below w3.heap.size w3 wr) (fun iv _ => L.length - (intOf iv).toNat)
        case atStart => exact ⟨0, Nat.zero_le _, rfl, HB0.out⟩
        case round =>
          clear HB0
          obtain ⟨i, hi, rfl, hb⟩ := hrel
          have HB := hidd hb
          clear hb
          by_cases hlt : i < L.length
          · have hltz : (i : Int) < (L.length : Int) := by omega
            obtain ⟨g, off, rfl, hg, hc⟩ := (HTm3.out.below HB.out).resolve_left (fun h => by rw [h] at hlt; simp at hlt)
            have x0 := hc i hlt
            have hxL : L.getD i [] ∈ L := getD_mem hlt
            clear hc
            have HEi := hidd (HEd.out _ wr hxL HB.out)
            obtain ⟨d, hd⟩ := HEN.out (L.getD i [])
            have hev := HEv.out _ hxL d
            have hlf := HLf.out _ hxL
            have Hres : Hid (edCode t (bs (L.getD i [])) = 0 → d ≤ 2 → L.getD i [] ∉ G → ¬ G.length < mo ∧ ¬ d < la) := by
              intro h1 h2 h3
              have h4 := hev h2
              rw [h1, hd] at h4
              have h5 : E (L.getD i []) = d := by simpa using h4
              rw [h5] at hlf
              exact hlf h2 h3
            rw [hd] at HEi
            clear hev hlf hd hxL
            generalize L.getD i [] = x at *
            generalize edCode t (bs x) = cc at *
            generalize hT0 : bs x = T0 at *
            have HT0 := hidd hT0
            clear hT0
            go_wp2_with fail
            refine HEi.out.mono ?_
            rintro e w4 ⟨rfl, hb4⟩
            have HB4 := hidd (HB.out.trans (hb4.mono HB.out.size))
            have X4 := hidd ((hb4.cell (p := ⟨g, off + i, none⟩) hg).trans x0)
            have hg4 : g < w4.heap.size := Nat.lt_of_lt_of_le hg hb4.size
            clear HEi x0 hb4
            go_wp2_with fail
            go_loopw [17, 18] (fun tv kv wr => ∃ k : Nat, k ≤ G.length ∧ kv = .int .i64 (k : Int) ∧ tv = .bool (decide (x ∈ G.take k)) ∧ Below w4.heap.size w4 wr) (fun _ kv _ => G.length - (intOf kv).toNat)
            case atStart => exact ⟨0, Nat.zero_le _, rfl, by simp, Below.refl _ _⟩
            case round =>
              obtain ⟨k, hk, rfl, rfl, hb⟩ := hrel
              have HBk := hidd hb
              clear hb
              by_cases hkl : k < G.length
              · have hklz : (k : Int) < (G.length : Int) := by omega
                obtain ⟨gg, og, rfl, hgg, hcg⟩ := (HTg.out.below (HB4.out.trans (HBk.out.mono HB4.out.size))).resolve_left (fun h => by rw [h] at hkl; simp at hkl)
                have y0 := hcg k hkl
                have x4 := (HBk.out.cell (p := ⟨g, off + i, none⟩) hg4).trans X4.out
                have Htk : Hid (decide (x ∈ G.take (k + 1)) = (decide (x ∈ G.take k) || (G.getD k [] == x))) := by
                  show _ = _
                  rw [List.take_succ_eq_append_getElem hkl, List.getD_eq_getElem?_getD, List.getElem?_eq_getElem hkl, Bool.eq_iff_iff]
                  rw [decide_eq_true_eq, Bool.or_eq_true, decide_eq_true_eq, List.mem_append, List.mem_singleton, Option.getD_some, beq_iff_eq]
                  constructor
                  · rintro (h | h)
                    · exact .inl h
                    · exact .inr h.symm
                  · rintro (h | h)
                    · exact .inl h
                    · exact .inr h.symm
                clear hcg
                obtain ⟨tb, htb⟩ : ∃ tb, decide (x ∈ G.take k) = tb := ⟨_, rfl⟩
                rw [htb] at Htk
                try rw [htb]
                clear htb
                obtain ⟨te, hte⟩ : ∃ te, (G.getD k [] == x) = te := ⟨_, rfl⟩
                have hcmp : ((bs (G.getD k [])).toList == T0.toList) = te := by rw [← HT0.out, bs_tl, bs_tl]; exact hte
                rw [hte] at Htk
                clear hte
                generalize bs (G.getD k []) = T1 at *
                go_upto_region 26 with fail
                cases tb with
                | true =>
                  refine wp_region_held_drew (S := fun W1 => True) (by kernel_rfl) ?_ (fun hHeld => ?_)
                  · trivial
                  refine tkX 0 (h := ?_)
                  refine tkX 1 (h := ?_)
                  (simp only [Act.put, List.getElem_toArray, List.getElem_cons_succ, List.getElem_cons_zero, List.setIfInBounds_toArray, List.set_cons_zero, List.set_cons_succ])
                  refine tkS 2 (h := ?_)
                  refine tkS 3 (h := ?_)
                  refine tkS 4 (h := ?_)
                  refine tkS 5 (h := ?_)
                  refine tkS 6 (h := ?_)
                  refine tkS 7 (h := ?_)
                  refine tkS 8 (h := ?_)
                  refine tkS 9 (h := ?_)
                  refine tkS 10 (h := ?_)
                  refine tkX 11 (h := ?_)
                  (simp only [Act.put, List.getElem_toArray, List.getElem_cons_succ, List.getElem_cons_zero, List.setIfInBounds_toArray, List.set_cons_zero, List.set_cons_succ])
                  refine tkX 12 (h := ?_)
                  (simp only [Act.put, List.getElem_toArray, List.getElem_cons_succ, List.getElem_cons_zero, List.setIfInBounds_toArray, List.set_cons_zero, List.set_cons_succ])
                  refine wpAnyH_done (by kernel_rfl) ?_ _
                  have HBq := hidd (below_drewN HBk.out 1)
                  clear y0 x4
                  go_wp2_with fail
                  go_roundw
                  case rel => exact ⟨k + 1, by omega, by go_num, by rw [Htk.out]; rfl, HBq.out⟩
                  case measure => simp [intOf]; omega
                | false =>
                  refine wp_region_held_drew (S := fun W1 => W1.cell? ⟨gg, og + k, none⟩ = some (.string T1) ∧ W1.cell? ⟨g, off + i, none⟩ = some (.string T0)) (by kernel_rfl) ?_ (fun hHeld => ?_)
                  · exact ⟨y0, x4⟩
                  refine tkX 0 (h := ?_)
                  refine tkX 1 (h := ?_)
                  refine tkX 2 (h := ?_)
                  refine tkX 3 (h := ?_)
                  (simp only [Act.put, List.getElem_toArray, List.getElem_cons_succ, List.getElem_cons_zero, List.setIfInBounds_toArray, List.set_cons_zero, List.set_cons_succ])
                  refine tkW 4 (v := .pointer (some ⟨gg, og + k, none⟩)) (hx := fun W1 _ => exec_idxN W1 _ _ _ _ rfl gg og G.length cG k (by kernel_rfl) (by kernel_rfl) hkl) (h := ?_)
                  (simp only [Act.put, List.getElem_toArray, List.getElem_cons_succ, List.getElem_cons_zero, List.setIfInBounds_toArray, List.set_cons_zero, List.set_cons_succ])
                  refine tkX 5 (h := ?_)
                  refine tkX 6 (h := ?_)
                  refine tkX 7 (h := ?_)
                  (simp only [Act.put, List.getElem_toArray, List.getElem_cons_succ, List.getElem_cons_zero, List.setIfInBounds_toArray, List.set_cons_zero, List.set_cons_succ])
                  refine tkW 8 (v := .pointer (some ⟨g, off + i, none⟩)) (hx := fun W1 _ => exec_idxN W1 _ _ _ _ rfl g off L.length cL i (by kernel_rfl) (by kernel_rfl) hlt) (h := ?_)
                  (simp only [Act.put, List.getElem_toArray, List.getElem_cons_succ, List.getElem_cons_zero, List.setIfInBounds_toArray, List.set_cons_zero, List.set_cons_succ])
                  refine tkX 9 (h := ?_)
                  (simp only [Act.put, List.getElem_toArray, List.getElem_cons_succ, List.getElem_cons_zero, List.setIfInBounds_toArray, List.set_cons_zero, List.set_cons_succ])
                  refine tkW 10 (v := .bool te) (hx := ?_) (h := ?_)
                  · intro W1 _; go_simp <;> exact hcmp
                  (simp only [Act.put, List.getElem_toArray, List.getElem_cons_succ, List.getElem_cons_zero, List.setIfInBounds_toArray, List.set_cons_zero, List.set_cons_succ])
                  refine tkX 11 (h := ?_)
                  (simp only [Act.put, List.getElem_toArray, List.getElem_cons_succ, List.getElem_cons_zero, List.setIfInBounds_toArray, List.set_cons_zero, List.set_cons_succ])
                  refine tkX 12 (h := ?_)
                  (simp only [Act.put, List.getElem_toArray, List.getElem_cons_succ, List.getElem_cons_zero, List.setIfInBounds_toArray, List.set_cons_zero, List.set_cons_succ])
                  refine wpAnyH_done (by kernel_rfl) ?_ _
                  have HBq := hidd (below_drewN HBk.out 1)
                  clear y0 x4
                  go_wp2_with fail
                  go_roundw
                  case rel => exact ⟨k + 1, by omega, by go_num, by rw [Htk.out, Bool.false_or], HBq.out⟩
                  case measure => simp [intOf]; omega
              · have hklz : ¬ (k : Int) < (G.length : Int) := by omega
                rw [List.take_of_length_le (by omega)]
                have HB5 := hidd (HB4.out.trans (HBk.out.mono HB4.out.size))
                clear HBk HB4 X4
                obtain ⟨tb, htb⟩ : ∃ tb, decide (x ∈ G) = tb := ⟨_, rfl⟩
                rw [htb]
                have hres : cc = 0 → d ≤ 2 → tb = false → ¬ G.length < mo ∧ ¬ d < la := fun h1 h2 h3 => Hres.out h1 h2 (by rw [h3] at htb; simpa using htb)
                clear htb
                go_upto_region 27 with fail
                go_cut [148] (fun cv wy => cv = .bool false ∧ wy = wr)
                case first =>
                  cases hcc : (cc == 0) with
                  | false =>
                    clear hres
                    go_wp2_with fail
                    go_meet
                    case rel => exact ⟨rfl, rfl⟩
                  | true =>
                    by_cases hd2 : d ≤ 2
                    · have hd2z : (d : Int) ≤ 2 := by omega
                      cases tb with
                      | true =>
                        clear hres
                        go_wp2_with fail
                        go_meet
                        case rel => exact ⟨rfl, rfl⟩
                      | false =>
                        obtain ⟨q1, q2⟩ := hres (by simpa using hcc) hd2 rfl
                        have q1z : ¬ (G.length : Int) < (mo : Int) := by omega
                        have q2z : ¬ (d : Int) < (la : Int) := by omega
                        go_wp2_with fail
                        go_meet
                        case rel => exact ⟨rfl, rfl⟩
                    · have hd2z : ¬ (d : Int) ≤ 2 := by omega
                      clear hres
                      go_wp2_with fail
                      go_meet
                      case rel => exact ⟨rfl, rfl⟩
                case rest =>
                  obtain ⟨rfl, hww⟩ := hcut
                  obtain rfl := hww.symm
                  clear hww hres
                  go_wp2_with fail
                  go_roundw
                  case rel => exact ⟨i + 1, by omega, by go_num, HB5.out⟩
                  case measure => simp [intOf]; omega
          · have hltz : ¬ (i : Int) < (L.length : Int) := by omega
            have hGlz : (G.length : Int) ≤ (mo : Int) := by omega
            have HBe := hidd (HBw3.out.trans (HB.out.mono HBw3.out.size))
            go_wp2_with fail
            go_ret
            exact ⟨rfl, HBe.out⟩
  · have hC0n : (C != 0) = true := by rw [bne_iff_ne]; exact hC0
    go_wp2_with fail
    go_ret
    exact ⟨rfl, HBw3.out⟩
end Go.Proofs.YtifgcimmlonagaaDoor
