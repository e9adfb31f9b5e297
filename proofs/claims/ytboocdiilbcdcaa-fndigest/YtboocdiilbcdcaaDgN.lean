import Derived.Test.YtboocdiilbcdcaaDgM
import Derived.Test.YtboocdiilbcdcaaRgB
import Derived.Deep.RegionHeld3
namespace Go.Proofs.Ytboocdiilbcdcaa
open Go Go.RowKit
set_option linter.unusedVariables false
set_option linter.unusedSimpArgs false
set_option maxRecDepth 100000

/-! spec.l17Sort: by halves. -/
theorem exec_idx0 (W : World) (ρ : Operand → Value) (o : Oper) (x y : Operand) (ho : o.op = .indexAddr 23 x y) (g off la c : Nat) (hx : ρ x = .slice (some ⟨g, off, none⟩) la c) (hy : ρ y = .int .i64 0) (h : 0 < la) : (execOp ρ o).run Try.prog W = .ok (.value (.pointer (some ⟨g, off, none⟩))) W := by
  unfold execOp
  have hz : (0 : Int) < (la : Int) := by omega
  simp only [ho, hx, hy, Sem.run_bind, Sem.run_pure, Result.andThen_ok]
  go_simp
def pkZ : List Int → List Int → Bool
  | _, [] => true
  | [], _ :: _ => false
  | a0 :: _, b0 :: _ => decide (a0 ≤ b0)
/-- One number more behind a row of one's own: the box with it has just been made. -/
theorem wpSz_push {W : World} {ops : Array Oper} {rest : List Oper} {o : Oper} {a : Act} {Q : Exit → Act → World → Prop} (hgd : o.guard = none) (s x : Operand) (ho : o.op = .call { callee := .builtin .append, args := #[s, x], argTypes := #[23, 23] })
    (base : Nat) (v : Value) (xs : List Int) (hs : a.eval s = v) (hown : W.ownsRow base 3 1 v xs.length (zI xs)) (y : Int) (hx : a.eval x = .slice (some ⟨W.heap.size, 0, none⟩) 1 1) (hl : xs.length ≤ 1048576) (hbase : base ≤ W.heap.size)
    (h : ∀ g c w', w'.ownsRow base 3 1 (.slice (some ⟨g, 0, none⟩) (xs ++ [y]).length c) (xs ++ [y]).length (zI (xs ++ [y])) → But (fun b => v.ownBlock = some b) W w' → (v.ownBlock = some g ∨ W.heap.size ≤ g) → wpList Try.prog ops Q rest (a.put o.dst (.slice (some ⟨g, 0, none⟩) (xs ++ [y]).length c)) w') :
    wpList Try.prog ops Q (o :: rest) a (W.alloc (.cells #[.int .i64 y] 3)) := by
  obtain ⟨i0, hi0, hz0, hz1, hz2⟩ := info_parts Try.infoIntL
  refine wpList_append_own_at _ hgd s x 23 ho base 3 i0 (.int .i64 0) 1 8 Try.underlying23 hi0 hz0 hz1 hz2 rfl (by decide) v xs.length (zI xs) hs (hown.alloc _) ⟨W.heap.size, 0, none⟩ 1 1 [.int .i64 y] hx rfl ?_ ?_ (by unfold maxLen; omega) (by omega) (by simp; omega) ?_
  · intro j u hj
    match j, hj with
    | 0, hj =>
      simp at hj
      subst hj
      have := heap_alloc_new W (.cells #[.int .i64 y] 3)
      rw [add_head]
      exact blkc this 0
    | j + 1, hj => simp at hj
  · intro u hu
    rw [List.mem_singleton.1 hu]; rfl
  · intro v' w' h1 h2 h3 h4
    rcases h1.2 with ⟨h', _⟩ | ⟨g', cap', cur', h', _⟩
    · exact absurd (h3.1 h').2 (by simp)
    · subst h'
      rw [← zI_snoc] at h1
      have e : xs.length + 1 = (xs ++ [y]).length := by simp
      rw [e] at h1
      have hq := h g' cap' w' h1 ⟨h2.os, h2.tape, h2.output, by have := h2.size; simp at this; omega, fun b hb hn => by rw [h2.block b (by simp; omega) (fun e => hn e.symm), Below.heap_alloc _ _ _ hb]⟩ (by
        rcases h4 with h5 | h5
        · exact Or.inl (by rw [← h5]; rfl)
        · exact Or.inr (by have : g' = (W.alloc (.cells #[.int .i64 y] 3)).heap.size := by simpa [Value.ownBlock] using h5
                           simp at this; omega))
      rw [← e] at hq
      exact hq
/-- The length of a slice. -/
def lenV : Value → Nat
  | .slice _ n _ => n
  | _ => 0
theorem SzI.len {w : World} {v : Value} {zs : List Int} (h : SzI w v zs) : lenV v = zs.length := by
  obtain ⟨ad, cap, rfl, _⟩ := h
  rfl
def SortC (n : Nat) : Prop := ∀ (zs : List Int) (v : Value) (w : World), zs.length ≤ n → zs.length ≤ 100000 → SzI w v zs →
  Calls Try.prog 29 #[v] w fun e w' => ∃ g c, e = .returned (.slice (some ⟨g, 0, none⟩) zs.length c) ∧ w'.ownsRow w.heap.size 3 1 (.slice (some ⟨g, 0, none⟩) zs.length c) zs.length (zI (srtZ zs)) ∧ Below w.heap.size w w'
theorem srtZ_short {zs : List Int} (h : zs.length < 2) : srtZ zs = zs := srtZ_of (by
  match zs, h with
  | [], _ => exact List.Pairwise.nil
  | [x], _ => exact List.pairwise_singleton _ _) (List.Perm.refl _)
theorem but_below {W w' : World} {B : Nat} {v : Value} {n e : Nat} {xs : List Value} (ho : W.ownsRow B e 1 v n xs) (hB : B ≤ W.heap.size) (h : But (fun b => v.ownBlock = some b) W w') : Below B W w' :=
  ⟨h.os, h.tape, h.output, h.size, fun i hi => h.block i (by omega) (fun e => by have := own_block ho i e; omega)⟩
set_option maxHeartbeats 16000000 in
theorem sort_step (n : Nat) (hIH : ∀ k, k < n → SortC k) : SortC n := by
  intro zs v w hn hl hS
  have HIH := hidd hIH
  have HS := hidd hS
  obtain ⟨ad, cap, rfl, hcap, -⟩ := hS
  clear hIH
  by_cases h2 : zs.length < 2
  · have h2z : (zs.length : Int) < 2 := by omega
    have HE := hidd (srtZ_short h2)
    rw [HE.out]
    have HO := hidd (own_empty w 3)
    have HBa : Hid (Below w.heap.size w (w.alloc (.cells #[] 3))) := (Below.refl _ _).alloc (Nat.le_refl _) _
    go_enter Try.func29, Try.ntmps29
    go_upto_region 2 with fail
    have HS2 := hidd (HS.out.below HBa.out)
    generalize Value.slice ad zs.length cap = vz at *
    go_wp2_with (at_builtin; refine wpSz_app rfl _ _ rfl w.heap.size w.heap.size 0 [] rfl HO.out vz zs rfl HS2.out (by simp; omega) (by simp) ?_)
    intro g' c' w' h3 h4 h5
    try rw [List.nil_append] at h3
    have H3 := hidd h3
    have H4 : Hid (Below w.heap.size w w') := HBa.out.grown h4 HBa.out.size (fun k hk => by cases hk; exact Nat.le_refl _)
    clear h3 h4 h5
    try simp only [List.nil_append]
    go_wp2_with fail
    go_ret
    exact ⟨_, _, rfl, H3.out, H4.out⟩
  · have h2z : ¬ (zs.length : Int) < 2 := by omega
    obtain ⟨ad', cap', e1, e2, e3⟩ := HS.out
    simp only [Value.slice.injEq] at e1
    obtain ⟨rfl, _, rfl⟩ := e1
    obtain ⟨g, off, rfl, hgl, hc⟩ := e3.resolve_left (fun e => by rw [e] at h2; simp at h2)
    obtain ⟨k, hk⟩ : ∃ k, zs.length / 2 = k := ⟨_, rfl⟩
    have hkz : (zs.length : Int).tdiv 2 = (k : Int) := by rw [← hk]; rfl
    have hkz2 : (zs.length : Int) / 2 = (k : Int) := by omega
    have hk1 : 1 ≤ k := by omega
    have hk2 : k < zs.length := by omega
    have hkw : (k : Int) ≤ (cap : Int) := by omega
    have hkl : (k : Int) ≤ (zs.length : Int) := by omega
    have hl1 : (zs.take k).length = k := by rw [List.length_take]; omega
    have hl2 : (zs.drop k).length = zs.length - k := by rw [List.length_drop]
    have HC1 : Hid (∀ W, Below w.heap.size w W → Calls Try.prog 29 #[(.slice (some ⟨g, off, none⟩) k cap)] W fun e w' => ∃ g c, e = .returned (.slice (some ⟨g, 0, none⟩) (zs.take k).length c) ∧ w'.ownsRow W.heap.size 3 1 (.slice (some ⟨g, 0, none⟩) (zs.take k).length c) (zs.take k).length (zI (srtZ (zs.take k))) ∧ Below W.heap.size W w') := by
      intro W hW
      refine HIH.out k (by omega) (zs.take k) _ W (by omega) (by omega) ⟨some ⟨g, off, none⟩, cap, by rw [hl1], by omega, Or.inr ⟨g, off, rfl, Nat.lt_of_lt_of_le hgl hW.size, fun t ht => ?_⟩⟩
      rw [hl1] at ht
      rw [(hW.cell (p := ⟨g, off + t, none⟩) hgl).trans (hc t (by omega)), List.getD_eq_getElem?_getD, List.getD_eq_getElem?_getD, List.getElem?_take, if_pos (by omega)]
    have HC2 : Hid (∀ W, Below w.heap.size w W → Calls Try.prog 29 #[(.slice (some ⟨g, off + k, none⟩) (zs.length - k) (cap - k))] W fun e w' => ∃ g c, e = .returned (.slice (some ⟨g, 0, none⟩) (zs.drop k).length c) ∧ w'.ownsRow W.heap.size 3 1 (.slice (some ⟨g, 0, none⟩) (zs.drop k).length c) (zs.drop k).length (zI (srtZ (zs.drop k))) ∧ Below W.heap.size W w') := by
      intro W hW
      refine HIH.out (zs.length - k) (by omega) (zs.drop k) _ W (by omega) (by omega) ⟨some ⟨g, off + k, none⟩, cap - k, by rw [hl2], by omega, Or.inr ⟨g, off + k, rfl, Nat.lt_of_lt_of_le hgl hW.size, fun t ht => ?_⟩⟩
      rw [hl2] at ht
      rw [Nat.add_assoc, (hW.cell (p := ⟨g, off + (k + t), none⟩) hgl).trans (hc (k + t) (by omega)), List.getD_eq_getElem?_getD, List.getD_eq_getElem?_getD, List.getElem?_drop]
    have HM : Hid (Mgz zs (srtZ (zs.take k)) (srtZ (zs.drop k)) []) := by
      have h0 := Mgz.start (srtZ_up (zs.take k)) (srtZ_up (zs.drop k))
      refine ⟨h0.ua, h0.ub, h0.uo, h0.lo, ?_⟩
      refine h0.pm.trans ((List.Perm.append (srtZ_perm _) (srtZ_perm _)).trans ?_)
      rw [List.take_append_drop]
    have hn1 := srtZ_len (zs.take k)
    have hn2 := srtZ_len (zs.drop k)
    rw [hl1] at HC1 hn1
    rw [hl2] at HC2 hn2
    generalize hA0 : srtZ (zs.take k) = A0 at *
    generalize hB0 : srtZ (zs.drop k) = B0 at *
    have Hn1 := hidd hn1
    have Hn2 := hidd hn2
    have hsl : A0.length + B0.length = zs.length := by omega
    have HSL := hidd hsl
    clear hA0 hB0 hc hk hn1 hn2 hl1 hl2 hsl e2 e3
    have hck : ¬ cap = k := by omega
    go_enter Try.func29, Try.ntmps29
    go_wp2_with fail
    refine (HC1.out _ (Below.refl _ _)).mono ?_
    rintro e w1 ⟨g1, c1, rfl, hown1, hb1⟩
    have HA1 : Hid (SzI w1 (.slice (some ⟨g1, 0, none⟩) A0.length c1) A0) := SzI.own (by rw [Hn1.out]; exact hown1)
    have HB1 := hidd hb1
    clear hown1 HC1
    go_wp2_with fail
    refine (HC2.out _ hb1).mono ?_
    rintro e w2 ⟨g2, c2, rfl, hown2, hb2⟩
    have HA2 := hidd (HA1.out.below hb2)
    have HB2 : Hid (SzI w2 (.slice (some ⟨g2, 0, none⟩) B0.length c2) B0) := SzI.own (by rw [Hn2.out]; exact hown2)
    have HBw := hidd (HB1.out.trans (hb2.mono HB1.out.size))
    clear hown2 hb1 hb2 HC2 HA1 HB1 hck
    rw [Hn1.out] at HA2
    rw [Hn2.out] at HB2
    have HO := hidd (own_empty w2 3)
    have HB3 : Hid (Below w2.heap.size w2 (w2.alloc (.cells #[] 3))) := (Below.refl _ _).alloc (Nat.le_refl _) _
    have hz2w := HBw.out.size
    clear Hn1 Hn2
    go_wp2_with fail
    go_loopw [3, 4, 5] (fun va vb vo wr => ∃ (A B O : List Int) (g5 c5 : Nat), Mgz zs A B O ∧ SzI w2 va A ∧ SzI w2 vb B ∧ vo = .slice (some ⟨g5, 0, none⟩) O.length c5 ∧ wr.ownsRow w2.heap.size 3 1 (.slice (some ⟨g5, 0, none⟩) O.length c5) O.length (zI O) ∧ Below w2.heap.size w2 wr ∧ O.length + (A.length + B.length) ≤ 100000) (fun va vb _ _ => lenV va + lenV vb)
    case atStart => exact ⟨A0, B0, [], _, _, HM.out, HA2.out, HB2.out, rfl, HO.out, HB3.out, by have := HSL.out; simp; omega⟩
    case round =>
      obtain ⟨A, B, O, g5, c5, hmg, hsa, hsb, rfl, hown, hbel, hlen⟩ := hrel
      clear HA2 HB2 HO HB3 HM
      have HM := hidd hmg
      have HA := hidd hsa
      have HB := hidd hsb
      have HO := hidd hown
      have HW := hidd hbel
      obtain ⟨sa, ca, rfl, hca, hta⟩ := hsa
      obtain ⟨sb, cb, rfl, hcb, htb⟩ := hsb
      have hzz : w2.heap.size ≤ wr.heap.size := hbel.size
      clear hmg hown hbel
      by_cases he : A = [] ∧ B = []
      · obtain ⟨rfl, rfl⟩ := he
        have HE : Hid (O = srtZ zs) := by show _ = _; have := HM.out.done (Or.inl rfl); simpa using this
        have HEl : Hid (O.length = zs.length) := by show _ = _; rw [HE.out]; exact srtZ_len zs
        simp only [List.length_nil] at *
        go_wp2_with fail
        go_ret
        refine ⟨g5, c5, by show Ending.returned (Value.slice (some ⟨g5, 0, none⟩) O.length c5) = _; rw [HEl.out], ?_, HBw.out.trans (HW.out.mono hz2w)⟩
        rw [← HEl.out, ← HE.out]
        exact own_mono HO.out hz2w
      obtain ⟨pk, hpk⟩ : ∃ pk : Bool, pkZ A B = pk := ⟨_, rfl⟩
      have hor : ((A.length : Int) > 0) ∨ ((B.length : Int) > 0) := by
        by_cases h1 : A = []
        · by_cases h2 : B = []
          · exact absurd ⟨h1, h2⟩ he
          · have := List.length_pos_iff.2 h2; exact .inr (by omega)
        · have := List.length_pos_iff.2 h1; exact .inl (by omega)
      have Hor := hidd hor
      clear hor he
      go_upto_region 6 with fail
      go_cut [32] (fun c wy => c = .bool true ∧ wy = wr)
      case first =>
        cases h1 : decide (0 < A.length) with
        | true =>
          go_wp2_with fail
          go_meet
          case rel => exact ⟨rfl, rfl⟩
        | false =>
          have h2 : decide (0 < B.length) = true := by
            rw [decide_eq_false_iff_not] at h1
            rcases Hor.out with h | h
            · omega
            · exact decide_eq_true (by omega)
          go_wp2_with fail
          go_meet
          case rel => exact ⟨rfl, rfl⟩
      case rest =>
        obtain ⟨rfl, hww⟩ := hcut
        obtain rfl := hww.symm
        clear hww
        go_upto_region 7 with fail
        go_cut [49] (fun c wy => c = .bool pk ∧ ∃ q, wy = wr.drewN q)
        case first =>
          cases B with
          | nil =>
            have Hpk : Hid (true = pk) := by cases A <;> exact hpk
            clear hpk
            simp only [List.length_nil] at *
            go_wp2_with fail
            go_quiet (fail)
            go_wp2_with fail
            go_meet
            case rel => exact ⟨by rw [← Hpk.out], _, rfl⟩
          | cons b0 B2 =>
            have hb0 : (((b0 :: B2).length : Int) == 0) = false := by rw [beq_eq_false_iff_ne]; simp; omega
            cases A with
            | nil =>
              have Hpk : Hid (false = pk) := hpk
              clear hpk
              simp only [List.length_nil] at *
              generalize (b0 :: B2).length = lb at *
              go_wp2_with fail
              go_quiet (fail)
              go_wp2_with fail
              go_meet
              case rel => exact ⟨by rw [← Hpk.out], _, rfl⟩
            | cons a0 A2 =>
              have hle : decide (a0 ≤ b0) = pk := hpk
              obtain ⟨ga, offa, rfl, hga, hca'⟩ := hta.resolve_left (by simp)
              obtain ⟨gb, offb, rfl, hgb, hcb'⟩ := htb.resolve_left (by simp)
              have xa := (HW.out.cell (p := ⟨ga, offa + 0, none⟩) hga).trans (hca' 0 (by simp))
              have xb := (HW.out.cell (p := ⟨gb, offb + 0, none⟩) hgb).trans (hcb' 0 (by simp))
              simp only [Nat.add_zero, List.getD_cons_zero] at xa xb
              have ha0 : decide (((a0 :: A2).length : Int) > 0) = true := by simp
              have ha1 : (0 : Int) < ((a0 :: A2).length : Int) := by simp
              have hb1 : (0 : Int) < ((b0 :: B2).length : Int) := by simp
              clear hca' hcb' hpk
              generalize (a0 :: A2).length = la at *
              generalize (b0 :: B2).length = lb at *
              refine wp_region_held_drew (S := fun W1 => W1.cell? ⟨ga, offa, none⟩ = some (.int .i64 a0) ∧ W1.cell? ⟨gb, offb, none⟩ = some (.int .i64 b0)) (by kernel_rfl) ?_ (fun hHeld => ?_)
              · exact ⟨xa, xb⟩
              refine tkX 0 (h := ?_)
              refine tkX 1 (h := ?_)
              (simp only [Act.put, List.getElem_toArray, List.getElem_cons_succ, List.getElem_cons_zero, List.setIfInBounds_toArray, List.set_cons_zero, List.set_cons_succ])
              refine tkW 2 (v := .bool false) (hx := ?_) (h := ?_)
              · intro W1 _; go_simp
              (simp only [Act.put, List.getElem_toArray, List.getElem_cons_succ, List.getElem_cons_zero, List.setIfInBounds_toArray, List.set_cons_zero, List.set_cons_succ])
              refine tkX 3 (h := ?_)
              refine tkX 4 (h := ?_)
              refine tkX 5 (h := ?_)
              (simp only [Act.put, List.getElem_toArray, List.getElem_cons_succ, List.getElem_cons_zero, List.setIfInBounds_toArray, List.set_cons_zero, List.set_cons_succ])
              refine tkW 6 (v := .bool true) (hx := ?_) (h := ?_)
              · intro W1 _; go_simp; omega
              (simp only [Act.put, List.getElem_toArray, List.getElem_cons_succ, List.getElem_cons_zero, List.setIfInBounds_toArray, List.set_cons_zero, List.set_cons_succ])
              refine tkX 7 (h := ?_)
              refine tkX 8 (h := ?_)
              (simp only [Act.put, List.getElem_toArray, List.getElem_cons_succ, List.getElem_cons_zero, List.setIfInBounds_toArray, List.set_cons_zero, List.set_cons_succ])
              refine tkW 9 (v := .pointer (some ⟨ga, offa, none⟩)) (hx := fun W1 _ => exec_idx0 W1 _ _ _ _ rfl ga offa la ca (by kernel_rfl) (by kernel_rfl) (by omega)) (h := ?_)
              (simp only [Act.put, List.getElem_toArray, List.getElem_cons_succ, List.getElem_cons_zero, List.setIfInBounds_toArray, List.set_cons_zero, List.set_cons_succ])
              refine tkX 10 (v := .int .i64 a0) (h := ?_)
              refine tkX 11 (h := ?_)
              (simp only [Act.put, List.getElem_toArray, List.getElem_cons_succ, List.getElem_cons_zero, List.setIfInBounds_toArray, List.set_cons_zero, List.set_cons_succ])
              refine tkW 12 (v := .pointer (some ⟨gb, offb, none⟩)) (hx := fun W1 _ => exec_idx0 W1 _ _ _ _ rfl gb offb lb cb (by kernel_rfl) (by kernel_rfl) (by omega)) (h := ?_)
              (simp only [Act.put, List.getElem_toArray, List.getElem_cons_succ, List.getElem_cons_zero, List.setIfInBounds_toArray, List.set_cons_zero, List.set_cons_succ])
              refine tkX 13 (v := .int .i64 b0) (h := ?_)
              (simp only [Act.put, List.getElem_toArray, List.getElem_cons_succ, List.getElem_cons_zero, List.setIfInBounds_toArray, List.set_cons_zero, List.set_cons_succ])
              refine tkW 14 (v := .bool pk) (hx := ?_) (h := ?_)
              · intro W1 _; go_simp
              (simp only [Act.put, List.getElem_toArray, List.getElem_cons_succ, List.getElem_cons_zero, List.setIfInBounds_toArray, List.set_cons_zero, List.set_cons_succ])
              refine tkX 15 (h := ?_)
              refine tkX 16 (h := ?_)
              (simp only [Act.put, List.getElem_toArray, List.getElem_cons_succ, List.getElem_cons_zero, List.setIfInBounds_toArray, List.set_cons_zero, List.set_cons_succ])
              refine wpAnyH_done (by kernel_rfl) ?_ _
              go_wp2_with fail
              go_meet
              exact ⟨rfl, 1, rfl⟩
        case rest =>
          obtain ⟨rfl, q, hwq⟩ := hcut
          have HBq : Hid (Below wr.heap.size wr wc) := by rw [hwq]; exact below_drewN (Below.refl _ _) q
          have HOc := hidd (own_below HO.out HBq.out)
          have Hwc := hidd (HW.out.trans (HBq.out.mono hzz))
          have hzc : w2.heap.size ≤ wc.heap.size := Hwc.out.size
          clear hwq HO HW hta htb HBq
          have hla : A.length ≤ 100000 := by omega
          have hlb : B.length ≤ 100000 := by omega
          have HmeasA : Hid (∀ x : List Int, x.length + 1 = A.length → x.length + B.length < A.length + B.length) := fun x h => by omega
          have HmeasB : Hid (∀ x : List Int, x.length + 1 = B.length → A.length + x.length < A.length + B.length) := fun x h => by omega
          cases pk with
          | true =>
            obtain ⟨x0, X2, hX⟩ : ∃ x0 X2, A = x0 :: X2 := by
              cases A with
              | cons x0 X2 => exact ⟨x0, X2, rfl⟩
              | nil =>
                cases B with
                | nil => rcases Hor.out with h | h <;> simp at h
                | cons y0 Y2 => cases hpk
            have hyb : ∀ y, B.head? = some y → x0 ≤ y := by
              intro y hy
              cases B with
              | nil => cases hy
              | cons y0 Y2 =>
                rw [hX] at hpk
                have h1 : decide (x0 ≤ y0) = true := hpk
                simp at h1 hy
                omega
            have HMt : Hid (Mgz zs X2 B (O ++ [x0])) := Mgz.take (by rw [← hX]; exact HM.out) hyb
            obtain ⟨s', cw', e1, e2, e3⟩ := HA.out
            simp only [Value.slice.injEq] at e1
            obtain ⟨rfl, _, rfl⟩ := e1
            have hXp : 0 < A.length := by rw [hX]; simp
            have hXpz : (0 : Int) < (A.length : Int) := by omega
            obtain ⟨ga, offa, rfl, hga, hca'⟩ := e3.resolve_left (fun h => by rw [h] at hXp; simp at hXp)
            have xa := (Hwc.out.cell (p := ⟨ga, offa + 0, none⟩) hga).trans (hca' 0 hXp)
            rw [Nat.add_zero] at xa
            have hgd : A.getD 0 0 = x0 := by rw [hX]; rfl
            rw [hgd] at xa
            have Hdr : Hid (A.drop 1 = X2) := by show _ = _; rw [hX]; rfl
            have hll : X2.length + 1 = A.length := by rw [hX]; rfl
            have HLL := hidd hll
            have hOl : O.length ≤ 1048576 := by omega
            clear hca' e2 e3 hgd hX hpk hyb Hor hll
            go_wp2_with (at_builtin; refine wpSz_push rfl _ _ rfl w2.heap.size _ O rfl HOc.out x0 rfl hOl hzc ?_)
            intro g6 c6 w6 h6 hb6 hat6
            have HO6 := hidd h6
            have HB6 : Hid (Below w2.heap.size w2 w6) := Hwc.out.trans (but_below HOc.out hzc hb6)
            have hz6 : w2.heap.size ≤ w6.heap.size := HB6.out.size
            clear h6 hb6 hat6
            have hlo : (O ++ [x0]).length + (X2.length + B.length) ≤ 100000 := by have := HLL.out; simp; omega
            have Hlo := hidd hlo
            generalize hOO : O ++ [x0] = O2 at *
            have HL2 : Hid (O2.length = O.length + 1) := by show _ = _; rw [← hOO]; simp
            clear hOO hlo
            go_upto_region 9 with fail
            generalize hva : Value.slice (some ⟨ga, offa, none⟩) A.length ca = va at *
            clear hva
            go_wp2_with (first | (refine wpSz_from rfl _ _ rfl va A 1 rfl rfl HA.out hXp (Nat.le_refl _) (by omega) ?_; intro v6 hv6; have HS6 := hidd hv6; clear hv6))
            go_roundw
            case rel => exact ⟨X2, B, O2, g6, c6, HMt.out, by rw [← Hdr.out]; exact HS6.out, HB.out, by rw [HL2.out], by rw [HL2.out]; exact HO6.out, HB6.out, Hlo.out⟩
            case measure => have h1 := HS6.out.len; rw [Hdr.out] at h1; have := HLL.out; simp [lenV] at *; omega
          | false =>
            obtain ⟨x0, X2, hX⟩ : ∃ x0 X2, B = x0 :: X2 := by
              cases B with
              | cons x0 X2 => exact ⟨x0, X2, rfl⟩
              | nil =>
                cases A with
                | nil => rcases Hor.out with h | h <;> simp at h
                | cons y0 Y2 => cases hpk
            have hyb : ∀ y, A.head? = some y → x0 ≤ y := by
              intro y hy
              cases A with
              | nil => cases hy
              | cons y0 Y2 =>
                rw [hX] at hpk
                have h1 : decide (y0 ≤ x0) = false := hpk
                simp at h1 hy
                omega
            have HMt : Hid (Mgz zs A X2 (O ++ [x0])) := (Mgz.take (by rw [← hX]; exact HM.out.swap) hyb).swap
            obtain ⟨s', cw', e1, e2, e3⟩ := HB.out
            simp only [Value.slice.injEq] at e1
            obtain ⟨rfl, _, rfl⟩ := e1
            have hXp : 0 < B.length := by rw [hX]; simp
            have hXpz : (0 : Int) < (B.length : Int) := by omega
            obtain ⟨ga, offa, rfl, hga, hca'⟩ := e3.resolve_left (fun h => by rw [h] at hXp; simp at hXp)
            have xa := (Hwc.out.cell (p := ⟨ga, offa + 0, none⟩) hga).trans (hca' 0 hXp)
            rw [Nat.add_zero] at xa
            have hgd : B.getD 0 0 = x0 := by rw [hX]; rfl
            rw [hgd] at xa
            have Hdr : Hid (B.drop 1 = X2) := by show _ = _; rw [hX]; rfl
            have hll : X2.length + 1 = B.length := by rw [hX]; rfl
            have HLL := hidd hll
            have hOl : O.length ≤ 1048576 := by omega
            clear hca' e2 e3 hgd hX hpk hyb Hor hll
            go_wp2_with (at_builtin; refine wpSz_push rfl _ _ rfl w2.heap.size _ O rfl HOc.out x0 rfl hOl hzc ?_)
            intro g6 c6 w6 h6 hb6 hat6
            have HO6 := hidd h6
            have HB6 : Hid (Below w2.heap.size w2 w6) := Hwc.out.trans (but_below HOc.out hzc hb6)
            have hz6 : w2.heap.size ≤ w6.heap.size := HB6.out.size
            clear h6 hb6 hat6
            have hlo : (O ++ [x0]).length + (A.length + X2.length) ≤ 100000 := by have := HLL.out; simp; omega
            have Hlo := hidd hlo
            generalize hOO : O ++ [x0] = O2 at *
            have HL2 : Hid (O2.length = O.length + 1) := by show _ = _; rw [← hOO]; simp
            clear hOO hlo
            go_upto_region 11 with fail
            generalize hva : Value.slice (some ⟨ga, offa, none⟩) B.length cb = va at *
            clear hva
            go_wp2_with (first | (refine wpSz_from rfl _ _ rfl va B 1 rfl rfl HB.out hXp (Nat.le_refl _) (by omega) ?_; intro v6 hv6; have HS6 := hidd hv6; clear hv6))
            go_roundw
            case rel => exact ⟨A, X2, O2, g6, c6, HMt.out, HA.out, by rw [← Hdr.out]; exact HS6.out, by rw [HL2.out], by rw [HL2.out]; exact HO6.out, HB6.out, Hlo.out⟩
            case measure => have h1 := HS6.out.len; rw [Hdr.out] at h1; have := HLL.out; simp [lenV] at *; omega
theorem sort_any (zs : List Int) (v : Value) (w : World) (hl : zs.length ≤ 100000) (h : SzI w v zs) :
    Calls Try.prog 29 #[v] w fun e w' => ∃ g c, e = .returned (.slice (some ⟨g, 0, none⟩) zs.length c) ∧ w'.ownsRow w.heap.size 3 1 (.slice (some ⟨g, 0, none⟩) zs.length c) zs.length (zI (srtZ zs)) ∧ Below w.heap.size w w' :=
  (Nat.strongRecOn (motive := SortC) zs.length sort_step) zs v w (Nat.le_refl _) hl h
end Go.Proofs.Ytboocdiilbcdcaa
