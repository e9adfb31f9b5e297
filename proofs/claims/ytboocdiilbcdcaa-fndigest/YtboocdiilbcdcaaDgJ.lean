import Derived.Test.YtboocdiilbcdcaaDgN
namespace Go.Proofs.Ytboocdiilbcdcaa
open Go Go.RowKit
set_option linter.unusedVariables false
set_option linter.unusedSimpArgs false
set_option maxRecDepth 100000

/-! impl.merged: two rising lists as one. -/
theorem wpSz_appN {ops : Array Oper} {rest : List Oper} {o : Oper} {a : Act} {w : World} {Q : Exit → Act → World → Prop} (hgd : o.guard = none) (s x : Operand) (ho : o.op = .call { callee := .builtin .append, args := #[s, x], argTypes := #[23, 23] })
    (base g c n : Nat) (xs : List Int) (hn : Hid (n = xs.length)) (hs : a.eval s = .slice (some ⟨g, 0, none⟩) n c) (hown : w.ownsRow base 3 1 (.slice (some ⟨g, 0, none⟩) xs.length c) xs.length (zI xs))
    (v2 : Value) (zs : List Int) (hx : a.eval x = v2) (hrow : SzI w v2 zs) (hnm : xs.length + zs.length ≤ 1048576) (hbase : base ≤ w.heap.size)
    (h : ∀ g' c' w' N, Hid (N = (xs ++ zs).length) → w'.ownsRow base 3 1 (.slice (some ⟨g', 0, none⟩) (xs ++ zs).length c') (xs ++ zs).length (zI (xs ++ zs)) → w.grownBy w' (some g) → (g' = g ∨ w.heap.size ≤ g') → wpList Try.prog ops Q rest (a.put o.dst (.slice (some ⟨g', 0, none⟩) N c')) w') :
    wpList Try.prog ops Q (o :: rest) a w := by
  have e := hn.out
  subst e
  exact wpSz_app hgd s x ho base g c xs hs hown v2 zs hx hrow hnm hbase (fun g' c' w' h1 h2 h3 => h g' c' w' _ (hidd rfl) h1 h2 h3)
theorem grown_b {w0 W w' : World} {B g : Nat} (hb : Below B w0 W) (hB : B ≤ W.heap.size) (hg : W.grownBy w' (some g)) (hBg : B ≤ g) : Below B w0 w' := hb.grown hg hB (fun k hk => by cases hk; exact hBg)
set_option maxHeartbeats 16000000 in
theorem merged_any (L A0 B0 : List Int) (va vb : Value) (w : World) (hm : Mgz L A0 B0 []) (hl : A0.length + B0.length ≤ 100000) (ha : SzI w va A0) (hb : SzI w vb B0) :
    Calls Try.prog 37 #[va, vb] w fun e w' => ∃ g c, e = .returned (.slice (some ⟨g, 0, none⟩) L.length c) ∧ w'.ownsRow w.heap.size 3 1 (.slice (some ⟨g, 0, none⟩) L.length c) L.length (zI (srtZ L)) ∧ Below w.heap.size w w' := by
  obtain ⟨i0, hi, hz0, hz1, hz2⟩ := info_parts Try.infoIntL
  have HM0 := hidd hm
  have HA0 := hidd ha
  have HB0 := hidd hb
  obtain ⟨sa0, ca0, rfl, -, -⟩ := ha
  obtain ⟨sb0, cb0, rfl, -, -⟩ := hb
  clear hm
  obtain ⟨N, hN⟩ : ∃ N : Nat, (A0.length : Int) + (B0.length : Int) = (N : Int) := ⟨A0.length + B0.length, by omega⟩
  have hNl : N ≤ 100000 := by omega
  have HN := hidd hN
  go_enter Try.func37, Try.ntmps37
  go_wp2_with (at_make; refine wpList_make_own _ rfl _ _ 23 rfl w.heap.size 3 i0 (.int .i64 0) 1 Try.underlying23 hi hz0 hz1 _ _ _ N rfl rfl (by omega) ?b2 ?b3 (Nat.le_refl _) ?_)
  case b2 => rw [hz2]; omega
  case b3 => unfold maxLen; omega
  intro w0 hown0 hgrow0
  have HO0 := hidd hown0
  have HW0 : Hid (Below w.heap.size w w0) := (Below.refl _ _).grown hgrow0 (Nat.le_refl _) (fun k h => by cases h)
  clear hown0 hgrow0 hN
  go_wp2_with fail
  go_loopw [0, 1, 5] (fun va vb vo wr => ∃ (A B O : List Int) (g5 c5 : Nat), Mgz L A B O ∧ SzI w va A ∧ SzI w vb B ∧ vo = .slice (some ⟨g5, 0, none⟩) O.length c5 ∧ wr.ownsRow w.heap.size 3 1 (.slice (some ⟨g5, 0, none⟩) O.length c5) O.length (zI O) ∧ Below w.heap.size w wr ∧ w.heap.size ≤ g5 ∧ O.length + (A.length + B.length) ≤ 100000) (fun va vb _ _ => lenV va + lenV vb)
  case atStart => exact ⟨A0, B0, [], _, _, HM0.out, HA0.out, HB0.out, rfl, HO0.out, HW0.out, Nat.le_refl _, by simp; omega⟩
  case round =>
    obtain ⟨A, B, O, g5, c5, hmg, hsa, hsb, rfl, hown, hbel, hg5w, hlen⟩ := hrel
    clear HA0 HB0 HO0 HW0 HM0
    have HM := hidd hmg
    have HA := hidd hsa
    have HB := hidd hsb
    have HO := hidd hown
    have HW := hidd hbel
    obtain ⟨sa, ca, rfl, hca, hta⟩ := hsa
    obtain ⟨sb, cb, rfl, hcb, htb⟩ := hsb
    have hzz : w.heap.size ≤ wr.heap.size := hbel.size
    clear hmg hown hbel
    by_cases hA : 0 < A.length
    · have h1 : decide (0 < A.length) = true := decide_eq_true hA
      by_cases hB : 0 < B.length
      · have h2 : decide (0 < B.length) = true := decide_eq_true hB
        obtain ⟨a0, A2, hAe⟩ : ∃ a0 A2, A = a0 :: A2 := by
          cases A with
          | cons a0 A2 => exact ⟨a0, A2, rfl⟩
          | nil => simp at hA
        obtain ⟨b0, B2, hBe⟩ : ∃ b0 B2, B = b0 :: B2 := by
          cases B with
          | cons a0 A2 => exact ⟨a0, A2, rfl⟩
          | nil => simp at hB
        obtain ⟨ga, offa, rfl, hga, hca'⟩ := hta.resolve_left (fun h => by rw [h] at hA; simp at hA)
        obtain ⟨gb, offb, rfl, hgb, hcb'⟩ := htb.resolve_left (fun h => by rw [h] at hB; simp at hB)
        have xa := (HW.out.cell (p := ⟨ga, offa + 0, none⟩) hga).trans (hca' 0 hA)
        have xb := (HW.out.cell (p := ⟨gb, offb + 0, none⟩) hgb).trans (hcb' 0 hB)
        have ea : A.getD 0 0 = a0 := by rw [hAe]; rfl
        have eb : B.getD 0 0 = b0 := by rw [hBe]; rfl
        rw [Nat.add_zero, ea] at xa
        rw [Nat.add_zero, eb] at xb
        have hAz : (0 : Int) < (A.length : Int) := by omega
        have hBz : (0 : Int) < (B.length : Int) := by omega
        have hOl : O.length ≤ 1048576 := by omega
        have hla : A.length ≤ 1048576 := by omega
        have hlb : B.length ≤ 1048576 := by omega
        clear hca' hcb' ea eb
        by_cases hlt : b0 < a0
        · have hltb : decide (b0 < a0) = true := decide_eq_true hlt
          have HMt : Hid (Mgz L B2 A (O ++ [b0])) := Mgz.take (by rw [← hBe]; exact HM.out.swap) (by rw [hAe]; intro y hy; simp at hy; omega)
          have Hdr : Hid (B.drop 1 = B2) := by show _ = _; rw [hBe]; rfl
          have HLL : Hid (B2.length + 1 = B.length) := by show _ = _; rw [hBe]; rfl
          have hXp : 0 < B.length := by have := HLL.out; omega
          clear hAe hBe hlt
          go_wp2_with fail
          go_quiet (fail)
          have HOd := hidd (own_drewN HO.out nq)
          have HWd := hidd (below_drewN HW.out nq)
          have hzd : w.heap.size ≤ (wr.drewN nq).heap.size := HWd.out.size
          have xd : (wr.drewN nq).cell? ⟨gb, offb, none⟩ = some (.int .i64 b0) := by simpa using xb
          generalize wr.drewN nq = wd at *
          clear xa xb
          go_wp2_with (at_builtin; refine wpSz_push rfl _ _ rfl w.heap.size _ O rfl HOd.out b0 rfl hOl hzd ?_)
          intro g6 c6 w6 h6 hb6 hat6
          have HO6 := hidd h6
          have HB6 : Hid (Below w.heap.size w w6) := HWd.out.trans (but_below HOd.out hzd hb6)
          have hg6w : w.heap.size ≤ g6 := by rcases hat6 with h | h
                                             · have := own_block HOd.out g6 h; omega
                                             · omega
          clear h6 hb6 hat6
          generalize hOO : O ++ [b0] = O2 at *
          have HL2 : Hid (O2.length = O.length + 1) := by show _ = _; rw [← hOO]; simp
          clear hOO
          go_upto_region 6 with fail
          generalize hva : Value.slice (some ⟨gb, offb, none⟩) B.length cb = vx at *
          clear hva
          go_wp2_with (first | (refine wpSz_from rfl _ _ rfl vx B 1 rfl rfl HB.out hXp (Nat.le_refl _) (by omega) ?_; intro v6 hv6; have HS6 := hidd hv6; clear hv6))
          go_roundw
          case rel => exact ⟨B2, A, O2, g6, c6, HMt.out, by rw [← Hdr.out]; exact HS6.out, HA.out, by rw [HL2.out], by rw [HL2.out]; exact HO6.out, HB6.out, hg6w, by have := HL2.out; have := HLL.out; omega⟩
          case measure => have h1 := HS6.out.len; rw [Hdr.out] at h1; have := HLL.out; simp [lenV] at *; omega
        · have hltb : decide (b0 < a0) = false := decide_eq_false hlt
          have HMt : Hid (Mgz L A2 B (O ++ [a0])) := Mgz.take (by rw [← hAe]; exact HM.out) (by rw [hBe]; intro y hy; simp at hy; omega)
          have Hdr : Hid (A.drop 1 = A2) := by show _ = _; rw [hAe]; rfl
          have HLL : Hid (A2.length + 1 = A.length) := by show _ = _; rw [hAe]; rfl
          have hXp : 0 < A.length := by have := HLL.out; omega
          clear hAe hBe hlt
          go_wp2_with fail
          go_quiet (fail)
          have HOd := hidd (own_drewN HO.out nq)
          have HWd := hidd (below_drewN HW.out nq)
          have hzd : w.heap.size ≤ (wr.drewN nq).heap.size := HWd.out.size
          have xd : (wr.drewN nq).cell? ⟨ga, offa, none⟩ = some (.int .i64 a0) := by simpa using xa
          generalize wr.drewN nq = wd at *
          clear xa xb
          go_wp2_with (at_builtin; refine wpSz_push rfl _ _ rfl w.heap.size _ O rfl HOd.out a0 rfl hOl hzd ?_)
          intro g6 c6 w6 h6 hb6 hat6
          have HO6 := hidd h6
          have HB6 : Hid (Below w.heap.size w w6) := HWd.out.trans (but_below HOd.out hzd hb6)
          have hg6w : w.heap.size ≤ g6 := by rcases hat6 with h | h
                                             · have := own_block HOd.out g6 h; omega
                                             · omega
          clear h6 hb6 hat6
          generalize hOO : O ++ [a0] = O2 at *
          have HL2 : Hid (O2.length = O.length + 1) := by show _ = _; rw [← hOO]; simp
          clear hOO
          go_upto_region 6 with fail
          generalize hva : Value.slice (some ⟨ga, offa, none⟩) A.length ca = vx at *
          clear hva
          go_wp2_with (first | (refine wpSz_from rfl _ _ rfl vx A 1 rfl rfl HA.out hXp (Nat.le_refl _) (by omega) ?_; intro v6 hv6; have HS6 := hidd hv6; clear hv6))
          go_roundw
          case rel => exact ⟨A2, B, O2, g6, c6, HMt.out, by rw [← Hdr.out]; exact HS6.out, HB.out, by rw [HL2.out], by rw [HL2.out]; exact HO6.out, HB6.out, hg6w, by have := HL2.out; have := HLL.out; omega⟩
          case measure => have h1 := HS6.out.len; rw [Hdr.out] at h1; have := HLL.out; simp [lenV] at *; omega
      · have h2 : decide (0 < B.length) = false := decide_eq_false hB
        have hBn : B = [] := List.length_eq_zero_iff.1 (by omega)
        go_upto_region 7 with fail
        generalize hva : Value.slice sa A.length ca = va at *
        generalize hvb : Value.slice sb B.length cb = vb at *
        have HAw := hidd (HA.out.below HW.out)
        have HBw := hidd (HB.out.below HW.out)
        clear hva hvb
        have hlO : O.length + A.length ≤ 1048576 := by omega
        have HnO : Hid (O.length = O.length) := rfl
        have HE : Hid (O ++ A ++ B = srtZ L) := by show _ = _; rw [List.append_assoc]; exact HM.out.done (Or.inr hBn)
        have HL6 : Hid ((O ++ A).length = O.length + A.length) := by show _ = _; simp
        clear hBn
        go_wp2_with (at_builtin; refine wpSz_appN rfl _ _ rfl w.heap.size g5 c5 _ O HnO rfl HO.out va A rfl HAw.out hlO hzz ?_)
        intro g6 c6 w6 N6 hN6 h6 hg6 hat6
        have HO6 : Hid (w6.ownsRow w.heap.size 3 1 (.slice (some ⟨g6, 0, none⟩) (O ++ A).length c6) (O ++ A).length (zI (O ++ A))) := by first | exact h6 | (show World.ownsRow _ _ _ _ _ _ _; simpa using h6)
        have HN6 : Hid (N6 = (O ++ A).length) := by first | exact hN6 | (show _ = _; have := hN6.out; simpa using this)
        have HB6 := hidd (grown_b HW.out hzz hg6 hg5w)
        have hz6 : w.heap.size ≤ w6.heap.size := HB6.out.size
        have hg6w : w.heap.size ≤ g6 := by rcases hat6 with h | h <;> omega
        have HBw6 := hidd (HB.out.below HB6.out)
        have hlO6 : (O ++ A).length + B.length ≤ 1048576 := by rw [HL6.out]; omega
        clear h6 hg6 hat6 hN6
        generalize hOA : O ++ A = OA at *
        clear hOA
        go_wp2_with (at_builtin; refine wpSz_appN rfl _ _ rfl w.heap.size g6 c6 _ OA HN6 rfl HO6.out vb B rfl HBw6.out hlO6 hz6 ?_)
        intro g7 c7 w7 N7 hN7 h7 hg7 hat7
        have HB7 := hidd (grown_b HB6.out hz6 hg7 hg6w)
        have HO7 : Hid (w7.ownsRow w.heap.size 3 1 (.slice (some ⟨g7, 0, none⟩) (OA ++ B).length c7) (OA ++ B).length (zI (OA ++ B))) := by first | exact h7 | (show World.ownsRow _ _ _ _ _ _ _; simpa using h7)
        have HN7 : Hid (N7 = (OA ++ B).length) := by first | exact hN7 | (show _ = _; have := hN7.out; simpa using this)
        clear h7 hg7 hat7 hN7
        rw [HE.out, srtZ_len] at HO7 HN7
        go_wp2_with fail
        go_ret
        refine ⟨g7, c7, ?_, HO7.out, HB7.out⟩
        show Ending.returned (Value.slice (some ⟨g7, 0, none⟩) N7 c7) = _
        rw [HN7.out]
    · have h1 : decide (0 < A.length) = false := decide_eq_false hA
      have hAn : A = [] := List.length_eq_zero_iff.1 (by omega)
      go_upto_region 7 with fail
      generalize hva : Value.slice sa A.length ca = va at *
      generalize hvb : Value.slice sb B.length cb = vb at *
      have HAw := hidd (HA.out.below HW.out)
      have HBw := hidd (HB.out.below HW.out)
      clear hva hvb
      have hlO : O.length + A.length ≤ 1048576 := by omega
      have HnO : Hid (O.length = O.length) := rfl
      have HE : Hid (O ++ A ++ B = srtZ L) := by show _ = _; rw [List.append_assoc]; exact HM.out.done (Or.inl hAn)
      have HL6 : Hid ((O ++ A).length = O.length + A.length) := by show _ = _; simp
      clear hAn
      go_wp2_with (at_builtin; refine wpSz_appN rfl _ _ rfl w.heap.size g5 c5 _ O HnO rfl HO.out va A rfl HAw.out hlO hzz ?_)
      intro g6 c6 w6 N6 hN6 h6 hg6 hat6
      have HO6 : Hid (w6.ownsRow w.heap.size 3 1 (.slice (some ⟨g6, 0, none⟩) (O ++ A).length c6) (O ++ A).length (zI (O ++ A))) := by first | exact h6 | (show World.ownsRow _ _ _ _ _ _ _; simpa using h6)
      have HN6 : Hid (N6 = (O ++ A).length) := by first | exact hN6 | (show _ = _; have := hN6.out; simpa using this)
      have HB6 := hidd (grown_b HW.out hzz hg6 hg5w)
      have hz6 : w.heap.size ≤ w6.heap.size := HB6.out.size
      have hg6w : w.heap.size ≤ g6 := by rcases hat6 with h | h <;> omega
      have HBw6 := hidd (HB.out.below HB6.out)
      have hlO6 : (O ++ A).length + B.length ≤ 1048576 := by rw [HL6.out]; omega
      clear h6 hg6 hat6 hN6
      generalize hOA : O ++ A = OA at *
      clear hOA
      go_wp2_with (at_builtin; refine wpSz_appN rfl _ _ rfl w.heap.size g6 c6 _ OA HN6 rfl HO6.out vb B rfl HBw6.out hlO6 hz6 ?_)
      intro g7 c7 w7 N7 hN7 h7 hg7 hat7
      have HB7 := hidd (grown_b HB6.out hz6 hg7 hg6w)
      have HO7 : Hid (w7.ownsRow w.heap.size 3 1 (.slice (some ⟨g7, 0, none⟩) (OA ++ B).length c7) (OA ++ B).length (zI (OA ++ B))) := by first | exact h7 | (show World.ownsRow _ _ _ _ _ _ _; simpa using h7)
      have HN7 : Hid (N7 = (OA ++ B).length) := by first | exact hN7 | (show _ = _; have := hN7.out; simpa using this)
      clear h7 hg7 hat7 hN7
      rw [HE.out, srtZ_len] at HO7 HN7
      go_wp2_with fail
      go_ret
      refine ⟨g7, c7, ?_, HO7.out, HB7.out⟩
      show Ending.returned (Value.slice (some ⟨g7, 0, none⟩) N7 c7) = _
      rw [HN7.out]
end Go.Proofs.Ytboocdiilbcdcaa
