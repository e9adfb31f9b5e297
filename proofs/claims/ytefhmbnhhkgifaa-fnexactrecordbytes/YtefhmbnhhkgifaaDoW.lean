import Derived.Test.YtefhmbnhhkgifaaDoV
namespace Go.Proofs.Ytefhmbnhhkgifaa
open Go Go.RowKit
set_option linter.unusedVariables false
set_option maxRecDepth 100000

theorem StrV.at {W : World} {g : Nat} {ls : List (Nat × Nat)} (h : StrV W g ls) {j : Nat} (hj : j < ls.length) : ∃ cs u gt ct gn cn, W.heap[g]? = some (Obj.cells cs 65) ∧ W.cell? ⟨g, j * 3, none⟩ = some u ∧ W.cell? ⟨g, j * 3 + 1, none⟩ = some (.slice (some ⟨gt, 0, none⟩) (ls.getD j (0, 0)).1 ct) ∧ g < gt ∧ RowN W gt (ls.getD j (0, 0)).1 9 ∧ W.cell? ⟨g, j * 3 + 2, none⟩ = some (.slice (some ⟨gn, 0, none⟩) (ls.getD j (0, 0)).2 cn) ∧ g < gn ∧ RowN W gn (ls.getD j (0, 0)).2 3 := by
  obtain ⟨cs, h1, h2, h3⟩ := h
  obtain ⟨gt, ct, gn, cn, a1, a2, a3, a4, a5, a6⟩ := h3 j hj
  exact ⟨cs, cs[j * 3]'(by omega), gt, ct, gn, cn, h1, (blkc h1 (j * 3)).trans (Array.getElem?_eq_getElem (by omega)), (blkc h1 (j * 3 + 1)).trans a1, a2, a3, (blkc h1 (j * 3 + 2)).trans a4, a5, a6⟩
theorem DocAt.str {w : World} {g : Nat} {V : List Vl} (h : DocAt w g V) : StrV w g (V.map fun v => (v.2.1.length, v.2.2.length)) := by
  obtain ⟨cs, h1, h2, h3⟩ := h
  refine ⟨cs, h1, by rw [List.length_map]; exact h2, fun j hj => ?_⟩
  rw [List.length_map] at hj
  have e : (V.map fun v => (v.2.1.length, v.2.2.length)).getD j (0, 0) = ((V.getD j vl0).2.1.length, (V.getD j vl0).2.2.length) := by simp [List.getD_eq_getElem?_getD, hj]
  rw [e]
  obtain ⟨_, ⟨gt, ct, q1, q2, cu, q3, q4, _⟩, gn, cn, q5, q6, cv, q7, q8, _⟩ := h3 j hj
  exact ⟨gt, ct, gn, cn, q1, q2, ⟨cu, q3, q4⟩, q5, q6, ⟨cv, q7, q8⟩⟩
/-- What marking does. -/
def MarkV (w : World) (g : Nat) (e : Ending) (w' : World) : Prop := ∃ k : Nat, e = .returned (.int .i64 (k : Int)) ∧ Fv w w' g
set_option maxHeartbeats 1000000 in
theorem markVals_any (g c : Nat) (ls : List (Nat × Nat)) (w : World) (hn : ls.length ≤ 1048576) (hl : ∀ i, (ls.getD i (0, 0)).1 ≤ 1048576 ∧ (ls.getD i (0, 0)).2 ≤ 1048576) (h : StrV w g ls) :
    Calls Try.prog 41 #[.slice (some ⟨g, 0, none⟩) ls.length c, .int .i64 1] w fun e w' => MarkV w g e w' := by
  have HS := hidd h
  have HL := hidd hl
  clear h hl
  go_enter Try.func41, Try.ntmps41
  go_wp2
  go_loopw [1, 5] (fun kv iv wr => ∃ i k : Nat, i ≤ ls.length ∧ iv = .int .i64 (i : Int) ∧ kv = .int .i64 (k : Int) ∧ 1 ≤ k ∧ k ≤ 1 + i * 2097153 ∧ Fv w wr g) (fun _ iv _ => ls.length - (intOf iv).toNat)
  case atStart => exact ⟨0, 1, Nat.zero_le _, rfl, rfl, by omega, by omega, Fv.refl _ _⟩
  case round =>
    obtain ⟨i, k, hi, rfl, rfl, hk0, hk, hfz⟩ := hrel
    have HF := hidd hfz
    clear hfz
    by_cases hlt : i < ls.length
    · have hltz : (i : Int) < (ls.length : Int) := by omega
      have hkb : k ≤ 2199025352704 := by
        have : i * 2097153 ≤ 1048575 * 2097153 := Nat.mul_le_mul_right _ (by omega)
        omega
      have HM := hidd (fun W => markText_any (k : Int) W (by omega) (by omega))
      have hle := HL.out i
      obtain ⟨pp, hpp⟩ : ∃ pp, ls.getD i (0, 0) = pp := ⟨_, rfl⟩
      have Hpp := hidd hpp
      rw [hpp] at hle
      clear hpp
      obtain ⟨n1, n2⟩ := pp
      dsimp only at hle
      generalize mkText (k : Int) = T at HM
      obtain ⟨cs0, u0, gt0, ct0, gn0, cn0, _, z0, _, _, _, _, _, _⟩ := (HF.out.str _ _ HS.out).at hlt
      go_wp2_with fail
      refine (HM.out _).mono ?_
      rintro e w2 ⟨rfl, hb2⟩
      have HF2 := hidd (HF.out.trans (Fv.of hb2 g))
      clear hb2 HM z0
      obtain ⟨cs, u, gt, ct, gn, cn, h1, q0, q1, hgt, hrt, q2, hgn, hrn⟩ := (HF2.out.str _ _ HS.out).at hlt
      rw [Hpp.out] at q1 q2 hrt hrn
      dsimp only at q1 q2 hrt hrn
      have f0 := blkf h1 (i * 3)
      have Hz := hidd (Fv.setV (i := i) (.string T) h1 (Nat.le_refl g))
      have H1 := hidd h1
      have r1 : (w2.setCell ⟨g, i * 3, none⟩ (.string T)).cell? ⟨g, i * 3 + 1, none⟩ = some (.slice (some ⟨gt, 0, none⟩) n1 ct) := by
        rw [blkc (blk_setk h1 (i * 3) (.string T)) (i * 3 + 1), Array.getElem?_setIfInBounds_ne (by omega), ← blkc h1 (i * 3 + 1)]
        exact q1
      have Hrt := hidd (Hz.out.row _ _ _ hrt (Or.inl rfl))
      clear h1 hrt hrn q1 q2 hgn
      dsimp only
      go_upto_region 6 with fail
      obtain ⟨ws, hws⟩ : ∃ ws, w2.setCell ⟨g, i * 3, none⟩ (.string T) = ws := ⟨_, rfl⟩
      rw [hws] at Hz r1 Hrt
      try rw [hws]
      clear hws q0 f0 H1
      have HF3 := hidd (HF2.out.trans Hz.out)
      clear HF2 Hz
      have hle1 := hle.1
      have hle2 := hle.2
      clear hle
      have HM1 := hidd (markTx_any gt n1 ct (k + 1) ws hle1 (by omega) (by omega) Hrt.out)
      rw [show ((k + 1 : Nat) : Int) = (k : Int) + 1 from by omega] at HM1
      go_wp2_with fail
      refine HM1.out.mono ?_
      rintro e w3 ⟨rfl, hf3⟩
      have HF4 := hidd (HF3.out.trans (hf3.mono (by omega)))
      clear hf3 HM1 r1 Hrt
      obtain ⟨cs3, u3, gt3, ct3, gn3, cn3, _, _, _, _, _, r2, hgn3, hrn3⟩ := (HF4.out.str _ _ HS.out).at hlt
      rw [Hpp.out] at r2 hrn3
      dsimp only at r2 hrn3
      have HM2 := hidd (markNz_any gn3 n2 cn3 (k + 1 + n1) w3 hle2 (by omega) hrn3)
      clear hrn3
      dsimp only
      go_wp2_with fail
      refine HM2.out.mono ?_
      rintro e w5 ⟨rfl, hf5⟩
      have HF5 := hidd (HF4.out.trans (hf5.mono (by omega)))
      clear hf5 HM2 r2
      dsimp only
      go_wp2_with fail
      go_roundw
      case rel => exact ⟨i + 1, k + 1 + n1 + n2, by omega, by go_num, rfl, by omega, by omega, HF5.out⟩
      case measure => simp [intOf]; omega
    · have hltz : ¬ (i : Int) < (ls.length : Int) := by omega
      go_wp2
      go_ret
      exact ⟨k, rfl, HF.out⟩
set_option maxHeartbeats 1000000 in
theorem markDoc_any (id : List UInt8) (g cap : Nat) (ls : List (Nat × Nat)) (w : World) (hn : ls.length ≤ 1048576) (hl : ∀ i, (ls.getD i (0, 0)).1 ≤ 1048576 ∧ (ls.getD i (0, 0)).2 ≤ 1048576) (h : StrV w g ls) :
    Calls Try.prog 23 #[.agg #[.string ⟨id.toArray⟩, .slice (some ⟨g, 0, none⟩) ls.length cap], .int .i64 1] w fun e w' => ∃ k : Nat, e = .returned (.int .i64 (k : Int)) ∧ Fv (w.alloc (.cells #[.string ⟨id.toArray⟩, .slice (some ⟨g, 0, none⟩) ls.length cap] 33)) w' g := by
  have HM := hidd (markVals_any g cap ls (w.alloc (.cells #[.string ⟨id.toArray⟩, .slice (some ⟨g, 0, none⟩) ls.length cap] 33)) hn hl ((Fv.of ((Below.refl _ _).alloc (Nat.le_refl _) _) g).str _ _ h))
  clear h hl
  go_enter Try.func23, Try.ntmps23
  go_wp2_with fail
  refine HM.out.mono ?_
  rintro e w2 ⟨k, rfl, hf⟩
  have HF := hidd hf
  clear hf
  dsimp only
  go_wp2_with fail
  go_ret
  exact ⟨k, rfl, HF.out⟩
end Go.Proofs.Ytefhmbnhhkgifaa
