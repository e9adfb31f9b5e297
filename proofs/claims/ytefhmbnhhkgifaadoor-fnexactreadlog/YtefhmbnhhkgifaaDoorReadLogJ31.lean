import Derived.Test.YtefhmbnhhkgifaaDoorReadLogJ30
namespace Go.Proofs.YtefhmbnhhkgifaaDoor
open Go Go.RowKit
set_option linter.unusedVariables false
set_option linter.unusedSimpArgs false
set_option maxRecDepth 100000

/-- What writing an answer over leaves as it was. -/
def MkFr (lo hi : Nat) (w w' : World) : Prop := w'.os = w.os ∧ w'.tape = w.tape ∧ w'.output = w.output ∧ w.heap.size ≤ w'.heap.size ∧ ∀ b, (b < lo ∨ hi ≤ b) → b < w.heap.size → w'.heap[b]? = w.heap[b]?
theorem MkFr.refl (lo hi : Nat) (w : World) : MkFr lo hi w w := ⟨rfl, rfl, rfl, Nat.le_refl _, fun _ _ _ => rfl⟩
theorem MkFr.trans {lo hi : Nat} {a b c : World} (h : MkFr lo hi a b) (k : MkFr lo hi b c) : MkFr lo hi a c := ⟨k.1.trans h.1, k.2.1.trans h.2.1, k.2.2.1.trans h.2.2.1, Nat.le_trans h.2.2.2.1 k.2.2.2.1, fun x hx hl => (k.2.2.2.2 x hx (Nat.lt_of_lt_of_le hl h.2.2.2.1)).trans (h.2.2.2.2 x hx hl)⟩
theorem MkFr.of {lo hi : Nat} {w w' : World} (h : Below w.heap.size w w') : MkFr lo hi w w' := ⟨h.os, h.tape, h.output, h.size, fun b _ hb => h.block b hb⟩
set_option maxHeartbeats 4000000 in
theorem markValsX (lo hi k : Nat) (va : Value) (ls : List (Nat × Nat)) (xs : List Value) (w : World) (hlo : lo ≤ w.heap.size) (hhi : hi ≤ w.heap.size) (hn : ls.length ≤ 4096) (hl : ∀ j, (ls.getD j (0, 0)).1 ≤ 4096 ∧ (ls.getD j (0, 0)).2 ≤ 4096) (hk1 : 1 ≤ k) (hk : k ≤ 100000000) (h : MkS w lo hi va ls xs k 0) :
    Calls Tryd.prog 16 #[va, .int .i64 (k : Int)] w fun e w' => e = .returned (.int .i64 ((kAt ls k ls.length : Nat) : Int)) ∧ (∃ xs', MkS w' lo hi va ls xs' k ls.length) ∧ MkFr lo hi w w' := by
  have hkb := kAt_le ls k hl
  have HKB := hidd hkb
  have HL := hidd hl
  have H := hidd h
  have hform : ∃ a c, va = .slice a ls.length c := by
    rcases h.row.2 with ⟨rfl, h0⟩ | ⟨g, cap, cur, rfl, _⟩
    · exact ⟨none, 0, by rw [h0]⟩
    · exact ⟨_, cap, rfl⟩
  obtain ⟨a, c, rfl⟩ := hform
  clear hkb hl h
  go_enter Tryd.func16, Tryd.ntmps16
  go_wp2_with fail
  go_loopw [1, 5] (fun kv iv wr => ∃ (i : Nat) (xs : List Value), i ≤ ls.length ∧ kv = .int .i64 ((kAt ls k i : Nat) : Int) ∧ iv = .int .i64 (i : Int) ∧ MkS wr lo hi (.slice a ls.length c) ls xs k i ∧ MkFr lo hi w wr) (fun _ iv _ => ls.length - (intOf iv).toNat)
  case atStart => exact ⟨0, xs, Nat.zero_le _, rfl, rfl, H.out, MkFr.refl _ _ _⟩
  case round =>
    clear H
    obtain ⟨i, xs, hi', rfl, rfl, hm, hf⟩ := hrel
    have HM := hidd hm
    have HF := hidd hf
    have hws := hf.2.2.2.1
    clear hm hf
    by_cases hlt : i < ls.length
    · have hltz : (i : Int) < (ls.length : Int) := by omega
      obtain ⟨g, cur, hb, ha⟩ : ∃ g cur, wr.heap[g]? = some (.cells cur 64) ∧ a = some ⟨g, 0, none⟩ := by
        rcases HM.out.row.2 with ⟨e, h0⟩ | ⟨g, cap, cur, e, _, hg, _⟩
        · omega
        · simp only [Value.slice.injEq] at e
          exact ⟨g, cur, hg, e.1⟩
      subst ha
      obtain ⟨vt, vn, T, N', q1, q2, q3, q4, _⟩ := HM.out.val i hlt
      have hks := HKB.out i
      have hls := HL.out i
      have hrow := HM.out.row
      have hxl := hrow.1
      obtain ⟨K, hK⟩ : ∃ K, kAt ls k i = K := ⟨_, rfl⟩
      rw [hK] at hks
      try rw [hK]
      have HKe := hidd hK
      clear hb hrow hK
      have HMT := hidd (fun W => markText_any (K : Int) W (by omega) (by omega))
      go_wp2_with fail
      refine (HMT.out _).mono ?_
      rintro e w1 ⟨rfl, hb1⟩
      have hm1 := HM.out.keep (w' := w1) fun b _ h2 => hb1.block b (by omega)
      have HM1 := hidd hm1
      have HF1 := hidd (HF.out.trans (MkFr.of hb1))
      have hsz1 := hb1.size
      have hrow1 := hm1.row
      have hex : ∃ u0, w1.cell? ⟨g, i * 3, none⟩ = some u0 := by
        rw [hrow1.cellAt (i * 3) (by omega)]
        exact ⟨_, List.getElem?_eq_getElem (by omega)⟩
      obtain ⟨u0, c0⟩ := hex
      have f0 := hrow1.frozenAt (i * 3)
      clear HM HF hb1 HMT hrow1 q3 q4
      obtain ⟨vt', vn', T1, N1, r1, r2, r3, r4, _⟩ := hm1.val i hlt
      rw [q1] at r1
      rw [q2] at r2
      cases r1
      cases r2
      have hrs := (hm1.row.stored (i * 3) (.string (mkText (K : Int)))).1
      have tg : ∀ {e sz : Nat} {v : Value} {m : Nat} {ys : List Value}, w1.ownsRow lo e sz v m ys → 64 ≠ e → (w1.setCell ⟨g, i * 3, none⟩ (.string (mkText (K : Int)))).ownsRow lo e sz v m ys := fun {e sz v m ys} hv hne => own_keep hv fun b hb => heap_set_other w1 g (i * 3) _ b (fun e' => by
        subst e'
        rcases own_tyne hm1.row hv hne with e2 | e2
        · cases e2
        · exact e2 hb.symm)
      have HTs := hidd (tg r3 (by decide))
      have HNs := hidd (tg r4 (by decide))
      have HRs := hidd hrs
      have hzs : (w1.setCell ⟨g, i * 3, none⟩ (.string (mkText (K : Int)))).heap.size = w1.heap.size := by simp
      clear hm1 hrs tg r3 r4
      dsimp only
      go_upto_region 6 with fail
      obtain ⟨ws, hws'⟩ : ∃ ws, w1.setCell ⟨g, i * 3, none⟩ (.string (mkText (K : Int))) = ws := ⟨_, rfl⟩
      rw [hws'] at HTs HNs HRs hzs
      try rw [hws']
      have Hws := hidd hws'
      clear hws' c0 f0
      have hset : (xs.set (i * 3) (.string (mkText (K : Int))))[i * 3 + 1]? = some vt ∧ (xs.set (i * 3) (.string (mkText (K : Int))))[i * 3 + 2]? = some vn := ⟨(List.getElem?_set_ne (by omega)).trans q1, (List.getElem?_set_ne (by omega)).trans q2⟩
      have c1 : ws.cell? ⟨g, i * 3 + 1, none⟩ = some vt := by rw [HRs.out.cellAt (i * 3 + 1) (by omega)]; exact hset.1
      have HMs := hidd (markStrs_own lo (ls.getD i (0, 0)).1 vt T1 ((K : Int) + 1) ws (by omega) (by omega) (by omega) (by omega) HTs.out)
      obtain ⟨A, hA⟩ : ∃ A, (ls.getD i (0, 0)).1 = A := ⟨_, rfl⟩
      obtain ⟨B, hB⟩ : ∃ B, (ls.getD i (0, 0)).2 = B := ⟨_, rfl⟩
      rw [hA] at HMs hls HTs
      rw [hB] at hls HNs
      have HA := hidd hA
      have HB := hidd hB
      clear hA hB
      go_wp2_with fail
      refine HMs.out.mono ?_
      rintro e w2 ⟨rfl, ho2, hg2⟩
      have hr2 := own_kept2 HRs.out hg2 HTs.out (by decide)
      have hn2 := own_kept2 HNs.out hg2 HTs.out (by decide)
      have HO2 := hidd ho2
      have HG2 := hidd hg2
      have HR2 := hidd hr2
      have HN2 := hidd hn2
      have c2 : w2.cell? ⟨g, i * 3 + 2, none⟩ = some vn := by rw [hr2.cellAt (i * 3 + 2) (by omega)]; exact hset.2
      clear ho2 hg2 hr2 hn2 HMs c1
      have HMi := hidd (markInts_own lo B vn N1 ((K : Int) + 1 + (A : Int)) w2 (by omega) (by omega) (by omega) HN2.out)
      dsimp only
      go_wp2_with fail
      refine HMi.out.mono ?_
      rintro e w3 ⟨rfl, ho3, hg3⟩
      have hst := HM1.out.step (w2 := w2) (w3 := w3) hlt q1 q2 (by rw [HKe.out, Hws.out]; exact HG2.out) (by rw [HKe.out, HA.out]; exact HO2.out) hg3 (by rw [HKe.out, HA.out, HB.out]; exact ho3)
      have HST := hidd hst
      have HF3 : Hid (MkFr lo hi w w3) := by
        refine HF1.out.trans ⟨?_, ?_, ?_, ?_, hst.2⟩
        · rw [hg3.os, HG2.out.os, ← Hws.out]; rfl
        · rw [hg3.tape, HG2.out.tape, ← Hws.out]; rfl
        · rw [hg3.output, HG2.out.output, ← Hws.out]; rfl
        · have := hg3.size; have := HG2.out.size; omega
      have HKn : Hid (kAt ls k (i + 1) = K + 1 + A + B) := by show _ = _; simp only [kAt]; rw [HKe.out, HA.out, HB.out]
      clear ho3 hg3 hst c2 HMi HO2 HG2 HR2 HN2 HTs HNs HRs HM1 HF1
      dsimp only
      go_wp2_with fail
      go_roundw
      case rel => exact ⟨i + 1, _, by omega, by rw [HKn.out]; go_num, by go_num, HST.out.1, HF3.out⟩
      case measure => simp [intOf]; omega
    · have hltz : ¬ (i : Int) < (ls.length : Int) := by omega
      obtain rfl : i = ls.length := by omega
      obtain ⟨K, hK⟩ : ∃ K, kAt ls k ls.length = K := ⟨_, rfl⟩
      try rw [hK]
      have HKe := hidd hK
      clear hK
      go_wp2_with fail
      go_ret
      rw [HKe.out]
      exact ⟨rfl, ⟨xs, HM.out⟩, HF.out⟩
end Go.Proofs.YtefhmbnhhkgifaaDoor
