import Derived.Test.YtefhmbnhhkgifaaDoorReadLogJ38
namespace Go.Proofs.YtefhmbnhhkgifaaDoor
open Go Go.RowKit
set_option linter.unusedVariables false
set_option linter.unusedSimpArgs false
set_option maxRecDepth 100000

set_option maxHeartbeats 4000000 in
theorem markValsY (lo hi k : Nat) (va : Value) (ls : List (Nat × Nat)) (xs : List Value) (w : World) (hhi : hi ≤ w.heap.size) (hn : ls.length ≤ 4096) (hl : ∀ j, (ls.getD j (0, 0)).1 ≤ 4096 ∧ (ls.getD j (0, 0)).2 ≤ 4096) (hk1 : 1 ≤ k) (hk : k ≤ 100000000) (h : MkS w lo hi va ls xs k 0) :
    Calls Tryd.prog 16 #[va, .int .i64 (k : Int)] w fun e w' => e = .returned (.int .i64 ((kAt ls k ls.length : Nat) : Int)) ∧ (∃ xs', MkS w' lo hi va ls xs' k ls.length) ∧ MkFr lo hi w w' := by
  have hkb := kAt_le ls k hl
  have HKB := hidd hkb
  have HL := hidd hl
  have H := hidd h
  have hform : ∃ a c, va = .slice a ls.length c := by
    rcases h.row.2 with ⟨rfl, h0⟩ | ⟨g, cap, cur, rfl, _⟩
    · exact ⟨none, 0, by rw [h0]⟩
    · exact ⟨_, cap, rfl⟩
  obtain ⟨a, c, rfl⟩ := hform
  clear hkb hl h
  go_enter Tryd.func16, Tryd.ntmps16
  go_wp2_with fail
  go_loopw [1, 5] (fun kv iv wr => ∃ (i : Nat) (xs : List Value), i ≤ ls.length ∧ kv = .int .i64 ((kAt ls k i : Nat) : Int) ∧ iv = .int .i64 (i : Int) ∧ MkS wr lo hi (.slice a ls.length c) ls xs k i ∧ MkFr lo hi w wr) (fun _ iv _ => ls.length - (intOf iv).toNat)
  case atStart => exact ⟨0, xs, Nat.zero_le _, rfl, rfl, H.out, MkFr.refl _ _ _⟩
  case round =>
    clear H
    obtain ⟨i, xs, hi', rfl, rfl, hm, hf⟩ := hrel
    have HM := hidd hm
    have HF := hidd hf
    have hws := hf.2.2.2.1
    clear hm hf
    by_cases hlt : i < ls.length
    · have hltz : (i : Int) < (ls.length : Int) := by omega
      obtain ⟨g, cur, hb, ha⟩ : ∃ g cur, wr.heap[g]? = some (.cells cur 64) ∧ a = some ⟨g, 0, none⟩ := by
        rcases HM.out.row.2 with ⟨e, h0⟩ | ⟨g, cap, cur, e, _, hg, _⟩
        · omega
        · simp only [Value.slice.injEq] at e
          exact ⟨g, cur, hg, e.1⟩
      subst ha
      have hlo : lo ≤ wr.heap.size := by have := HM.out.row.lt g rfl; omega
      obtain ⟨vt, vn, T, N', q1, q2, q3, q4, _⟩ := HM.out.val i hlt
      have hks := HKB.out i
      have hls := HL.out i
      have hrow := HM.out.row
      have hxl := hrow.1
      obtain ⟨K, hK⟩ : ∃ K, kAt ls k i = K := ⟨_, rfl⟩
      rw [hK] at hks
      try rw [hK]
      have HKe := hidd hK
      clear hb hrow hK
      have HMT := hidd (fun W => markText_any (K : Int) W (by omega) (by omega))
      go_wp2_with fail
      refine (HMT.out _).mono ?_
      rintro e w1 ⟨rfl, hb1⟩
      have hm1 := HM.out.keep (w' := w1) fun b _ h2 => hb1.block b (by omega)
      have HM1 := hidd hm1
      have HF1 := hidd (HF.out.trans (MkFr.of hb1))
      have hsz1 := hb1.size
      have hrow1 := hm1.row
      have hex : ∃ u0, w1.cell? ⟨g, i * 3, none⟩ = some u0 := by
        rw [hrow1.cellAt (i * 3) (by omega)]
        exact ⟨_, List.getElem?_eq_getElem (by omega)⟩
      obtain ⟨u0, c0⟩ := hex
      have f0 := hrow1.frozenAt (i * 3)
      clear HM HF hb1 HMT hrow1 q3 q4
      obtain ⟨vt', vn', T1, N1, r1, r2, r3, r4, _⟩ := hm1.val i hlt
      rw [q1] at r1
      rw [q2] at r2
      cases r1
      cases r2
      have hrs := (hm1.row.stored (i * 3) (.string (mkText (K : Int)))).1
      have tg : ∀ {e sz : Nat} {v : Value} {m : Nat} {ys : List Value}, w1.ownsRow lo e sz v m ys → 64 ≠ e → (w1.setCell ⟨g, i * 3, none⟩ (.string (mkText (K : Int)))).ownsRow lo e sz v m ys := fun {e sz v m ys} hv hne => own_keep hv fun b hb => heap_set_other w1 g (i * 3) _ b (fun e' => by
        subst e'
        rcases own_tyne hm1.row hv hne with e2 | e2
        · cases e2
        · exact e2 hb.symm)
      have HTs := hidd (tg r3 (by decide))
      have HNs := hidd (tg r4 (by decide))
      have HRs := hidd hrs
      have hzs : (w1.setCell ⟨g, i * 3, none⟩ (.string (mkText (K : Int)))).heap.size = w1.heap.size := by simp
      clear hm1 hrs tg r3 r4
      dsimp only
      go_upto_region 6 with fail
      obtain ⟨ws, hws'⟩ : ∃ ws, w1.setCell ⟨g, i * 3, none⟩ (.string (mkText (K : Int))) = ws := ⟨_, rfl⟩
      rw [hws'] at HTs HNs HRs hzs
      try rw [hws']
      have Hws := hidd hws'
      clear hws' c0 f0
      have hset : (xs.set (i * 3) (.string (mkText (K : Int))))[i * 3 + 1]? = some vt ∧ (xs.set (i * 3) (.string (mkText (K : Int))))[i * 3 + 2]? = some vn := ⟨(List.getElem?_set_ne (by omega)).trans q1, (List.getElem?_set_ne (by omega)).trans q2⟩
      have c1 : ws.cell? ⟨g, i * 3 + 1, none⟩ = some vt := by rw [HRs.out.cellAt (i * 3 + 1) (by omega)]; exact hset.1
      have HMs := hidd (markStrs_own lo (ls.getD i (0, 0)).1 vt T1 ((K : Int) + 1) ws (by omega) (by omega) (by omega) (by omega) HTs.out)
      obtain ⟨A, hA⟩ : ∃ A, (ls.getD i (0, 0)).1 = A := ⟨_, rfl⟩
      obtain ⟨B, hB⟩ : ∃ B, (ls.getD i (0, 0)).2 = B := ⟨_, rfl⟩
      rw [hA] at HMs hls HTs
      rw [hB] at hls HNs
      have HA := hidd hA
      have HB := hidd hB
      clear hA hB
      go_wp2_with fail
      refine HMs.out.mono ?_
      rintro e w2 ⟨rfl, ho2, hg2⟩
      have hr2 := own_kept2 HRs.out hg2 HTs.out (by decide)
      have hn2 := own_kept2 HNs.out hg2 HTs.out (by decide)
      have HO2 := hidd ho2
      have HG2 := hidd hg2
      have HR2 := hidd hr2
      have HN2 := hidd hn2
      have c2 : w2.cell? ⟨g, i * 3 + 2, none⟩ = some vn := by rw [hr2.cellAt (i * 3 + 2) (by omega)]; exact hset.2
      clear ho2 hg2 hr2 hn2 HMs c1
      have HMi := hidd (markInts_own lo B vn N1 ((K : Int) + 1 + (A : Int)) w2 (by omega) (by omega) (by omega) HN2.out)
      dsimp only
      go_wp2_with fail
      refine HMi.out.mono ?_
      rintro e w3 ⟨rfl, ho3, hg3⟩
      have hst := HM1.out.step (w2 := w2) (w3 := w3) hlt q1 q2 (by rw [HKe.out, Hws.out]; exact HG2.out) (by rw [HKe.out, HA.out]; exact HO2.out) hg3 (by rw [HKe.out, HA.out, HB.out]; exact ho3)
      have HST := hidd hst
      have HF3 : Hid (MkFr lo hi w w3) := by
        refine HF1.out.trans ⟨?_, ?_, ?_, ?_, hst.2⟩
        · rw [hg3.os, HG2.out.os, ← Hws.out]; rfl
        · rw [hg3.tape, HG2.out.tape, ← Hws.out]; rfl
        · rw [hg3.output, HG2.out.output, ← Hws.out]; rfl
        · have := hg3.size; have := HG2.out.size; omega
      have HKn : Hid (kAt ls k (i + 1) = K + 1 + A + B) := by show _ = _; simp only [kAt]; rw [HKe.out, HA.out, HB.out]
      clear ho3 hg3 hst c2 HMi HO2 HG2 HR2 HN2 HTs HNs HRs HM1 HF1
      dsimp only
      go_wp2_with fail
      go_roundw
      case rel => exact ⟨i + 1, _, by omega, by rw [HKn.out]; go_num, by go_num, HST.out.1, HF3.out⟩
      case measure => simp [intOf]; omega
    · have hltz : ¬ (i : Int) < (ls.length : Int) := by omega
      obtain rfl : i = ls.length := by omega
      obtain ⟨K, hK⟩ : ∃ K, kAt ls k ls.length = K := ⟨_, rfl⟩
      try rw [hK]
      have HKe := hidd hK
      clear hK
      go_wp2_with fail
      go_ret
      rw [HKe.out]
      exact ⟨rfl, ⟨xs, HM.out⟩, HF.out⟩
/-- An answer of which the first i records are written over. -/
structure LgM (w : World) (base hi : Nat) (vL : Value) (L : List Rc) (ys : List Value) (lo hh : Nat → Nat) (va : Nat → Value) (k i : Nat) : Prop where
  row : w.ownsRow base 36 5 vL L.length ys
  top : ∀ b, vL.ownBlock = some b → b < hi
  cel : ∀ j, j < L.length → ys[j * 5 + 4]? = some (va j)
  rng : ∀ j, j < L.length → base ≤ lo j ∧ hh j ≤ hi
  aprt : ∀ j b, j < L.length → vL.ownBlock = some b → b < lo j ∨ hh j ≤ b
  dis : ∀ i j, i < j → j < L.length → hh i ≤ lo j
  val : ∀ j, j < L.length → ∃ xs, MkS w (lo j) (hh j) (va j) (lensV (L.getD j rc0).2.2.2.2) xs (kL L k j + 4) (if j < i then (lensV (L.getD j rc0).2.2.2.2).length else 0)
  mrk : ∀ j, j < i → j < L.length → ys[j * 5]? = some (.int .i64 ((kL L k j : Nat) : Int)) ∧ ys[j * 5 + 1]? = some (.int .i64 ((kL L k j + 1 : Nat) : Int)) ∧ ys[j * 5 + 2]? = some (.string (mkText ((kL L k j + 2 : Nat) : Int))) ∧ ys[j * 5 + 3]? = some (.string (mkText ((kL L k j + 3 : Nat) : Int)))
theorem LogA.lgm {w : World} {base hi : Nat} {vL : Value} {L : List Rc} {ys : List Value} {lo hh : Nat → Nat} {va : Nat → Value} {xs : Nat → List Value} (h : LogA w base hi vL L ys lo hh va xs) (k : Nat) : LgM w base hi vL L ys lo hh va k 0 :=
  ⟨h.row, h.top, fun j hj => by rw [h.cel j 4 hj (by omega)]; rfl, h.rng, h.aprt, h.dis, fun j hj => ⟨xs j, by simp only [Nat.not_lt_zero, if_false]; exact (h.ans j hj).mks _⟩, fun j hj => absurd hj (by omega)⟩
theorem LgM.keep {w w' : World} {base hi : Nat} {vL : Value} {L : List Rc} {ys : List Value} {lo hh : Nat → Nat} {va : Nat → Value} {k i : Nat} (h : LgM w base hi vL L ys lo hh va k i) (hk : ∀ b, base ≤ b → b < hi → w'.heap[b]? = w.heap[b]?) : LgM w' base hi vL L ys lo hh va k i :=
  ⟨own_keep h.row fun b hb => hk b (h.row.lt b hb).1 (h.top b hb), h.top, h.cel, h.rng, h.aprt, h.dis, fun j hj => by
    obtain ⟨xs, hx⟩ := h.val j hj
    exact ⟨xs, hx.keep fun b h1 h2 => hk b (by have := (h.rng j hj).1; omega) (by have := (h.rng j hj).2; omega)⟩, h.mrk⟩
theorem LgM.below {w w' : World} {base hi : Nat} {vL : Value} {L : List Rc} {ys : List Value} {lo hh : Nat → Nat} {va : Nat → Value} {k i : Nat} (h : LgM w base hi vL L ys lo hh va k i) (hhi : hi ≤ w.heap.size) (hb : Below w.heap.size w w') : LgM w' base hi vL L ys lo hh va k i := h.keep fun b _ h2 => hb.block b (by omega)
/-- One record more written over. -/
theorem LgM.step {w w2 w3 : World} {base hi g cap : Nat} {L : List Rc} {ys ys2 : List Value} {lo hh : Nat → Nat} {va : Nat → Value} {k i : Nat} (h : LgM w base hi (.slice (some ⟨g, 0, none⟩) L.length cap) L ys lo hh va k i) (hhi : hi ≤ w.heap.size) (hi' : i < L.length)
    (hg2 : w.grownBy w2 (some g)) (hr2 : w2.ownsRow base 36 5 (.slice (some ⟨g, 0, none⟩) L.length cap) L.length ys2)
    (hy : ys2 = (((ys.set (i * 5) (.int .i64 ((kL L k i : Nat) : Int))).set (i * 5 + 1) (.int .i64 ((kL L k i + 1 : Nat) : Int))).set (i * 5 + 2) (.string (mkText ((kL L k i + 2 : Nat) : Int)))).set (i * 5 + 3) (.string (mkText ((kL L k i + 3 : Nat) : Int))))
    (hm : ∃ xs, MkS w3 (lo i) (hh i) (va i) (lensV (L.getD i rc0).2.2.2.2) xs (kL L k i + 4) (lensV (L.getD i rc0).2.2.2.2).length) (hf : MkFr (lo i) (hh i) w2 w3) :
    LgM w3 base hi (.slice (some ⟨g, 0, none⟩) L.length cap) L ys2 lo hh va k (i + 1) := by
  have hyl := h.row.1
  have hgx : base ≤ g ∧ g < hi := ⟨(h.row.lt g rfl).1, h.top g rfl⟩
  have hs2 := hg2.size
  have oth : ∀ j c, c < 5 → (j ≠ i ∨ c = 4) → ys2[j * 5 + c]? = ys[j * 5 + c]? := fun j c hc hne => by
    rw [hy, List.getElem?_set_ne (by omega), List.getElem?_set_ne (by omega), List.getElem?_set_ne (by omega), List.getElem?_set_ne (by omega)]
  refine ⟨own_keep hr2 fun b hb => ?_, h.top, fun j hj => by rw [oth j 4 (by omega) (Or.inr rfl)]; exact h.cel j hj, h.rng, h.aprt, h.dis, fun j hj => ?_, fun j hj hjl => ?_⟩
  · simp only [Value.ownBlock, Option.some.injEq] at hb
    subst hb
    exact hf.2.2.2.2 g (h.aprt i g hi' rfl) (by omega)
  · by_cases hji : j = i
    · subst hji
      rw [if_pos (by omega)]
      exact hm
    · obtain ⟨xs, hx⟩ := h.val j hj
      refine ⟨xs, ?_⟩
      have e : (if j < i + 1 then (lensV (L.getD j rc0).2.2.2.2).length else 0) = if j < i then (lensV (L.getD j rc0).2.2.2.2).length else 0 := by
        by_cases h1 : j < i
        · rw [if_pos h1, if_pos (by omega)]
        · rw [if_neg h1, if_neg (by omega)]
      rw [e]
      refine hx.keep fun b h1 h2 => ?_
      have hrj := h.rng j hj
      have hne : b ≠ g := fun e => by
        subst e
        have := h.aprt j b hj rfl
        omega
      have hd : b < lo i ∨ hh i ≤ b := by
        rcases Nat.lt_or_gt_of_ne hji with hl | hl
        · have := h.dis j i hl hi'
          omega
        · have := h.dis i j hl hj
          omega
      exact (hf.2.2.2.2 b hd (by omega)).trans (hg2.block b (by omega) (fun e => hne (Option.some.inj e)))
  · by_cases hji : j = i
    · subst hji
      subst hy
      have hlen : j * 5 + 5 ≤ ys.length := by omega
      refine ⟨?_, ?_, ?_, ?_⟩
      · rw [List.getElem?_set_ne (by omega), List.getElem?_set_ne (by omega), List.getElem?_set_ne (by omega), List.getElem?_set_self (by omega)]
      · rw [List.getElem?_set_ne (by omega), List.getElem?_set_ne (by omega), List.getElem?_set_self (by simp; omega)]
      · rw [List.getElem?_set_ne (by omega), List.getElem?_set_self (by simp; omega)]
      · rw [List.getElem?_set_self (by simp; omega)]
    · have := h.mrk j (by omega) hjl
      exact ⟨(oth j 0 (by omega) (Or.inl hji)).trans this.1, (oth j 1 (by omega) (Or.inl hji)).trans this.2.1, (oth j 2 (by omega) (Or.inl hji)).trans this.2.2.1, (oth j 3 (by omega) (Or.inl hji)).trans this.2.2.2⟩
theorem grown_of {w w' : World} (h : Below w.heap.size w w') (g : Option Nat) : w.grownBy w' g := ⟨h.os, h.tape, h.output, h.size, fun b hb _ => h.block b hb⟩
set_option maxHeartbeats 8000000 in
theorem markRecs (base hi k g cap : Nat) (L : List Rc) (ys : List Value) (lo hh : Nat → Nat) (va : Nat → Value) (w : World) (hb : base ≤ w.heap.size) (hhi : hi ≤ w.heap.size) (hn : L.length ≤ 1048576) (hs : SmL L) (hk1 : 1 ≤ k) (hk : kL L k L.length ≤ 10000000) (h : LgM w base hi (.slice (some ⟨g, 0, none⟩) L.length cap) L ys lo hh va k 0) :
    Calls Tryd.prog 10 #[.slice (some ⟨g, 0, none⟩) L.length cap, .int .i64 (k : Int)] w fun e w' => e = .returned (.int .i64 ((kL L k L.length : Nat) : Int)) ∧ (∃ ys', LgM w' base hi (.slice (some ⟨g, 0, none⟩) L.length cap) L ys' lo hh va k L.length) ∧ MkFr base hi w w' := by
  have HK := hidd (fun i (hi : i ≤ L.length) => kL_mono L k i L.length hi)
  have HSm := hidd hs
  have H := hidd h
  have HK0 := hidd (fun i => kL_mono L k 0 i (Nat.zero_le _))
  clear h hs
  go_enter Tryd.func10, Tryd.ntmps10
  go_wp2_with fail
  go_loopw [1, 5] (fun kv iv wr => ∃ (i : Nat) (ys : List Value), i ≤ L.length ∧ kv = .int .i64 ((kL L k i : Nat) : Int) ∧ iv = .int .i64 (i : Int) ∧ LgM wr base hi (.slice (some ⟨g, 0, none⟩) L.length cap) L ys lo hh va k i ∧ MkFr base hi w wr) (fun _ iv _ => L.length - (intOf iv).toNat)
  case atStart => exact ⟨0, ys, Nat.zero_le _, rfl, rfl, H.out, MkFr.refl _ _ _⟩
  case round =>
    clear H
    obtain ⟨i, ys, hi', rfl, rfl, hm, hf⟩ := hrel
    have HM := hidd hm
    have HF := hidd hf
    have hws := hf.2.2.2.1
    have hki := HK.out i hi'
    have hk0 := HK0.out i
    simp only [kL] at hk0
    clear hm hf
    by_cases hlt : i < L.length
    · have hltz : (i : Int) < (L.length : Int) := by omega
      have hki1 := HK.out (i + 1) hlt
      simp only [kL] at hki1
      obtain ⟨K, hKe⟩ : ∃ K, kL L k i = K := ⟨_, rfl⟩
      rw [hKe] at hki hk0 hki1
      try rw [hKe]
      have HKe := hidd hKe
      have hrow := HM.out.row
      have hyl := hrow.1
      obtain ⟨xs0, hval⟩ := HM.out.val i hlt
      obtain ⟨av, cv, hva⟩ := own_formR hval.row
      have hcel := HM.out.cel i hlt
      have hgx : base ≤ g ∧ g < hi := ⟨(hrow.lt g rfl).1, HM.out.top g rfl⟩
      have ce : ∀ j, j < L.length * 5 → ∃ u0, wr.cell? ⟨g, j, none⟩ = some u0 := fun j hj => by
        rw [hrow.cellAt j hj]
        exact ⟨_, List.getElem?_eq_getElem (by omega)⟩
      obtain ⟨u0, c0⟩ := ce (i * 5) (by omega)
      obtain ⟨u1, c1⟩ := ce (i * 5 + 1) (by omega)
      have f0 := hrow.frozenAt (i * 5)
      have f1 := hrow.frozenAt (i * 5 + 1)
      have s1 := hrow.stored (i * 5) (.int .i64 (K : Int))
      have s2 := s1.1.stored (i * 5 + 1) (.int .i64 ((K : Int) + 1))
      have HR2 := hidd s2.1
      have HG2 := hidd (grown_trans s1.2 s2.2)
      have Hval := hidd hval
      have Hva := hidd hva
      have Hcel := hidd hcel
      have hwz := HM.out.row.lt g rfl
      have hsmi := HSm.out i
      clear s1 s2 hrow hval hva hcel ce hKe
      go_upto_region 8 with fail
      obtain ⟨wb, hwb⟩ : ∃ wb, (wr.setCell ⟨g, i * 5, none⟩ (.int .i64 (K : Int))).setCell ⟨g, i * 5 + 1, none⟩ (.int .i64 ((K : Int) + 1)) = wb := ⟨_, rfl⟩
      rw [hwb] at HR2 HG2
      try rw [hwb]
      clear hwb c0 c1 f0 f1
      have HMT := hidd (fun W => markText_any ((K : Int) + 1 + 1) W (by omega) (by omega))
      go_wp2_with fail
      refine (HMT.out _).mono ?_
      rintro e w1 ⟨rfl, hb1⟩
      have hR1 := own_keep HR2.out fun b hb => hb1.block b (HR2.out.lt b hb).2
      have ce : ∀ j, j < L.length * 5 → ∃ u0, w1.cell? ⟨g, j, none⟩ = some u0 := fun j hj => by
        rw [hR1.cellAt j hj]
        exact ⟨_, List.getElem?_eq_getElem (by simp; omega)⟩
      obtain ⟨u2, c2⟩ := ce (i * 5 + 2) (by omega)
      have f2 := hR1.frozenAt (i * 5 + 2)
      have s3 := hR1.stored (i * 5 + 2) (.string (mkText ((K : Int) + 1 + 1)))
      have HR3 := hidd s3.1
      have HG3 := hidd (grown_trans (grown_trans HG2.out (grown_of hb1 (some g))) s3.2)
      clear s3 hR1 ce hb1 HMT HR2 HG2
      dsimp only
      go_upto_region 10 with fail
      obtain ⟨wd, hwd⟩ : ∃ wd, w1.setCell ⟨g, i * 5 + 2, none⟩ (.string (mkText ((K : Int) + 1 + 1))) = wd := ⟨_, rfl⟩
      rw [hwd] at HR3 HG3
      try rw [hwd]
      clear hwd c2 f2
      have HMT := hidd (fun W => markText_any ((K : Int) + 1 + 1 + 1) W (by omega) (by omega))
      go_wp2_with fail
      refine (HMT.out _).mono ?_
      rintro e w2 ⟨rfl, hb2⟩
      have hR1 := own_keep HR3.out fun b hb => hb2.block b (HR3.out.lt b hb).2
      have ce : ∀ j, j < L.length * 5 → ∃ u0, w2.cell? ⟨g, j, none⟩ = some u0 := fun j hj => by
        rw [hR1.cellAt j hj]
        exact ⟨_, List.getElem?_eq_getElem (by simp; omega)⟩
      obtain ⟨u3, c3⟩ := ce (i * 5 + 3) (by omega)
      have f3 := hR1.frozenAt (i * 5 + 3)
      have s4 := hR1.stored (i * 5 + 3) (.string (mkText ((K : Int) + 1 + 1 + 1)))
      have HR4 := hidd s4.1
      have HG4 := hidd (grown_trans (grown_trans HG3.out (grown_of hb2 (some g))) s4.2)
      clear s4 hR1 ce hb2 HMT HR3 HG3
      dsimp only
      go_upto_region 12 with fail
      obtain ⟨we, hwe⟩ : ∃ we, w2.setCell ⟨g, i * 5 + 3, none⟩ (.string (mkText ((K : Int) + 1 + 1 + 1))) = we := ⟨_, rfl⟩
      rw [hwe] at HR4 HG4
      try rw [hwe]
      clear hwe c3 f3
      obtain ⟨V, hV⟩ : ∃ V, (L.getD i rc0).2.2.2.2 = V := ⟨_, rfl⟩
      have Hval2 := Hval.out
      rw [hV] at Hva hsmi Hval2 hki1
      have HV := hidd hV
      clear hV
      obtain ⟨ls, hls⟩ : ∃ ls, lensV V = ls := ⟨_, rfl⟩
      have hlsl : ls.length = V.length := by rw [← hls]; exact lensV_len V
      have hl : ∀ j, (ls.getD j (0, 0)).1 ≤ 4096 ∧ (ls.getD j (0, 0)).2 ≤ 4096 := fun j => by
        rw [← hls]
        by_cases hj : j < V.length
        · rw [lensV_at _ _ hj]
          have := hsmi.2 j
          unfold smallV at this
          exact this.2
        · have : (lensV V).length ≤ j := by rw [lensV_len]; omega
          rw [List.getD_eq_getElem?_getD, List.getElem?_eq_none this]
          simp
      have hka : kAt ls (K + 4) ls.length = K + 4 + mkN V := by rw [← hls]; exact kAt_all V (K + 4)
      rw [hls] at Hva Hval2
      have Hls := hidd hls
      have c4 : we.cell? ⟨g, i * 5 + 4, none⟩ = some (.slice av ls.length cv) := by
        rw [HR4.out.cellAt (i * 5 + 4) (by omega), List.getElem?_set_ne (by omega), List.getElem?_set_ne (by omega), List.getElem?_set_ne (by omega), List.getElem?_set_ne (by omega), Hcel.out, Hva.out]
      have hrng := HM.out.rng i hlt
      have hsz4 := HG4.out.size
      have hMk : MkS we (lo i) (hh i) (va i) ls xs0 (K + 4) 0 := by
        rw [if_neg (Nat.lt_irrefl i), HKe.out] at Hval2
        exact Hval2.keep fun b h1 h2 => HG4.out.block b (by omega) (fun e => by
          have e' := Option.some.inj e
          subst e'
          have := HM.out.aprt i b hlt rfl
          omega)
      have HMV := hidd (markValsY (lo i) (hh i) (K + 4) (va i) ls xs0 we (by omega) (by omega) hl (by omega) (by omega) hMk)
      rw [Hva.out, hka, show ((K + 4 : Nat) : Int) = (K : Int) + 4 by omega] at HMV
      obtain ⟨nv, hnv⟩ : ∃ nv, ls.length = nv := ⟨_, rfl⟩
      rw [hnv] at HMV c4
      have Hnv := hidd hnv
      obtain ⟨K2, hK2⟩ : ∃ K2, K + 4 + mkN V = K2 := ⟨_, rfl⟩
      rw [hK2] at HMV
      have HK2 := hidd hK2
      clear hMk hl hka hls Hval2 hlsl hnv hK2 hsmi hyl
      go_wp2_with fail
      refine HMV.out.mono ?_
      rintro e w3 ⟨rfl, hm3, hf3⟩
      have HST := hidd (HM.out.step (w2 := we) (w3 := w3) (by omega) hlt HG4.out HR4.out (by rw [HKe.out]; push_cast; rfl) (by rw [HV.out, Hls.out, HKe.out, Hva.out]; obtain ⟨xs, h⟩ := hm3; rw [← Hnv.out] at h; exact ⟨xs, h⟩) hf3)
      have HF3 : Hid (MkFr base hi w w3) := by
        refine HF.out.trans ⟨hf3.1.trans HG4.out.os, hf3.2.1.trans HG4.out.tape, hf3.2.2.1.trans HG4.out.output, Nat.le_trans hsz4 hf3.2.2.2.1, fun b hb hbl => ?_⟩
        exact (hf3.2.2.2.2 b (by omega) (by omega)).trans (HG4.out.block b (by omega) (fun e => by have e' := Option.some.inj e; omega))
      have HKn : Hid (kL L k (i + 1) = K2) := by show _ = _; simp only [kL]; rw [HKe.out, HV.out]; exact HK2.out
      clear hm3 hf3 c4 HMV HR4 HG4 HM HF Hval
      dsimp only
      go_wp2_with fail
      go_roundw
      case rel => exact ⟨i + 1, _, by omega, by rw [HKn.out], by go_num, HST.out, HF3.out⟩
      case measure => simp [intOf]; omega
    · have hltz : ¬ (i : Int) < (L.length : Int) := by omega
      obtain rfl : i = L.length := by omega
      obtain ⟨K, hK⟩ : ∃ K, kL L k L.length = K := ⟨_, rfl⟩
      try rw [hK]
      have HKe := hidd hK
      clear hK
      go_wp2_with fail
      go_ret
      rw [HKe.out]
      exact ⟨rfl, ⟨ys, HM.out⟩, HF.out⟩
end Go.Proofs.YtefhmbnhhkgifaaDoor
