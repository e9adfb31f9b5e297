import Derived.Test.YtefhmbnhhkgifaaDoorReadLogJ31
import Derived.Deep.RegionHeld3
import Derived.Test.YtefhmbnhhkgifaaDoorReadLogJ27
import Derived.Test.YtefhmbnhhkgifaaDoorReadLogJ06
namespace Go.Proofs.YtefhmbnhhkgifaaDoor
open Go Go.RowKit
set_option linter.unusedVariables false
set_option linter.unusedSimpArgs false
set_option maxRecDepth 100000

theorem MkS.below {w w' : World} {lo hi : Nat} {va : Value} {ls : List (Nat × Nat)} {xs : List Value} {k i : Nat} (h : MkS w lo hi va ls xs k i) (hhi : hi ≤ w.heap.size) (hb : Below w.heap.size w w') : MkS w' lo hi va ls xs k i := h.keep fun b _ h2 => hb.block b (by omega)
set_option maxHeartbeats 4000000 in
theorem heldValsX (lo hi k : Nat) (va : Value) (ls : List (Nat × Nat)) (xs : List Value) (w : World) (hhi : hi ≤ w.heap.size) (hn : ls.length ≤ 4096) (hl : ∀ j, (ls.getD j (0, 0)).1 ≤ 4096 ∧ (ls.getD j (0, 0)).2 ≤ 4096) (hk1 : 1 ≤ k) (hk : k ≤ 100000000) (h : MkS w lo hi va ls xs k ls.length) :
    Calls Tryd.prog 17 #[va, .int .i64 (k : Int)] w fun e w' => e = .returned (.int .i64 ((kAt ls k ls.length : Nat) : Int)) ∧ Below w.heap.size w w' := by
  have hkb := kAt_le ls k hl
  have HKB := hidd hkb
  have HL := hidd hl
  have H := hidd h
  have hform : ∃ a c, va = .slice a ls.length c := by
    rcases h.row.2 with ⟨rfl, h0⟩ | ⟨g, cap, cur, rfl, _⟩
    · exact ⟨none, 0, by rw [h0]⟩
    · exact ⟨_, cap, rfl⟩
  obtain ⟨a, c, rfl⟩ := hform
  clear hkb hl h
  go_enter Tryd.func17, Tryd.ntmps17
  go_wp2_with fail
  go_loopw [1, 5] (fun kv iv wr => ∃ (i : Nat), i ≤ ls.length ∧ kv = .int .i64 ((kAt ls k i : Nat) : Int) ∧ iv = .int .i64 (i : Int) ∧ Below w.heap.size w wr) (fun _ iv _ => ls.length - (intOf iv).toNat)
  case atStart => exact ⟨0, Nat.zero_le _, rfl, rfl, Below.refl _ _⟩
  case round =>
    obtain ⟨i, hi', rfl, rfl, hbel⟩ := hrel
    have HM := hidd (H.out.below hhi hbel)
    have HB0 := hidd hbel
    have hws := hbel.size
    clear hbel
    by_cases hlt : i < ls.length
    · have hltz : (i : Int) < (ls.length : Int) := by omega
      obtain ⟨g, cur, hb, ha⟩ : ∃ g cur, wr.heap[g]? = some (.cells cur 64) ∧ a = some ⟨g, 0, none⟩ := by
        rcases HM.out.row.2 with ⟨e, h0⟩ | ⟨g, cap, cur, e, _, hg, _⟩
        · omega
        · simp only [Value.slice.injEq] at e
          exact ⟨g, cur, hg, e.1⟩
      subst ha
      obtain ⟨vt, vn, T, N', q1, q2, q3, q4, q5⟩ := HM.out.val i hlt
      obtain ⟨q0, rfl, rfl⟩ := q5 hlt
      have hks := HKB.out i
      have hls := HL.out i
      have hrow := HM.out.row
      have hxl := hrow.1
      obtain ⟨K, hK⟩ : ∃ K, kAt ls k i = K := ⟨_, rfl⟩
      obtain ⟨A, hA⟩ : ∃ A, (ls.getD i (0, 0)).1 = A := ⟨_, rfl⟩
      obtain ⟨B, hB⟩ : ∃ B, (ls.getD i (0, 0)).2 = B := ⟨_, rfl⟩
      rw [hK] at hks q0 q3 q4
      rw [hA] at hls q3 q4
      rw [hB] at hls q4
      have HKn : Hid (kAt ls k (i + 1) = K + 1 + A + B) := by show _ = _; simp only [kAt]; rw [hK, hA, hB]
      try rw [hK]
      have c0 : wr.cell? ⟨g, i * 3, none⟩ = some (.string (mkText (K : Int))) := by rw [hrow.cellAt (i * 3) (by omega)]; exact q0
      have hgl : g < wr.heap.size := (Array.getElem?_eq_some_iff.1 hb).1
      have HC1 : Hid (∀ W, Below wr.heap.size wr W → W.cell? ⟨g, i * 3 + 1, none⟩ = some vt ∧ W.cell? ⟨g, i * 3 + 2, none⟩ = some vn) := fun W hW => by
        have hgl : g < wr.heap.size := (Array.getElem?_eq_some_iff.1 hb).1
        refine ⟨(hW.cell (p := ⟨g, i * 3 + 1, none⟩) hgl).trans ?_, (hW.cell (p := ⟨g, i * 3 + 2, none⟩) hgl).trans ?_⟩
        · rw [hrow.cellAt (i * 3 + 1) (by omega)]; exact q1
        · rw [hrow.cellAt (i * 3 + 2) (by omega)]; exact q2
      have HTs : Hid (∀ W, Below wr.heap.size wr W → W.ownsRow lo 9 1 vt A (markSs ((K : Int) + 1) A)) := fun W hW => own_keep q3 fun b hb' => hW.block b (q3.lt b hb').2
      have HNs : Hid (∀ W, Below wr.heap.size wr W → W.ownsRow lo 3 1 vn B (marks ((K : Int) + 1 + (A : Int)) B)) := fun W hW => own_keep q4 fun b hb' => hW.block b (q4.lt b hb').2
      have HMT := hidd (fun W => markText_any (K : Int) W (by omega) (by omega))
      clear hb hrow hK hA hB q0 q1 q2 q3 q4 q5 HM
      go_upto_region 4 with fail
      go_cut [19] (fun cv wy => cv = .bool false ∧ Below wr.heap.size wr wy)
      case first =>
        go_region_with (go_at_call 15; refine (HMT.out _).mono ?_; rintro e' w1 ⟨rfl, hb1⟩; have c0' : w1.cell? ⟨g, i * 3, none⟩ = some (.string (mkText (K : Int))) := (hb1.cell (p := ⟨g, i * 3, none⟩) hgl).trans c0)
        all_goals
          go_wp2_with fail
          go_meet
          exact ⟨rfl, (below_drewN (Below.refl _ _) 1).trans (hb1.mono (Nat.le_refl _))⟩
      case rest =>
        obtain ⟨rfl, hby⟩ := hcut
        have HBy := hidd hby
        have c1 := (HC1.out wc hby).1
        clear hby c0
        have HHs := hidd (heldStrs_own lo A vt ((K : Int) + 1) wc (by omega) (by omega) (by omega) (HTs.out wc HBy.out))
        go_wp2_with fail
        refine HHs.out.mono ?_
        rintro e w2 ⟨rfl, hb2⟩
        have HB2 := hidd (HBy.out.trans (hb2.mono HBy.out.size))
        have c2 := (HC1.out w2 HB2.out).2
        have hnn : ¬ ((K : Int) + 1 + (A : Int) < 0) := by omega
        clear hb2 HHs c1
        have HHi := hidd (heldInts_own lo B vn ((K : Int) + 1 + (A : Int)) w2 (by omega) (by omega) (by omega) (HNs.out w2 HB2.out))
        dsimp only
        go_wp2_with fail
        refine HHi.out.mono ?_
        rintro e w3 ⟨rfl, hw3⟩
        obtain rfl := hw3.symm
        have hnn2 : ¬ ((K : Int) + 1 + (A : Int) + (B : Int) < 0) := by omega
        clear hw3 HHi c2
        dsimp only
        go_wp2_with fail
        go_roundw
        case rel => exact ⟨i + 1, by omega, by rw [HKn.out]; go_num, by go_num, HB0.out.trans (HB2.out.mono HB0.out.size)⟩
        case measure => simp [intOf]; omega
    · have hltz : ¬ (i : Int) < (ls.length : Int) := by omega
      obtain rfl : i = ls.length := by omega
      obtain ⟨K, hK⟩ : ∃ K, kAt ls k ls.length = K := ⟨_, rfl⟩
      try rw [hK]
      have HKe := hidd hK
      clear hK
      go_wp2_with fail
      go_ret
      rw [HKe.out]
      exact ⟨rfl, HB0.out⟩
end Go.Proofs.YtefhmbnhhkgifaaDoor

namespace Go.Proofs.YtefhmbnhhkgifaaDoor
open Go Go.RowKit
set_option linter.unusedVariables false
set_option maxRecDepth 100000

def smallV (v : Vl) : Prop := v.1.length ≤ 65536 ∧ v.2.1.length ≤ 4096 ∧ v.2.2.length ≤ 4096
theorem rdV_small {bs r : List UInt8} {v : Vl} (h : rdV bs = some (v, r)) : smallV v := by
  unfold rdV at h
  cases h1 : rdT bs with
  | none => rw [h1] at h; simp at h
  | some p =>
    obtain ⟨f, r1⟩ := p
    rw [h1] at h
    simp only at h
    cases h2 : rdN 4096 r1 with
    | none => rw [h2] at h; simp at h
    | some p =>
      obtain ⟨n, r2⟩ := p
      rw [h2] at h
      simp only at h
      cases h3 : rdTs n r2 with
      | none => rw [h3] at h; simp at h
      | some p =>
        obtain ⟨tx, r3⟩ := p
        rw [h3] at h
        simp only at h
        cases h4 : rdN 4096 r3 with
        | none => rw [h4] at h; simp at h
        | some p =>
          obtain ⟨m, r4⟩ := p
          rw [h4] at h
          simp only at h
          cases h5 : rdZs m r4 with
          | none => rw [h5] at h; simp at h
          | some p =>
            obtain ⟨zs, r5⟩ := p
            rw [h5] at h
            simp only [Option.some.injEq, Prod.mk.injEq] at h
            obtain ⟨rfl, rfl⟩ := h
            have a1 := rdT_len h1
            have a2 := rdN_len h2
            have a3 := rdTs_len n h3
            have a4 := rdN_len h4
            have a5 := rdZs_len m h5
            exact ⟨by show f.length ≤ _; omega, by show tx.length ≤ _; omega, by show zs.length ≤ _; omega⟩
theorem rdVs_small : ∀ (k : Nat) {bs r : List UInt8} {V : List Vl}, rdVs k bs = some (V, r) → V.length = k ∧ ∀ v ∈ V, smallV v
  | 0, bs, r, V, h => by simp only [rdVs, Option.some.injEq, Prod.mk.injEq] at h; obtain ⟨rfl, rfl⟩ := h; simp
  | k + 1, bs, r, V, h => by
    simp only [rdVs] at h
    cases h1 : rdV bs with
    | none => rw [h1] at h; simp at h
    | some p =>
      obtain ⟨v, r1⟩ := p
      rw [h1] at h
      simp only at h
      cases h2 : rdVs k r1 with
      | none => rw [h2] at h; simp at h
      | some q =>
        obtain ⟨vs, r2⟩ := q
        rw [h2] at h
        simp only [Option.some.injEq, Prod.mk.injEq] at h
        obtain ⟨rfl, rfl⟩ := h
        have b := rdVs_small k h2
        refine ⟨by simp [b.1], fun v' hv => ?_⟩
        rcases List.mem_cons.1 hv with rfl | hv
        · exact rdV_small h1
        · exact b.2 v' hv
theorem rdD_small {bs r : List UInt8} {d : Dc} (h : rdD bs = some (d, r)) : d.2.length ≤ 4096 ∧ ∀ v ∈ d.2, smallV v := by
  unfold rdD at h
  cases h1 : rdT bs with
  | none => rw [h1] at h; simp at h
  | some p =>
    obtain ⟨i, r1⟩ := p
    rw [h1] at h
    simp only at h
    cases h2 : rdN 4096 r1 with
    | none => rw [h2] at h; simp at h
    | some p =>
      obtain ⟨n, r2⟩ := p
      rw [h2] at h
      simp only at h
      cases h3 : rdVs n r2 with
      | none => rw [h3] at h; simp at h
      | some p =>
        obtain ⟨V, r3⟩ := p
        rw [h3] at h
        simp only [Option.some.injEq, Prod.mk.injEq] at h
        obtain ⟨rfl, rfl⟩ := h
        have a2 := rdN_len h2
        have a3 := rdVs_small n h3
        exact ⟨by show V.length ≤ _; omega, a3.2⟩
theorem rdAns_small (bs : List UInt8) : (rdAns bs).1.2.length ≤ 4096 ∧ ∀ i, smallV ((rdAns bs).1.2.getD i vl0) := by
  have v0 : smallV vl0 := ⟨by simp [vl0], by simp [vl0], by simp [vl0]⟩
  have key : ∀ V : List Vl, (∀ v ∈ V, smallV v) → ∀ i, smallV (V.getD i vl0) := fun V hV i => by
    by_cases hi : i < V.length
    · rw [List.getD_eq_getElem?_getD, List.getElem?_eq_getElem hi]; exact hV _ (List.getElem_mem hi)
    · rw [List.getD_eq_getElem?_getD, List.getElem?_eq_none (by omega)]; exact v0
  cases h : rdD bs with
  | none => rw [rdAns_no h]; exact ⟨by simp, key [] (fun v hv => by simp at hv)⟩
  | some p =>
    obtain ⟨d, r⟩ := p
    by_cases hr : r = []
    · subst hr
      obtain ⟨id, V⟩ := d
      have := rdD_small h
      rw [rdAns_ok h]
      exact ⟨this.1, key V this.2⟩
    · rw [rdAns_rest h hr]; exact ⟨by simp, key [] (fun v hv => by simp at hv)⟩
theorem own_holdT {w : World} {base : Nat} {v : Value} {l : List (List UInt8)} (h : w.ownsRow base 9 1 v l.length (l.map mkS)) : ∃ a c, v = .slice a l.length c ∧ HoldTx w a l := by
  rcases h.2 with ⟨rfl, h0⟩ | ⟨g, cap, cur, rfl, _, hg, _⟩
  · exact ⟨none, 0, by rw [h0], Or.inl (List.length_eq_zero_iff.1 h0)⟩
  · refine ⟨_, cap, rfl, Or.inr ⟨g, 0, rfl, (Array.getElem?_eq_some_iff.1 hg).1, fun i hi => ?_⟩⟩
    rw [Nat.zero_add, h.cellAt i (by omega)]
    simp [List.getD_eq_getElem?_getD, hi, mkS]
theorem own_holdN {w : World} {base : Nat} {v : Value} {l : List Int} (h : w.ownsRow base 3 1 v l.length (l.map mkI)) : ∃ a c, v = .slice a l.length c ∧ HoldZ w a l := by
  rcases h.2 with ⟨rfl, h0⟩ | ⟨g, cap, cur, rfl, _, hg, _⟩
  · exact ⟨none, 0, by rw [h0], Or.inl (List.length_eq_zero_iff.1 h0)⟩
  · refine ⟨_, cap, rfl, Or.inr ⟨g, 0, rfl, (Array.getElem?_eq_some_iff.1 hg).1, fun i hi => ?_⟩⟩
    rw [Nat.zero_add, h.cellAt i (by omega)]
    simp [List.getD_eq_getElem?_getD, hi, mkI]
theorem AnsV.hold {w : World} {lo hi : Nat} {a : Option Addr} {c : Nat} {V : List Vl} {xs : List Value} (h : AnsV w lo hi (.slice a V.length c) V xs) : HoldV w a V := by
  rcases h.row.2 with ⟨e, h0⟩ | ⟨g, cap, cur, e, _, hg, _⟩
  · exact Or.inl (List.length_eq_zero_iff.1 h0)
  · simp only [Value.slice.injEq] at e
    obtain ⟨rfl, _, rfl⟩ := e
    refine Or.inr ⟨g, 0, rfl, (Array.getElem?_eq_some_iff.1 hg).1, fun i hi' => ?_⟩
    obtain ⟨vt, vn, q0, q1, q2, q3, q4⟩ := h.val i hi'
    obtain ⟨at_, ct, rfl, hT⟩ := own_holdT q3
    obtain ⟨an, cn, rfl, hN⟩ := own_holdN q4
    rw [Nat.zero_add]
    refine ⟨?_, ⟨at_, ct, ?_, hT⟩, an, cn, ?_, hN⟩
    · rw [h.row.cellAt (i * 3) (by omega)]; exact q0
    · rw [h.row.cellAt (i * 3 + 1) (by omega)]; exact q1
    · rw [h.row.cellAt (i * 3 + 2) (by omega)]; exact q2
end Go.Proofs.YtefhmbnhhkgifaaDoor
