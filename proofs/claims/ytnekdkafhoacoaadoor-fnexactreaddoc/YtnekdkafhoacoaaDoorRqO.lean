import Derived.Test.YtnekdkafhoacoaaDoorRqN
import Derived.Deep.RegionHeld3
namespace Go.Proofs.YtnekdkafhoacoaaDoor
open Go Go.RowKit
set_option linter.unusedVariables false
set_option linter.unusedSimpArgs false
set_option maxRecDepth 100000

theorem MkS.below {w w' : World} {lo hi : Nat} {va : Value} {ls : List (Nat × Nat)} {xs : List Value} {k i : Nat} (h : MkS w lo hi va ls xs k i) (hhi : hi ≤ w.heap.size) (hb : Below w.heap.size w w') : MkS w' lo hi va ls xs k i := h.keep fun b _ h2 => hb.block b (by omega)
set_option maxHeartbeats 4000000 in
theorem heldValsX (lo hi k : Nat) (va : Value) (ls : List (Nat × Nat)) (xs : List Value) (w : World) (hhi : hi ≤ w.heap.size) (hn : ls.length ≤ 4096) (hl : ∀ j, (ls.getD j (0, 0)).1 ≤ 4096 ∧ (ls.getD j (0, 0)).2 ≤ 4096) (hk1 : 1 ≤ k) (hk : k ≤ 10) (h : MkS w lo hi va ls xs k ls.length) :
    Calls Tryd.prog 30 #[va, .int .i64 (k : Int)] w fun e w' => e = .returned (.int .i64 ((kAt ls k ls.length : Nat) : Int)) ∧ Below w.heap.size w w' := by
  have hkb := kAt_le ls k hl
  have HKB := hidd hkb
  have HL := hidd hl
  have H := hidd h
  have hform : ∃ a c, va = .slice a ls.length c := by
    rcases h.row.2 with ⟨rfl, h0⟩ | ⟨g, cap, cur, rfl, _⟩
    · exact ⟨none, 0, by rw [h0]⟩
    · exact ⟨_, cap, rfl⟩
  obtain ⟨a, c, rfl⟩ := hform
  clear hkb hl h
  go_enter Tryd.func30, Tryd.ntmps30
  go_wp2_with fail
  go_loopw [1, 5] (fun kv iv wr => ∃ (i : Nat), i ≤ ls.length ∧ kv = .int .i64 ((kAt ls k i : Nat) : Int) ∧ iv = .int .i64 (i : Int) ∧ Below w.heap.size w wr) (fun _ iv _ => ls.length - (intOf iv).toNat)
  case atStart => exact ⟨0, Nat.zero_le _, rfl, rfl, Below.refl _ _⟩
  case round =>
    obtain ⟨i, hi', rfl, rfl, hbel⟩ := hrel
    have HM := hidd (H.out.below hhi hbel)
    have HB0 := hidd hbel
    have hws := hbel.size
    clear hbel
    by_cases hlt : i < ls.length
    · have hltz : (i : Int) < (ls.length : Int) := by omega
      obtain ⟨g, cur, hb, ha⟩ : ∃ g cur, wr.heap[g]? = some (.cells cur 80) ∧ a = some ⟨g, 0, none⟩ := by
        rcases HM.out.row.2 with ⟨e, h0⟩ | ⟨g, cap, cur, e, _, hg, _⟩
        · omega
        · simp only [Value.slice.injEq] at e
          exact ⟨g, cur, hg, e.1⟩
      subst ha
      obtain ⟨vt, vn, T, N', q1, q2, q3, q4, q5⟩ := HM.out.val i hlt
      obtain ⟨q0, rfl, rfl⟩ := q5 hlt
      have hks := HKB.out i
      have hls := HL.out i
      have hrow := HM.out.row
      have hxl := hrow.1
      obtain ⟨K, hK⟩ : ∃ K, kAt ls k i = K := ⟨_, rfl⟩
      obtain ⟨A, hA⟩ : ∃ A, (ls.getD i (0, 0)).1 = A := ⟨_, rfl⟩
      obtain ⟨B, hB⟩ : ∃ B, (ls.getD i (0, 0)).2 = B := ⟨_, rfl⟩
      rw [hK] at hks q0 q3 q4
      rw [hA] at hls q3 q4
      rw [hB] at hls q4
      have HKn : Hid (kAt ls k (i + 1) = K + 1 + A + B) := by show _ = _; simp only [kAt]; rw [hK, hA, hB]
      try rw [hK]
      have c0 : wr.cell? ⟨g, i * 3, none⟩ = some (.string (mkText (K : Int))) := by rw [hrow.cellAt (i * 3) (by omega)]; exact q0
      have hgl : g < wr.heap.size := (Array.getElem?_eq_some_iff.1 hb).1
      have HC1 : Hid (∀ W, Below wr.heap.size wr W → W.cell? ⟨g, i * 3 + 1, none⟩ = some vt ∧ W.cell? ⟨g, i * 3 + 2, none⟩ = some vn) := fun W hW => by
        have hgl : g < wr.heap.size := (Array.getElem?_eq_some_iff.1 hb).1
        refine ⟨(hW.cell (p := ⟨g, i * 3 + 1, none⟩) hgl).trans ?_, (hW.cell (p := ⟨g, i * 3 + 2, none⟩) hgl).trans ?_⟩
        · rw [hrow.cellAt (i * 3 + 1) (by omega)]; exact q1
        · rw [hrow.cellAt (i * 3 + 2) (by omega)]; exact q2
      have HTs : Hid (∀ W, Below wr.heap.size wr W → W.ownsRow lo 9 1 vt A (markSs ((K : Int) + 1) A)) := fun W hW => own_keep q3 fun b hb' => hW.block b (q3.lt b hb').2
      have HNs : Hid (∀ W, Below wr.heap.size wr W → W.ownsRow lo 3 1 vn B (marks ((K : Int) + 1 + (A : Int)) B)) := fun W hW => own_keep q4 fun b hb' => hW.block b (q4.lt b hb').2
      have HMT := hidd (fun W => markText_any (K : Int) W (by omega) (by omega))
      clear hb hrow hK hA hB q0 q1 q2 q3 q4 q5 HM
      go_upto_region 4 with fail
      go_cut [19] (fun cv wy => cv = .bool false ∧ Below wr.heap.size wr wy)
      case first =>
        go_region_with (go_at_call 44; refine (HMT.out _).mono ?_; rintro e' w1 ⟨rfl, hb1⟩; have c0' : w1.cell? ⟨g, i * 3, none⟩ = some (.string (mkText (K : Int))) := (hb1.cell (p := ⟨g, i * 3, none⟩) hgl).trans c0)
        all_goals
          go_wp2_with fail
          go_meet
          exact ⟨rfl, (below_drewN (Below.refl _ _) 1).trans (hb1.mono (Nat.le_refl _))⟩
      case rest =>
        obtain ⟨rfl, hby⟩ := hcut
        have HBy := hidd hby
        have c1 := (HC1.out wc hby).1
        clear hby c0
        have HHs := hidd (heldStrs_own lo A vt ((K : Int) + 1) wc (by omega) (by omega) (by omega) (HTs.out wc HBy.out))
        go_wp2_with fail
        refine HHs.out.mono ?_
        rintro e w2 ⟨rfl, hb2⟩
        have HB2 := hidd (HBy.out.trans (hb2.mono HBy.out.size))
        have c2 := (HC1.out w2 HB2.out).2
        have hnn : ¬ ((K : Int) + 1 + (A : Int) < 0) := by omega
        clear hb2 HHs c1
        have HHi := hidd (heldInts_own lo B vn ((K : Int) + 1 + (A : Int)) w2 (by omega) (by omega) (by omega) (HNs.out w2 HB2.out))
        dsimp only
        go_wp2_with fail
        refine HHi.out.mono ?_
        rintro e w3 ⟨rfl, hw3⟩
        obtain rfl := hw3.symm
        have hnn2 : ¬ ((K : Int) + 1 + (A : Int) + (B : Int) < 0) := by omega
        clear hw3 HHi c2
        dsimp only
        go_wp2_with fail
        go_roundw
        case rel => exact ⟨i + 1, by omega, by rw [HKn.out]; go_num, by go_num, HB0.out.trans (HB2.out.mono HB0.out.size)⟩
        case measure => simp [intOf]; omega
    · have hltz : ¬ (i : Int) < (ls.length : Int) := by omega
      obtain rfl : i = ls.length := by omega
      obtain ⟨K, hK⟩ : ∃ K, kAt ls k ls.length = K := ⟨_, rfl⟩
      try rw [hK]
      have HKe := hidd hK
      clear hK
      go_wp2_with fail
      go_ret
      rw [HKe.out]
      exact ⟨rfl, HB0.out⟩
set_option maxHeartbeats 1000000 in
theorem markDocX (s : ByteArray) (lo hi k : Nat) (va : Value) (ls : List (Nat × Nat)) (xs : List Value) (w : World) (hlo : lo ≤ w.heap.size) (hhi : hi ≤ w.heap.size) (hn : ls.length ≤ 4096) (hl : ∀ j, (ls.getD j (0, 0)).1 ≤ 4096 ∧ (ls.getD j (0, 0)).2 ≤ 4096) (hk1 : 1 ≤ k) (hk : k ≤ 10) (h : MkS w lo hi va ls xs k 0) :
    Calls Tryd.prog 16 #[.agg #[.string s, va], .int .i64 (k : Int)] w fun e w' => e = .returned (.int .i64 ((kAt ls k ls.length : Nat) : Int)) ∧ (∃ xs', MkS w' lo hi va ls xs' k ls.length) ∧ MkFr lo hi w w' := by
  have HBa := hidd ((Below.refl w.heap.size w).alloc (Nat.le_refl _) (.cells #[.string s, va] 36))
  have hform : ∃ a c, va = .slice a ls.length c := by
    rcases h.row.2 with ⟨rfl, h0⟩ | ⟨g, cap, cur, rfl, _⟩
    · exact ⟨none, 0, by rw [h0]⟩
    · exact ⟨_, cap, rfl⟩
  obtain ⟨a, c, rfl⟩ := hform
  have HC := hidd (markValsX lo hi k (.slice a ls.length c) ls xs _ (by have := HBa.out.size; omega) (by have := HBa.out.size; omega) hn hl hk1 hk (h.below hhi HBa.out))
  clear h hl
  generalize kAt ls k ls.length = K at *
  go_enter Tryd.func16, Tryd.ntmps16
  go_wp2_with fail
  refine HC.out.mono ?_
  rintro e w3 ⟨rfl, hm, hf⟩
  have HM := hidd hm
  have HF := hidd ((MkFr.of HBa.out).trans hf)
  clear hm hf HC
  go_wp2_with fail
  go_ret
  exact ⟨rfl, HM.out, HF.out⟩
set_option maxHeartbeats 1000000 in
theorem heldDocX (s : ByteArray) (lo hi k : Nat) (va : Value) (ls : List (Nat × Nat)) (xs : List Value) (w : World) (hhi : hi ≤ w.heap.size) (hn : ls.length ≤ 4096) (hl : ∀ j, (ls.getD j (0, 0)).1 ≤ 4096 ∧ (ls.getD j (0, 0)).2 ≤ 4096) (hk1 : 1 ≤ k) (hk : k ≤ 10) (h : MkS w lo hi va ls xs k ls.length) :
    Calls Tryd.prog 17 #[.agg #[.string s, va], .int .i64 (k : Int)] w fun e w' => e = .returned (.int .i64 ((kAt ls k ls.length : Nat) : Int)) ∧ Below w.heap.size w w' := by
  have HBa := hidd ((Below.refl w.heap.size w).alloc (Nat.le_refl _) (.cells #[.string s, va] 36))
  have hform : ∃ a c, va = .slice a ls.length c := by
    rcases h.row.2 with ⟨rfl, h0⟩ | ⟨g, cap, cur, rfl, _⟩
    · exact ⟨none, 0, by rw [h0]⟩
    · exact ⟨_, cap, rfl⟩
  obtain ⟨a, c, rfl⟩ := hform
  have HC := hidd (heldValsX lo hi k (.slice a ls.length c) ls xs _ (by have := HBa.out.size; omega) hn hl hk1 hk (h.below hhi HBa.out))
  clear h hl
  generalize kAt ls k ls.length = K at *
  have hKn : ¬ ((K : Int) < 0) := by omega
  go_enter Tryd.func17, Tryd.ntmps17
  go_wp2_with fail
  refine HC.out.mono ?_
  rintro e w3 ⟨rfl, hb3⟩
  have HB3 := hidd (HBa.out.trans (hb3.mono HBa.out.size))
  clear hb3 HC
  go_wp2_with fail
  go_ret
  exact ⟨rfl, HB3.out⟩
end Go.Proofs.YtnekdkafhoacoaaDoor
