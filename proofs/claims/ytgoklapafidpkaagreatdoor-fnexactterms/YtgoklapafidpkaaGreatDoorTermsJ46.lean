import Derived.Test.YtgoklapafidpkaaGreatDoorTermsJ10
namespace Go.Proofs.YtgoklapafidpkaaGreatDoor
open Go Go.RowKit
set_option linter.unusedVariables false
set_option maxRecDepth 100000

theorem own9_lt {w : World} {base e sz g n cap : Nat} {xs : List Value} (h : w.ownsRow base e sz (.slice (some ⟨g, 0, none⟩) n cap) n xs) : g < w.heap.size := by
  rcases h.2 with ⟨h', _⟩ | ⟨g', cap', cur, h', _, hg, _⟩
  · simp at h'
  · cases h'
    exact (Array.getElem?_eq_some_iff.1 hg).1
theorem own9_below {w w' : World} {base e sz g cap n : Nat} {xs : List Value} (h : w.ownsRow base e sz (.slice (some ⟨g, 0, none⟩) n cap) n xs) (hb : Below w.heap.size w w') : w'.ownsRow base e sz (.slice (some ⟨g, 0, none⟩) n cap) n xs := by
  have hl := own9_lt h
  refine ⟨h.1, ?_⟩
  rcases h.2 with ⟨h', _⟩ | ⟨g', cap', cur, h1, h2, h3, h4⟩
  · simp at h'
  · cases h1
    exact Or.inr ⟨g, cap, cur, rfl, h2, (hb.block g hl).trans h3, h4⟩
/-- One field, as nine cells tell it, what it holds behind B. -/
def FdC (w : World) (B : Nat) (c : Nat → Option Value) (f : Fd) : Prop :=
  c 0 = some (.string (bs f.name)) ∧ c 1 = some (.int .i64 f.kind) ∧ c 2 = some (.bool f.bf) ∧ c 3 = some (.bool f.bsm) ∧ c 4 = some (.bool f.bp) ∧
  (∃ gS cS, c 5 = some (.slice (some ⟨gS, 0, none⟩) f.stops.length cS) ∧ B < gS ∧ HoldS w (some ⟨gS, 0, none⟩) f.stops) ∧
  (∃ gY cY, c 6 = some (.slice (some ⟨gY, 0, none⟩) f.syns.length cY) ∧ B < gY ∧ HoldY w (some ⟨gY, 0, none⟩) f.syns) ∧
  c 7 = some (.int .i64 f.lo) ∧ c 8 = some (.int .i64 f.hi)
theorem FdC.keep {w w' : World} {B : Nat} {c : Nat → Option Value} {f : Fd} (h : FdC w B c f) (hk : ∀ b, B < b → b < w.heap.size → w'.heap[b]? = w.heap[b]?) : FdC w' B c f := by
  obtain ⟨h0, h1, h2, h3, h4, ⟨gS, cS, h5, h5b, hS⟩, ⟨gY, cY, h6, h6b, hY⟩, h7, h8⟩ := h
  exact ⟨h0, h1, h2, h3, h4, ⟨gS, cS, h5, h5b, hS.keep fun hl => hk gS h5b hl⟩, ⟨gY, cY, h6, h6b, hY.keep fun hl => hk gY h6b hl⟩, h7, h8⟩
def CellsF (w : World) (B : Nat) (zs : List Value) (l : List Fd) (k : Nat) : Prop := zs.length = k * 9 ∧ ∀ j, j < k → FdC w B (fun i => zs[j * 9 + i]?) (l.getD j fd0)
theorem CellsF.keep {w w' : World} {B : Nat} {zs : List Value} {l : List Fd} {k : Nat} (h : CellsF w B zs l k) (hk : ∀ b, B < b → b < w.heap.size → w'.heap[b]? = w.heap[b]?) : CellsF w' B zs l k := ⟨h.1, fun j hj => (h.2 j hj).keep hk⟩
theorem FdC.congr {w : World} {B : Nat} {c c' : Nat → Option Value} {f : Fd} (h : FdC w B c f) (hc : ∀ i, i < 9 → c' i = c i) : FdC w B c' f := by
  obtain ⟨h0, h1, h2, h3, h4, ⟨gS, cS, h5, h5b, hS⟩, ⟨gY, cY, h6, h6b, hY⟩, h7, h8⟩ := h
  exact ⟨(hc 0 (by omega)).trans h0, (hc 1 (by omega)).trans h1, (hc 2 (by omega)).trans h2, (hc 3 (by omega)).trans h3, (hc 4 (by omega)).trans h4, ⟨gS, cS, (hc 5 (by omega)).trans h5, h5b, hS⟩, ⟨gY, cY, (hc 6 (by omega)).trans h6, h6b, hY⟩, (hc 7 (by omega)).trans h7, (hc 8 (by omega)).trans h8⟩
theorem CellsF.snoc {w : World} {B : Nat} {zs ys : List Value} {l : List Fd} {k : Nat} (h : CellsF w B zs l k) (hy : ys.length = 9) (hv : FdC w B (fun i => ys[i]?) (l.getD k fd0)) : CellsF w B (zs ++ ys) l (k + 1) := by
  have hl := h.1
  refine ⟨by rw [List.length_append, h.1, hy]; omega, fun j hj => ?_⟩
  by_cases e : j = k
  · subst e
    refine hv.congr fun i hi => ?_
    show (zs ++ ys)[j * 9 + i]? = ys[i]?
    rw [List.getElem?_append_right (by omega), hl, Nat.add_sub_cancel_left]
  · refine (h.2 j (by omega)).congr fun i hi => ?_
    show (zs ++ ys)[j * 9 + i]? = zs[j * 9 + i]?
    rw [List.getElem?_append_left (by omega)]
theorem holdF_of {w : World} {base g : Nat} {l : List Fd} {zs : List Value} (h : w.ownsRow base 79 9 (.slice (some ⟨g, 0, none⟩) l.length l.length) l.length zs) (hc : CellsF w g zs l l.length) : HoldF w (some ⟨g, 0, none⟩) l := by
  refine Or.inr ⟨g, 0, rfl, own9_lt h, fun j hj => ?_⟩
  have e : ∀ i, i < 9 → w.cell? ⟨g, 0 + j * 9 + i, none⟩ = zs[j * 9 + i]? := fun i hi => by
    rw [Nat.zero_add]
    exact h.cellAt (j * 9 + i) (by have := h.1; have := hc.1; omega)
  obtain ⟨h0, h1, h2, h3, h4, ⟨gS, cS, h5, _, hS⟩, ⟨gY, cY, h6, _, hY⟩, h7, h8⟩ := hc.2 j hj
  exact ⟨(e 0 (by omega)).trans h0, (e 1 (by omega)).trans h1, (e 2 (by omega)).trans h2, (e 3 (by omega)).trans h3, (e 4 (by omega)).trans h4, ⟨_, cS, (e 5 (by omega)).trans h5, hS⟩, ⟨_, cY, (e 6 (by omega)).trans h6, hY⟩, (e 7 (by omega)).trans h7, (e 8 (by omega)).trans h8⟩
/-- A row of fields of its own at g, what they hold behind it. -/
def FRow (w : World) (g : Nat) (l : List Fd) : Prop := ∃ base zs, w.ownsRow base 79 9 (.slice (some ⟨g, 0, none⟩) l.length l.length) l.length zs ∧ CellsF w g zs l l.length
theorem FRow.hold {w : World} {g : Nat} {l : List Fd} (h : FRow w g l) : HoldF w (some ⟨g, 0, none⟩) l := by
  obtain ⟨base, zs, h1, h2⟩ := h
  exact holdF_of h1 h2
theorem FRow.keep {w w' : World} {g : Nat} {l : List Fd} (h : FRow w g l) (hk : ∀ b, g ≤ b → b < w.heap.size → w'.heap[b]? = w.heap[b]?) : FRow w' g l := by
  obtain ⟨base, zs, h1, h2⟩ := h
  have hl := own9_lt h1
  refine ⟨base, zs, ⟨h1.1, ?_⟩, h2.keep fun b hb hb2 => hk b (by omega) hb2⟩
  rcases h1.2 with ⟨h', _⟩ | ⟨g', cap', cur, e1, e2, e3, e4⟩
  · simp at h'
  · cases e1
    exact Or.inr ⟨g, l.length, cur, rfl, e2, (hk g (Nat.le_refl _) hl).trans e3, e4⟩
set_option maxHeartbeats 4000000 in
theorem eqFieldDef_any (f : Fd) (g1 g2 h1 h2 k1 k2 l1 l2 : Nat) (w : World) (hnS : f.stops.length ≤ 1048576) (hnY : f.syns.length ≤ 1048576) (hS1 : HoldS w (some ⟨g1, 0, none⟩) f.stops) (hY1 : HoldY w (some ⟨g2, 0, none⟩) f.syns) (hS2 : HoldS w (some ⟨h1, 0, none⟩) f.stops) (hY2 : HoldY w (some ⟨h2, 0, none⟩) f.syns) :
    Calls Tryz.prog 76 #[.agg #[.string (bs f.name), .int .i64 f.kind, .bool f.bf, .bool f.bsm, .bool f.bp, .slice (some ⟨g1, 0, none⟩) f.stops.length k1, .slice (some ⟨g2, 0, none⟩) f.syns.length k2, .int .i64 f.lo, .int .i64 f.hi], .agg #[.string (bs f.name), .int .i64 f.kind, .bool f.bf, .bool f.bsm, .bool f.bp, .slice (some ⟨h1, 0, none⟩) f.stops.length l1, .slice (some ⟨h2, 0, none⟩) f.syns.length l2, .int .i64 f.lo, .int .i64 f.hi]] w fun e w' => e = .returned (.bool true) ∧ Below w.heap.size w w' := by
  have HE := hidd (fun W (hW : Below w.heap.size w W) => eqAz_any f.bf f.bsm f.bp g1 g2 h1 h2 k1 k2 l1 l2 f.stops f.syns f.lo f.hi W hnS hnY (hS1.below hW) (hY1.below hW) (hS2.below hW) (hY2.below hW))
  have HBa : Hid (Below w.heap.size w ((w.alloc (.cells #[.string (bs f.name), .int .i64 f.kind, .bool f.bf, .bool f.bsm, .bool f.bp, .slice (some ⟨g1, 0, none⟩) f.stops.length k1, .slice (some ⟨g2, 0, none⟩) f.syns.length k2, .int .i64 f.lo, .int .i64 f.hi] 79)).alloc (.cells #[.string (bs f.name), .int .i64 f.kind, .bool f.bf, .bool f.bsm, .bool f.bp, .slice (some ⟨h1, 0, none⟩) f.stops.length l1, .slice (some ⟨h2, 0, none⟩) f.syns.length l2, .int .i64 f.lo, .int .i64 f.hi] 79))) := ((Below.refl _ _).alloc (Nat.le_refl _) _).alloc (by simp) _
  clear hS1 hY1 hS2 hY2
  go_enter Tryz.func76, Tryz.ntmps76
  go_wp2_with fail
  refine (HE.out _ HBa.out).mono ?_
  rintro e w3 ⟨rfl, hb3⟩
  have HB3 := hidd (HBa.out.trans (hb3.mono HBa.out.size))
  clear hb3 HE
  dsimp only
  go_wp2_with fail
  go_ret
  exact ⟨rfl, HB3.out⟩
theorem FRow.at_ {w : World} {g : Nat} {l : List Fd} (h : FRow w g l) {j : Nat} (hj : j < l.length) : ∃ gS cS gY cY, w.cell? ⟨g, j * 9, none⟩ = some (.string (bs (l.getD j fd0).name)) ∧ w.cell? ⟨g, j * 9 + 1, none⟩ = some (.int .i64 (l.getD j fd0).kind) ∧ w.cell? ⟨g, j * 9 + 2, none⟩ = some (.bool (l.getD j fd0).bf) ∧ w.cell? ⟨g, j * 9 + 3, none⟩ = some (.bool (l.getD j fd0).bsm) ∧ w.cell? ⟨g, j * 9 + 4, none⟩ = some (.bool (l.getD j fd0).bp) ∧ w.cell? ⟨g, j * 9 + 5, none⟩ = some (.slice (some ⟨gS, 0, none⟩) (l.getD j fd0).stops.length cS) ∧ w.cell? ⟨g, j * 9 + 6, none⟩ = some (.slice (some ⟨gY, 0, none⟩) (l.getD j fd0).syns.length cY) ∧ w.cell? ⟨g, j * 9 + 7, none⟩ = some (.int .i64 (l.getD j fd0).lo) ∧ w.cell? ⟨g, j * 9 + 8, none⟩ = some (.int .i64 (l.getD j fd0).hi) ∧ HoldS w (some ⟨gS, 0, none⟩) (l.getD j fd0).stops ∧ HoldY w (some ⟨gY, 0, none⟩) (l.getD j fd0).syns := by
  obtain ⟨base, zs, h1, h2⟩ := h
  have e : ∀ i, i < 9 → w.cell? ⟨g, j * 9 + i, none⟩ = zs[j * 9 + i]? := fun i hi => h1.cellAt (j * 9 + i) (by have := h1.1; have := h2.1; omega)
  obtain ⟨q0, q1, q2, q3, q4, ⟨gS, cS, q5, _, hS⟩, ⟨gY, cY, q6, _, hY⟩, q7, q8⟩ := h2.2 j hj
  exact ⟨gS, cS, gY, cY, (e 0 (by omega)).trans q0, (e 1 (by omega)).trans q1, (e 2 (by omega)).trans q2, (e 3 (by omega)).trans q3, (e 4 (by omega)).trans q4, (e 5 (by omega)).trans q5, (e 6 (by omega)).trans q6, (e 7 (by omega)).trans q7, (e 8 (by omega)).trans q8, hS, hY⟩
theorem FRow.below {w w' : World} {g : Nat} {l : List Fd} (h : FRow w g l) (hb : Below w.heap.size w w') : FRow w' g l := h.keep fun b _ hb2 => hb.block b hb2
set_option maxHeartbeats 8000000 in
theorem eqFieldDefs_any (g1 g2 c1 c2 : Nat) (l : List Fd) (w : World) (hn : l.length ≤ 1048576) (hA : ∀ i, FdSz (l.getD i fd0)) (h1 : FRow w g1 l) (h2 : FRow w g2 l) :
    Calls Tryz.prog 36 #[.slice (some ⟨g1, 0, none⟩) l.length c1, .slice (some ⟨g2, 0, none⟩) l.length c2] w fun e w' => e = .returned (.bool true) ∧ Below w.heap.size w w' := by
  have H1 := hidd h1
  have H2 := hidd h2
  have HA := hidd hA
  clear h1 h2 hA
  go_enter Tryz.func36, Tryz.ntmps36
  go_wp2_with fail
  go_loopw [5] (fun iv wr => ∃ k : Nat, k ≤ l.length ∧ iv = .int .i64 (k : Int) ∧ Below w.heap.size w wr) (fun iv _ => l.length - (intOf iv).toNat)
  case atStart => exact ⟨0, Nat.zero_le _, rfl, Below.refl _ _⟩
  case round =>
    obtain ⟨k, hk, rfl, hbel⟩ := hrel
    have HB := hidd hbel
    clear hbel
    by_cases hlt : k < l.length
    · have hkz : (k : Int) < (l.length : Int) := by omega
      obtain ⟨gS, cS, gY, cY, x0, x1, x2, x3, x4, x5, x6, x7, x8, hS1, hY1⟩ := (H1.out.below HB.out).at_ hlt
      obtain ⟨pS, dS, pY, dY, y0, y1, y2, y3, y4, y5, y6, y7, y8, hS2, hY2⟩ := (H2.out.below HB.out).at_ hlt
      have hal := HA.out k
      generalize l.getD k fd0 = f at *
      have hbd := below_drewN (Below.refl wr.heap.size wr) 1
      have HC := hidd (eqFieldDef_any f gS gY pS pY cS cY dS dY wr.drew hal.2.1 hal.2.2.1 (hS1.below hbd) (hY1.below hbd) (hS2.below hbd) (hY2.below hbd))
      clear hS1 hY1 hS2 hY2 hal hbd
      go_wp2_with fail
      go_region_with (go_at_call 76; refine HC.out.mono ?_; rintro e' w3 ⟨rfl, hb3⟩)
      all_goals
        go_wp2_with fail
        go_roundw
        · exact ⟨k + 1, by omega, by go_num, HB.out.trans ((below_drewN (Below.refl _ _) 1).trans hb3 |>.mono HB.out.size)⟩
        · simp [intOf]; omega
    · have hkz : ¬ (k : Int) < (l.length : Int) := by omega
      go_wp2_with fail
      go_ret
      exact ⟨rfl, HB.out⟩
set_option maxHeartbeats 2000000 in
theorem eqSchema_any (g1 g2 c1 c2 : Nat) (l : List Fd) (w : World) (hn : l.length ≤ 1048576) (hA : ∀ i, FdSz (l.getD i fd0)) (h1 : FRow w g1 l) (h2 : FRow w g2 l) :
    Calls Tryz.prog 12 #[.agg #[.slice (some ⟨g1, 0, none⟩) l.length c1], .agg #[.slice (some ⟨g2, 0, none⟩) l.length c2]] w fun e w' => e = .returned (.bool true) ∧ Below w.heap.size w w' := by
  have HBa : Hid (Below w.heap.size w ((w.alloc (.cells #[.slice (some ⟨g1, 0, none⟩) l.length c1] 33)).alloc (.cells #[.slice (some ⟨g2, 0, none⟩) l.length c2] 33))) := ((Below.refl _ _).alloc (Nat.le_refl _) _).alloc (by simp) _
  have HE := hidd (eqFieldDefs_any g1 g2 c1 c2 l _ hn hA (h1.below HBa.out) (h2.below HBa.out))
  clear h1 h2 hA
  go_enter Tryz.func12, Tryz.ntmps12
  go_wp2_with fail
  refine HE.out.mono ?_
  rintro e w3 ⟨rfl, hb3⟩
  have HB3 := hidd (HBa.out.trans (hb3.mono HBa.out.size))
  clear hb3 HE
  dsimp only
  go_wp2_with fail
  go_ret
  exact ⟨rfl, HB3.out⟩
end Go.Proofs.YtgoklapafidpkaaGreatDoor
