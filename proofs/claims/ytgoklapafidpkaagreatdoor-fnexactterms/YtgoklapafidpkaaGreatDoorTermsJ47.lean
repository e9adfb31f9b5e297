import Derived.Test.YtgoklapafidpkaaGreatDoorTermsJ46
import Derived.Test.YtgoklapafidpkaaGreatDoorTermsJ45
namespace Go.Proofs.YtgoklapafidpkaaGreatDoor
open Go Go.RowKit
set_option linter.unusedVariables false
set_option linter.unusedSimpArgs false
set_option maxRecDepth 100000

def HoldSR (w : World) (g : Nat) (l : List (List UInt8)) : Prop := HoldS w (some ⟨g, 0, none⟩) l ∧ RowN w g l.length 9
def HoldYR (w : World) (g : Nat) (l : List (List UInt8 × List UInt8)) : Prop := HoldY w (some ⟨g, 0, none⟩) l ∧ RowN w g (l.length * 2) 156
theorem RowN.lt {w : World} {g n : Nat} {ty : TypeId} (h : RowN w g n ty) : g < w.heap.size := by
  obtain ⟨cur, h1, _⟩ := h
  exact (Array.getElem?_eq_some_iff.1 h1).1
theorem HoldSR.keep {w w' : World} {g : Nat} {l : List (List UInt8)} (h : HoldSR w g l) (hk : g < w.heap.size → w'.heap[g]? = w.heap[g]?) : HoldSR w' g l :=
  ⟨h.1.keep hk, by obtain ⟨cur, h1, h2⟩ := h.2; exact ⟨cur, (hk h.2.lt).trans h1, h2⟩⟩
theorem HoldYR.keep {w w' : World} {g : Nat} {l : List (List UInt8 × List UInt8)} (h : HoldYR w g l) (hk : g < w.heap.size → w'.heap[g]? = w.heap[g]?) : HoldYR w' g l :=
  ⟨h.1.keep hk, by obtain ⟨cur, h1, h2⟩ := h.2; exact ⟨cur, (hk h.2.lt).trans h1, h2⟩⟩
theorem rowN_own {w : World} {base e sz g n cap : Nat} {xs : List Value} (h : w.ownsRow base e sz (.slice (some ⟨g, 0, none⟩) n cap) n xs) : RowN w g (n * sz) e := by
  rcases h.2 with ⟨h', _⟩ | ⟨g', cap', cur, h1, _, h3, h4, _, h6, _⟩
  · simp at h'
  · cases h1
    exact ⟨cur, h3, by rw [h6]; exact Nat.mul_le_mul_right _ h4⟩
set_option maxHeartbeats 4000000 in
theorem toFieldDefR_any (f : Fd) (aS aY : Option Addr) (cS cY : Nat) (w : World) (hnS : f.stops.length ≤ 1048576) (hnY : f.syns.length ≤ 1048576) (hS : HoldS w aS f.stops) (hY : HoldY w aY f.syns) :
    Calls Tryz.prog 68 #[.agg #[.string (bs f.name), .int .i64 f.kind, .bool f.bf, .bool f.bsm, .bool f.bp, .slice aS f.stops.length cS, .slice aY f.syns.length cY, .int .i64 f.lo, .int .i64 f.hi]] w fun e w' => ∃ gS gY, e = .returned (.agg #[.string (bs f.name), .int .i64 f.kind, .bool f.bf, .bool f.bsm, .bool f.bp, .slice (some ⟨gS, 0, none⟩) f.stops.length f.stops.length, .slice (some ⟨gY, 0, none⟩) f.syns.length f.syns.length, .int .i64 f.lo, .int .i64 f.hi]) ∧ w.heap.size ≤ gS ∧ w.heap.size ≤ gY ∧ HoldSR w' gS f.stops ∧ HoldYR w' gY f.syns ∧ Below w.heap.size w w' := by
  have HS := hidd hS
  have HY := hidd hY
  have HT := hidd (fun W (h2 : HoldS W aS f.stops) (h3 : HoldY W aY f.syns) => toAz_any f.bf f.bsm f.bp aS aY cS cY f.stops f.syns f.lo f.hi W hnS hnY h2 h3)
  clear hS hY
  go_enter Tryz.func68, Tryz.ntmps68
  go_wp2_with fail
  have hk := alloc3 w (.cells #[.string (bs f.name), .int .i64 f.kind, .bool f.bf, .bool f.bsm, .bool f.bp, .slice aS f.stops.length cS, .slice aY f.syns.length cY, .int .i64 f.lo, .int .i64 f.hi] 113) (.cells #[.string ⟨#[]⟩, .int .i64 0, .bool false, .bool false, .bool false, .slice none 0 0, .slice none 0 0, .int .i64 0, .int .i64 0] 79) (.cells #[.string (bs f.name), .int .i64 f.kind, .bool false, .bool false, .bool false, .slice none 0 0, .slice none 0 0, .int .i64 0, .int .i64 0] 79)
  have HB3 : Hid (Below w.heap.size w (((w.alloc (.cells #[.string (bs f.name), .int .i64 f.kind, .bool f.bf, .bool f.bsm, .bool f.bp, .slice aS f.stops.length cS, .slice aY f.syns.length cY, .int .i64 f.lo, .int .i64 f.hi] 113)).alloc (.cells #[.string ⟨#[]⟩, .int .i64 0, .bool false, .bool false, .bool false, .slice none 0 0, .slice none 0 0, .int .i64 0, .int .i64 0] 79)).alloc (.cells #[.string (bs f.name), .int .i64 f.kind, .bool false, .bool false, .bool false, .slice none 0 0, .slice none 0 0, .int .i64 0, .int .i64 0] 79))) := (((Below.refl _ _).alloc (Nat.le_refl _) _).alloc (by simp) _).alloc (by simp; omega) _
  have hsz3 : w.heap.size + 1 + 1 < (((w.alloc (.cells #[.string (bs f.name), .int .i64 f.kind, .bool f.bf, .bool f.bsm, .bool f.bp, .slice aS f.stops.length cS, .slice aY f.syns.length cY, .int .i64 f.lo, .int .i64 f.hi] 113)).alloc (.cells #[.string ⟨#[]⟩, .int .i64 0, .bool false, .bool false, .bool false, .slice none 0 0, .slice none 0 0, .int .i64 0, .int .i64 0] 79)).alloc (.cells #[.string (bs f.name), .int .i64 f.kind, .bool false, .bool false, .bool false, .slice none 0 0, .slice none 0 0, .int .i64 0, .int .i64 0] 79)).heap.size := by simp
  simp only [] at hk
  generalize ((w.alloc (.cells #[.string (bs f.name), .int .i64 f.kind, .bool f.bf, .bool f.bsm, .bool f.bp, .slice aS f.stops.length cS, .slice aY f.syns.length cY, .int .i64 f.lo, .int .i64 f.hi] 113)).alloc (.cells #[.string ⟨#[]⟩, .int .i64 0, .bool false, .bool false, .bool false, .slice none 0 0, .slice none 0 0, .int .i64 0, .int .i64 0] 79)).alloc (.cells #[.string (bs f.name), .int .i64 f.kind, .bool false, .bool false, .bool false, .slice none 0 0, .slice none 0 0, .int .i64 0, .int .i64 0] 79) = W3 at *
  have HK := hidd hk
  clear hk
  refine (HT.out W3 (HS.out.below HB3.out) (HY.out.below HB3.out)).mono ?_
  rintro e w4 ⟨g1, g2, rfl, hown1, hown2, hne, hb4⟩
  have q1 : W3.heap.size ≤ g1 := own_base hown1
  have q2 : W3.heap.size ≤ g2 := own_base hown2
  have HS4 := hidd (show HoldSR w4 g1 f.stops from ⟨holdS_own hown1, by simpa using rowN_own hown1⟩)
  have HY4 := hidd (show HoldYR w4 g2 f.syns from ⟨holdY_own hown2, rowN_own hown2⟩)
  have HB4 : Hid (Below w.heap.size w w4) := HB3.out.trans (hb4.mono (by omega))
  have k1 := blk_old HK.out.2.1 hb4
  have k2 := blk_old HK.out.2.2 hb4
  have c0 := blk_cell k2 0
  have y0 := blk_fz k2 0
  have d0 := blk_cell k1 0
  have x0 := blk_fz k1 0
  have c1 := blk_cell k2 1
  have y1 := blk_fz k2 1
  have d1 := blk_cell k1 1
  have x1 := blk_fz k1 1
  have c2 := blk_cell k2 2
  have y2 := blk_fz k2 2
  have d2 := blk_cell k1 2
  have x2 := blk_fz k1 2
  have c3 := blk_cell k2 3
  have y3 := blk_fz k2 3
  have d3 := blk_cell k1 3
  have x3 := blk_fz k1 3
  have c4 := blk_cell k2 4
  have y4 := blk_fz k2 4
  have d4 := blk_cell k1 4
  have x4 := blk_fz k1 4
  have c5 := blk_cell k2 5
  have y5 := blk_fz k2 5
  have d5 := blk_cell k1 5
  have x5 := blk_fz k1 5
  have c6 := blk_cell k2 6
  have y6 := blk_fz k2 6
  have d6 := blk_cell k1 6
  have x6 := blk_fz k1 6
  have c7 := blk_cell k2 7
  have y7 := blk_fz k2 7
  have d7 := blk_cell k1 7
  have x7 := blk_fz k1 7
  have c8 := blk_cell k2 8
  have y8 := blk_fz k2 8
  have d8 := blk_cell k1 8
  have x8 := blk_fz k1 8
  simp only [List.getElem?_toArray, List.getElem?_cons_zero, List.getElem?_cons_succ] at c0 c1 c2 c3 c4 c5 c6 c7 c8 d0 d1 d2 d3 d4 d5 d6 d7 d8
  have K1 := hidd k1
  have K2 := hidd k2
  clear hown1 hown2 hb4 HK HB3 HS HY HT k1 k2
  dsimp only
  go_upto_region 5 with fail
  clear c0 d0 x0 y0 c1 d1 x1 y1 c2 d2 x2 y2 c3 d3 x3 y3 c4 d4 x4 y4 c5 d5 x5 y5 c6 d6 x6 y6 c7 d7 x7 y7 c8 d8 x8 y8
  have m2 : (((((((w4.setCell ⟨w.heap.size + 1 + 1, 2, none⟩ (.bool f.bf)).setCell ⟨w.heap.size + 1 + 1, 3, none⟩ (.bool f.bsm)).setCell ⟨w.heap.size + 1 + 1, 4, none⟩ (.bool f.bp)).setCell ⟨w.heap.size + 1 + 1, 5, none⟩ (.slice (some ⟨g1, 0, none⟩) f.stops.length f.stops.length)).setCell ⟨w.heap.size + 1 + 1, 6, none⟩ (.slice (some ⟨g2, 0, none⟩) f.syns.length f.syns.length)).setCell ⟨w.heap.size + 1 + 1, 7, none⟩ (.int .i64 f.lo)).setCell ⟨w.heap.size + 1 + 1, 8, none⟩ (.int .i64 f.hi)).heap[w.heap.size + 1 + 1]? = some (.cells #[.string (bs f.name), .int .i64 f.kind, .bool f.bf, .bool f.bsm, .bool f.bp, .slice (some ⟨g1, 0, none⟩) f.stops.length f.stops.length, .slice (some ⟨g2, 0, none⟩) f.syns.length f.syns.length, .int .i64 f.lo, .int .i64 f.hi] 79) := (blk_set (blk_set (blk_set (blk_set (blk_set (blk_set (blk_set K2.out 2 (.bool f.bf)) 3 (.bool f.bsm)) 4 (.bool f.bp)) 5 (.slice (some ⟨g1, 0, none⟩) f.stops.length f.stops.length)) 6 (.slice (some ⟨g2, 0, none⟩) f.syns.length f.syns.length)) 7 (.int .i64 f.lo)) 8 (.int .i64 f.hi))
  have m1 : (((((((w4.setCell ⟨w.heap.size + 1 + 1, 2, none⟩ (.bool f.bf)).setCell ⟨w.heap.size + 1 + 1, 3, none⟩ (.bool f.bsm)).setCell ⟨w.heap.size + 1 + 1, 4, none⟩ (.bool f.bp)).setCell ⟨w.heap.size + 1 + 1, 5, none⟩ (.slice (some ⟨g1, 0, none⟩) f.stops.length f.stops.length)).setCell ⟨w.heap.size + 1 + 1, 6, none⟩ (.slice (some ⟨g2, 0, none⟩) f.syns.length f.syns.length)).setCell ⟨w.heap.size + 1 + 1, 7, none⟩ (.int .i64 f.lo)).setCell ⟨w.heap.size + 1 + 1, 8, none⟩ (.int .i64 f.hi)).heap[w.heap.size + 1]? = w4.heap[w.heap.size + 1]? := by
    iterate 7 rw [heap_set_oth _ _ _ _ _ (by omega)]
  have hkeep : ∀ g, w.heap.size + 1 + 1 < g → (((((((w4.setCell ⟨w.heap.size + 1 + 1, 2, none⟩ (.bool f.bf)).setCell ⟨w.heap.size + 1 + 1, 3, none⟩ (.bool f.bsm)).setCell ⟨w.heap.size + 1 + 1, 4, none⟩ (.bool f.bp)).setCell ⟨w.heap.size + 1 + 1, 5, none⟩ (.slice (some ⟨g1, 0, none⟩) f.stops.length f.stops.length)).setCell ⟨w.heap.size + 1 + 1, 6, none⟩ (.slice (some ⟨g2, 0, none⟩) f.syns.length f.syns.length)).setCell ⟨w.heap.size + 1 + 1, 7, none⟩ (.int .i64 f.lo)).setCell ⟨w.heap.size + 1 + 1, 8, none⟩ (.int .i64 f.hi)).heap[g]? = w4.heap[g]? := fun g hg => by
    iterate 7 rw [heap_set_oth _ _ _ _ _ (by omega)]
  have HB5 : Hid (Below w.heap.size w (((((((w4.setCell ⟨w.heap.size + 1 + 1, 2, none⟩ (.bool f.bf)).setCell ⟨w.heap.size + 1 + 1, 3, none⟩ (.bool f.bsm)).setCell ⟨w.heap.size + 1 + 1, 4, none⟩ (.bool f.bp)).setCell ⟨w.heap.size + 1 + 1, 5, none⟩ (.slice (some ⟨g1, 0, none⟩) f.stops.length f.stops.length)).setCell ⟨w.heap.size + 1 + 1, 6, none⟩ (.slice (some ⟨g2, 0, none⟩) f.syns.length f.syns.length)).setCell ⟨w.heap.size + 1 + 1, 7, none⟩ (.int .i64 f.lo)).setCell ⟨w.heap.size + 1 + 1, 8, none⟩ (.int .i64 f.hi))) := by
    show Below _ _ _
    iterate 7 refine Below.setCell ?_ (by dsimp only; omega) _
    exact HB4.out
  generalize (((((((w4.setCell ⟨w.heap.size + 1 + 1, 2, none⟩ (.bool f.bf)).setCell ⟨w.heap.size + 1 + 1, 3, none⟩ (.bool f.bsm)).setCell ⟨w.heap.size + 1 + 1, 4, none⟩ (.bool f.bp)).setCell ⟨w.heap.size + 1 + 1, 5, none⟩ (.slice (some ⟨g1, 0, none⟩) f.stops.length f.stops.length)).setCell ⟨w.heap.size + 1 + 1, 6, none⟩ (.slice (some ⟨g2, 0, none⟩) f.syns.length f.syns.length)).setCell ⟨w.heap.size + 1 + 1, 7, none⟩ (.int .i64 f.lo)).setCell ⟨w.heap.size + 1 + 1, 8, none⟩ (.int .i64 f.hi)) = w5 at *
  rw [K1.out] at m1
  have HS5 := hidd (HS4.out.keep fun _ => hkeep g1 (by omega))
  have HY5 := hidd (HY4.out.keep fun _ => hkeep g2 (by omega))
  have c0 := blk_cell m2 0
  have d0 := blk_cell m1 0
  have x0 := blk_fz m1 0
  have c1 := blk_cell m2 1
  have d1 := blk_cell m1 1
  have x1 := blk_fz m1 1
  have c2 := blk_cell m2 2
  have d2 := blk_cell m1 2
  have x2 := blk_fz m1 2
  have c3 := blk_cell m2 3
  have d3 := blk_cell m1 3
  have x3 := blk_fz m1 3
  have c4 := blk_cell m2 4
  have d4 := blk_cell m1 4
  have x4 := blk_fz m1 4
  have c5 := blk_cell m2 5
  have d5 := blk_cell m1 5
  have x5 := blk_fz m1 5
  have c6 := blk_cell m2 6
  have d6 := blk_cell m1 6
  have x6 := blk_fz m1 6
  have c7 := blk_cell m2 7
  have d7 := blk_cell m1 7
  have x7 := blk_fz m1 7
  have c8 := blk_cell m2 8
  have d8 := blk_cell m1 8
  have x8 := blk_fz m1 8
  simp only [List.getElem?_toArray, List.getElem?_cons_zero, List.getElem?_cons_succ] at c0 c1 c2 c3 c4 c5 c6 c7 c8 d0 d1 d2 d3 d4 d5 d6 d7 d8
  clear m1 m2 hkeep HS4 HY4 HB4 K1 K2
  go_wp2_with fail
  refine bodyPost_ret (v := .agg #[.string (bs f.name), .int .i64 f.kind, .bool f.bf, .bool f.bsm, .bool f.bp, .slice (some ⟨g1, 0, none⟩) f.stops.length f.stops.length, .slice (some ⟨g2, 0, none⟩) f.syns.length f.syns.length, .int .i64 f.lo, .int .i64 f.hi]) (by simp [results, Tryz.results68, go_sem, *]) rfl ?_
  refine ⟨g1, g2, rfl, by omega, by omega, ?_, ?_, ?_⟩
  · refine HS5.out.keep fun _ => ?_
    iterate 9 rw [heap_set_oth _ _ _ _ _ (by omega)]
  · refine HY5.out.keep fun _ => ?_
    iterate 9 rw [heap_set_oth _ _ _ _ _ (by omega)]
  · iterate 9 refine Below.setCell ?_ (by dsimp only; omega) _
    exact HB5.out
/-- One field, as nine cells tell it, what it holds behind B. -/
def FdCR (w : World) (B : Nat) (c : Nat → Option Value) (f : Fd) : Prop :=
  c 0 = some (.string (bs f.name)) ∧ c 1 = some (.int .i64 f.kind) ∧ c 2 = some (.bool f.bf) ∧ c 3 = some (.bool f.bsm) ∧ c 4 = some (.bool f.bp) ∧
  (∃ gS cS, c 5 = some (.slice (some ⟨gS, 0, none⟩) f.stops.length cS) ∧ B < gS ∧ HoldSR w gS f.stops) ∧
  (∃ gY cY, c 6 = some (.slice (some ⟨gY, 0, none⟩) f.syns.length cY) ∧ B < gY ∧ HoldYR w gY f.syns) ∧
  c 7 = some (.int .i64 f.lo) ∧ c 8 = some (.int .i64 f.hi)
theorem FdCR.keep {w w' : World} {B : Nat} {c : Nat → Option Value} {f : Fd} (h : FdCR w B c f) (hk : ∀ b, B < b → b < w.heap.size → w'.heap[b]? = w.heap[b]?) : FdCR w' B c f := by
  obtain ⟨h0, h1, h2, h3, h4, ⟨gS, cS, h5, h5b, hS⟩, ⟨gY, cY, h6, h6b, hY⟩, h7, h8⟩ := h
  exact ⟨h0, h1, h2, h3, h4, ⟨gS, cS, h5, h5b, hS.keep fun hl => hk gS h5b hl⟩, ⟨gY, cY, h6, h6b, hY.keep fun hl => hk gY h6b hl⟩, h7, h8⟩
def CellsFR (w : World) (B : Nat) (zs : List Value) (l : List Fd) (k : Nat) : Prop := zs.length = k * 9 ∧ ∀ j, j < k → FdCR w B (fun i => zs[j * 9 + i]?) (l.getD j fd0)
theorem CellsFR.keep {w w' : World} {B : Nat} {zs : List Value} {l : List Fd} {k : Nat} (h : CellsFR w B zs l k) (hk : ∀ b, B < b → b < w.heap.size → w'.heap[b]? = w.heap[b]?) : CellsFR w' B zs l k := ⟨h.1, fun j hj => (h.2 j hj).keep hk⟩
theorem FdCR.congr {w : World} {B : Nat} {c c' : Nat → Option Value} {f : Fd} (h : FdCR w B c f) (hc : ∀ i, i < 9 → c' i = c i) : FdCR w B c' f := by
  obtain ⟨h0, h1, h2, h3, h4, ⟨gS, cS, h5, h5b, hS⟩, ⟨gY, cY, h6, h6b, hY⟩, h7, h8⟩ := h
  exact ⟨(hc 0 (by omega)).trans h0, (hc 1 (by omega)).trans h1, (hc 2 (by omega)).trans h2, (hc 3 (by omega)).trans h3, (hc 4 (by omega)).trans h4, ⟨gS, cS, (hc 5 (by omega)).trans h5, h5b, hS⟩, ⟨gY, cY, (hc 6 (by omega)).trans h6, h6b, hY⟩, (hc 7 (by omega)).trans h7, (hc 8 (by omega)).trans h8⟩
theorem CellsFR.snoc {w : World} {B : Nat} {zs ys : List Value} {l : List Fd} {k : Nat} (h : CellsFR w B zs l k) (hy : ys.length = 9) (hv : FdCR w B (fun i => ys[i]?) (l.getD k fd0)) : CellsFR w B (zs ++ ys) l (k + 1) := by
  have hl := h.1
  refine ⟨by rw [List.length_append, h.1, hy]; omega, fun j hj => ?_⟩
  by_cases e : j = k
  · subst e
    refine hv.congr fun i hi => ?_
    show (zs ++ ys)[j * 9 + i]? = ys[i]?
    rw [List.getElem?_append_right (by omega), hl, Nat.add_sub_cancel_left]
  · refine (h.2 j (by omega)).congr fun i hi => ?_
    show (zs ++ ys)[j * 9 + i]? = zs[j * 9 + i]?
    rw [List.getElem?_append_left (by omega)]
/-- A row of fields of its own at g, what they hold behind it. -/
def FRowR (w : World) (g : Nat) (l : List Fd) : Prop := ∃ base zs, w.ownsRow base 79 9 (.slice (some ⟨g, 0, none⟩) l.length l.length) l.length zs ∧ CellsFR w g zs l l.length
theorem FRowR.keep {w w' : World} {g : Nat} {l : List Fd} (h : FRowR w g l) (hk : ∀ b, g ≤ b → b < w.heap.size → w'.heap[b]? = w.heap[b]?) : FRowR w' g l := by
  obtain ⟨base, zs, h1, h2⟩ := h
  have hl := own9_lt h1
  refine ⟨base, zs, ⟨h1.1, ?_⟩, h2.keep fun b hb hb2 => hk b (by omega) hb2⟩
  rcases h1.2 with ⟨h', _⟩ | ⟨g', cap', cur, e1, e2, e3, e4⟩
  · simp at h'
  · cases e1
    exact Or.inr ⟨g, l.length, cur, rfl, e2, (hk g (Nat.le_refl _) hl).trans e3, e4⟩
set_option maxHeartbeats 8000000 in
theorem toFieldDefsR_any (a : Option Addr) (cap : Nat) (l : List Fd) (w : World) (hn : l.length ≤ 1048576) (hA : ∀ i, FdSz (l.getD i fd0)) (hS : HoldF w a l) :
    Calls Tryz.prog 32 #[.slice a l.length cap] w fun e w' => e = .returned (.slice (some ⟨w.heap.size, 0, none⟩) l.length l.length) ∧ FRowR w' w.heap.size l ∧ w.heap.size < w'.heap.size ∧ Below w.heap.size w w' := by
  obtain ⟨i0, hi, hz0, hz1, hz2⟩ := info_parts Tryz.infoFd
  have HS := hidd hS
  have HA := hidd hA
  clear hS hA
  go_enter Tryz.func32, Tryz.ntmps32
  go_wp2_with (at_make; refine wpList_make_full _ rfl _ _ 31 rfl w.heap.size 79 i0 (.agg #[.string ⟨#[]⟩, .int .i64 0, .bool false, .bool false, .bool false, .slice none 0 0, .slice none 0 0, .int .i64 0, .int .i64 0]) 9 Tryz.underlying31 hi hz0 hz1 _ _ _ _ l.length rfl rfl (by omega) (by omega) ?b2 ?b3 (Nat.le_refl _) ?_)
  case b2 => (first | omega | (rw [hz2]; omega))
  case b3 => unfold maxLen; omega
  intro w0 hown0 hgrow0
  generalize (madeCells #[.string ⟨#[]⟩, .int .i64 0, .bool false, .bool false, .bool false, .slice none 0 0, .slice none 0 0, .int .i64 0, .int .i64 0] (l.length * 9)).toList = xs at hown0
  have hxl : xs.length = l.length * 9 := by have := hown0.1; omega
  have HO0 := hidd hown0
  have HB0 : Hid (Below w.heap.size w w0) := (Below.refl _ _).grown hgrow0 (Nat.le_refl _) (fun k h => by cases h)
  clear hown0 hgrow0
  go_wp2
  go_loopw [4] (fun i wr => ∃ (k : Nat) (zs : List Value), k ≤ l.length ∧ i = .int .i64 k ∧ wr.ownsRow w.heap.size 79 9 (.slice (some ⟨w.heap.size, 0, none⟩) l.length l.length) l.length (zs ++ xs.drop (k * 9)) ∧ CellsFR wr w.heap.size zs l k ∧ Below w.heap.size w wr) (fun i _ => l.length - (intOf i).toNat)
  case atStart => exact ⟨0, [], Nat.zero_le _, rfl, HO0.out, ⟨rfl, fun j hj => absurd hj (by omega)⟩, HB0.out⟩
  case round =>
    obtain ⟨k, zs, hk, rfl, hown, hcs, hbel⟩ := hrel
    have HO := hidd hown
    have HB := hidd hbel
    have HC := hidd hcs
    have hrl : w.heap.size < wr.heap.size := own9_lt hown
    clear hcs
    by_cases hlt : k < l.length
    · obtain ⟨b, off, rfl, hbl, hc⟩ := (HS.out.below hbel).resolve_left (fun h => by rw [h] at hlt; simp at hlt)
      obtain ⟨x0, x1, x2, x3, x4, ⟨aS, cS, x5, hSt⟩, ⟨aY, cY, x6, hYt⟩, x7, x8⟩ := hc k hlt
      have hal := HA.out k
      clear hown hbel hc
      obtain ⟨f, hf⟩ : ∃ f, l.getD k fd0 = f := ⟨_, rfl⟩
      rw [hf] at x0 x1 x2 x3 x4 x5 x6 x7 x8 hSt hYt hal
      have Hf := hidd hf
      clear hf
      have HV := hidd (toFieldDefR_any f aS aY cS cY wr hal.2.1 hal.2.2.1 hSt hYt)
      clear hSt hYt hal
      go_wp2_with fail
      refine HV.out.mono ?_
      rintro e w2 ⟨gS, gY, rfl, hgS, hgY, hrS, hrY, hb2⟩
      have hown2 := own9_below HO.out hb2
      have HB2 := hidd (HB.out.trans (hb2.mono HB.out.size))
      have HC2 := hidd (CellsFR.snoc (ys := [.string (bs f.name), .int .i64 f.kind, .bool f.bf, .bool f.bsm, .bool f.bp, .slice (some ⟨gS, 0, none⟩) f.stops.length f.stops.length, .slice (some ⟨gY, 0, none⟩) f.syns.length f.syns.length, .int .i64 f.lo, .int .i64 f.hi]) (HC.out.keep fun x _ hx => hb2.block x hx) rfl (by rw [Hf.out]; exact ⟨rfl, rfl, rfl, rfl, rfl, ⟨gS, _, rfl, by omega, hrS⟩, ⟨gY, _, rfl, by omega, hrY⟩, rfl, rfl⟩))
      clear x0 x1 x2 x3 x4 x5 x6 x7 x8
      have f0 := hown2.frozenAt (k * 9)
      have f1 := hown2.frozenAt (k * 9 + 1)
      have f2 := hown2.frozenAt (k * 9 + 2)
      have f3 := hown2.frozenAt (k * 9 + 3)
      have f4 := hown2.frozenAt (k * 9 + 4)
      have f5 := hown2.frozenAt (k * 9 + 5)
      have f6 := hown2.frozenAt (k * 9 + 6)
      have f7 := hown2.frozenAt (k * 9 + 7)
      have f8 := hown2.frozenAt (k * 9 + 8)
      have hzl := HC.out.1
      have hlen : (zs ++ xs.drop (k * 9)).length = l.length * 9 := by rw [List.length_append, hzl, List.length_drop]; omega
      have hex : ∀ j, j < l.length * 9 → ∃ u, w2.cell? ⟨w.heap.size, j, none⟩ = some u := fun j hj => by
        rw [hown2.cellAt j hj]
        exact ⟨_, List.getElem?_eq_getElem (by omega)⟩
      obtain ⟨u0, q0⟩ := hex (k * 9) (by omega)
      obtain ⟨u1, q1⟩ := hex (k * 9 + 1) (by omega)
      obtain ⟨u2, q2⟩ := hex (k * 9 + 2) (by omega)
      obtain ⟨u3, q3⟩ := hex (k * 9 + 3) (by omega)
      obtain ⟨u4, q4⟩ := hex (k * 9 + 4) (by omega)
      obtain ⟨u5, q5⟩ := hex (k * 9 + 5) (by omega)
      obtain ⟨u6, q6⟩ := hex (k * 9 + 6) (by omega)
      obtain ⟨u7, q7⟩ := hex (k * 9 + 7) (by omega)
      obtain ⟨u8, q8⟩ := hex (k * 9 + 8) (by omega)
      have HO2 := hidd hown2
      have HSet := hidd (setNine zs xs k l.length (.string (bs f.name)) (.int .i64 f.kind) (.bool f.bf) (.bool f.bsm) (.bool f.bp) (.slice (some ⟨gS, 0, none⟩) f.stops.length f.stops.length) (.slice (some ⟨gY, 0, none⟩) f.syns.length f.syns.length) (.int .i64 f.lo) (.int .i64 f.hi) hzl hxl hlt)
      clear hown2 hb2 hex hlen HO HB HC HV hrS hrY
      dsimp only
      go_wp2
      go_roundw
      case rel =>
        have s0 := HO2.out.stored (k * 9) (.string (bs f.name))
        have s1 := s0.1.stored (k * 9 + 1) (.int .i64 f.kind)
        have s2 := s1.1.stored (k * 9 + 2) (.bool f.bf)
        have s3 := s2.1.stored (k * 9 + 3) (.bool f.bsm)
        have s4 := s3.1.stored (k * 9 + 4) (.bool f.bp)
        have s5 := s4.1.stored (k * 9 + 5) (.slice (some ⟨gS, 0, none⟩) f.stops.length f.stops.length)
        have s6 := s5.1.stored (k * 9 + 6) (.slice (some ⟨gY, 0, none⟩) f.syns.length f.syns.length)
        have s7 := s6.1.stored (k * 9 + 7) (.int .i64 f.lo)
        have s8 := s7.1.stored (k * 9 + 8) (.int .i64 f.hi)
        have st := s8.1
        rw [HSet.out] at st
        refine ⟨k + 1, _, by omega, by go_num, st, HC2.out.keep (fun x hx _ => ?_), ?_⟩
        · iterate 9 rw [heap_set_oth _ _ _ _ _ (by omega)]
        · iterate 9 refine Below.setCell ?_ (by dsimp only; omega) _
          exact HB2.out
      case measure => simp [intOf]; omega
    · obtain rfl : k = l.length := by omega
      have HF := HO.out
      rw [List.drop_of_length_le (by omega), List.append_nil] at HF
      have HD : Hid (FRowR wr w.heap.size l) := ⟨_, _, HF, HC.out⟩
      clear HF hown hbel
      go_wp2
      go_ret
      exact ⟨rfl, HD.out, hrl, HB.out⟩
set_option maxHeartbeats 4000000 in
theorem toSchemaR_any (a : Option Addr) (cap : Nat) (l : List Fd) (w : World) (hn : l.length ≤ 1048576) (hA : ∀ i, FdSz (l.getD i fd0)) (hS : HoldF w a l) :
    Calls Tryz.prog 9 #[.agg #[.slice a l.length cap]] w fun e w' => ∃ g, e = .returned (.agg #[.slice (some ⟨g, 0, none⟩) l.length l.length]) ∧ w.heap.size ≤ g ∧ FRowR w' g l ∧ Below w.heap.size w w' := by
  have HS := hidd hS
  have HT := hidd (fun W (h : HoldF W a l) => toFieldDefsR_any a cap l W hn hA h)
  clear hS hA
  go_enter Tryz.func9, Tryz.ntmps9
  go_wp2_with fail
  have hk := alloc3 w (.cells #[.slice a l.length cap] 24) (.cells #[.slice none 0 0] 33) (.cells #[.slice none 0 0] 33)
  have HB3 : Hid (Below w.heap.size w (((w.alloc (.cells #[.slice a l.length cap] 24)).alloc (.cells #[.slice none 0 0] 33)).alloc (.cells #[.slice none 0 0] 33))) := (((Below.refl _ _).alloc (Nat.le_refl _) _).alloc (by simp) _).alloc (by simp; omega) _
  have hsz3 : w.heap.size + 1 + 1 < (((w.alloc (.cells #[.slice a l.length cap] 24)).alloc (.cells #[.slice none 0 0] 33)).alloc (.cells #[.slice none 0 0] 33)).heap.size := by simp
  simp only [] at hk
  generalize ((w.alloc (.cells #[.slice a l.length cap] 24)).alloc (.cells #[.slice none 0 0] 33)).alloc (.cells #[.slice none 0 0] 33) = W3 at *
  have HK := hidd hk
  clear hk
  refine (HT.out W3 (HS.out.below HB3.out)).mono ?_
  rintro e w4 ⟨rfl, hf4, hl4, hb4⟩
  have HF4 := hidd hf4
  have HB4 : Hid (Below w.heap.size w w4) := HB3.out.trans (hb4.mono (by omega))
  have k1 := blk_old HK.out.2.1 hb4
  have k2 := blk_old HK.out.2.2 hb4
  have c0 := blk_cell k2 0
  have y0 := blk_fz k2 0
  have d0 := blk_cell k1 0
  have x0 := blk_fz k1 0
  simp only [List.getElem?_toArray, List.getElem?_cons_zero] at c0 d0
  generalize W3.heap.size = G at *
  clear hf4 hb4 HK HB3 HS HT k1 k2
  dsimp only
  go_wp2_with fail
  refine bodyPost_ret (v := .agg #[.slice (some ⟨G, 0, none⟩) l.length l.length]) (by simp [results, Tryz.results9, go_sem, *]) rfl ?_
  refine ⟨G, rfl, by omega, ?_, ?_⟩
  · refine HF4.out.keep fun b hb _ => ?_
    iterate 2 rw [heap_set_oth _ _ _ _ _ (by omega)]
  · iterate 2 refine Below.setCell ?_ (by dsimp only; omega) _
    exact HB4.out
theorem FdCR.plain {w : World} {B : Nat} {c : Nat → Option Value} {f : Fd} (h : FdCR w B c f) : FdC w B c f := by
  obtain ⟨h0, h1, h2, h3, h4, ⟨gS, cS, h5, h5b, hS⟩, ⟨gY, cY, h6, h6b, hY⟩, h7, h8⟩ := h
  exact ⟨h0, h1, h2, h3, h4, ⟨gS, cS, h5, h5b, hS.1⟩, ⟨gY, cY, h6, h6b, hY.1⟩, h7, h8⟩
theorem FRowR.row {w : World} {g : Nat} {l : List Fd} (h : FRowR w g l) : FRow w g l := by
  obtain ⟨base, zs, h1, h2, h3⟩ := h
  exact ⟨base, zs, h1, h2, fun j hj => (h3 j hj).plain⟩
theorem FRowR.below {w w' : World} {g : Nat} {l : List Fd} (h : FRowR w g l) (hb : Below w.heap.size w w') : FRowR w' g l := h.keep fun b _ hb2 => hb.block b hb2
theorem FRowR.str {w : World} {g : Nat} {l : List Fd} (h : FRowR w g l) : StrF w g (l.map fun f => (f.stops.length, f.syns.length)) := by
  obtain ⟨base, zs, h1, h2, h3⟩ := h
  have hcell : ∀ j, j < l.length * 9 → w.cell? ⟨g, j, none⟩ = zs[j]? := fun j hj => h1.cellAt j hj
  obtain ⟨cur, hc1, hc2⟩ := rowN_own h1
  refine ⟨cur, hc1, by rw [List.length_map]; exact hc2, fun j hj => ?_⟩
  rw [List.length_map] at hj
  have e : (l.map fun f => (f.stops.length, f.syns.length)).getD j (0, 0) = ((l.getD j fd0).stops.length, (l.getD j fd0).syns.length) := by simp [hj]
  obtain ⟨_, _, _, _, _, ⟨gS, cS, h5, h5b, hS⟩, ⟨gY, cY, h6, h6b, hY⟩, _, _⟩ := h3 j hj
  have hm : (j + 1) * 9 ≤ l.length * 9 := Nat.mul_le_mul_right _ hj
  rw [e]
  refine ⟨gS, cS, gY, cY, ?_, h5b, hS.2, ?_, h6b, hY.2⟩
  · rw [← blkc hc1]; exact (hcell _ (by omega)).trans h5
  · rw [← blkc hc1]; exact (hcell _ (by omega)).trans h6
end Go.Proofs.YtgoklapafidpkaaGreatDoor
