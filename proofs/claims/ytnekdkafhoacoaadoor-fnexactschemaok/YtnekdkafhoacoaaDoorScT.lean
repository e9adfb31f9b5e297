import Derived.Test.YtnekdkafhoacoaaDoorScL
import Derived.WalkLawsBesides
import Derived.BigQuiet
import Derived.Deep.QuietTactic
import Derived.Deep.RegionWith
import Derived.Deep.CutBlock
namespace Go.Proofs.YtnekdkafhoacoaaDoor
open Go Go.RowKit
set_option linter.unusedVariables false
set_option maxRecDepth 100000

theorem Tryd.infoFd : (Tryd.prog.info? 51).map (fun i => (i.zero, i.size, i.bytes)) = some (some (.agg #[.string ⟨#[]⟩, .int .i64 0, .bool false, .bool false, .bool false, .slice none 0 0, .slice none 0 0, .int .i64 0, .int .i64 0]), 9, 96) := by kernel_rfl
set_option maxHeartbeats 1000000 in
theorem setNine (zs xs : List Value) (k n : Nat) (v0 v1 v2 v3 v4 v5 v6 v7 v8 : Value) (hz : zs.length = k * 9) (hx : xs.length = n * 9) (hk : k < n) : (((((((((zs ++ xs.drop (k * 9)).set (k * 9) v0).set (k * 9 + 1) v1).set (k * 9 + 2) v2).set (k * 9 + 3) v3).set (k * 9 + 4) v4).set (k * 9 + 5) v5).set (k * 9 + 6) v6).set (k * 9 + 7) v7).set (k * 9 + 8) v8 = (zs ++ [v0, v1, v2, v3, v4, v5, v6, v7, v8]) ++ xs.drop ((k + 1) * 9) := by
  have hd : xs.drop (k * 9) = xs[k * 9] :: xs[k * 9 + 1] :: xs[k * 9 + 2] :: xs[k * 9 + 3] :: xs[k * 9 + 4] :: xs[k * 9 + 5] :: xs[k * 9 + 6] :: xs[k * 9 + 7] :: xs[k * 9 + 8] :: xs.drop ((k + 1) * 9) := by
    iterate 9 rw [List.drop_eq_getElem_cons (by omega)]
    congr 9
    congr 1
    omega
  rw [hd]
  have e : ∀ (j : Nat) (ys : List Value) (u : Value), (zs ++ ys).set (k * 9 + j) u = zs ++ ys.set j u := fun j ys u => by rw [List.set_append_right _ _ (by omega), hz, Nat.add_sub_cancel_left]
  have e0 : ∀ (ys : List Value) (u : Value), (zs ++ ys).set (k * 9) u = zs ++ ys.set 0 u := fun ys u => e 0 ys u
  rw [e0]
  iterate 8 rw [e]
  simp
theorem HoldS.keep {w w' : World} {g : Nat} {l : List (List UInt8)} (h : HoldS w (some ⟨g, 0, none⟩) l) (hk : g < w.heap.size → w'.heap[g]? = w.heap[g]?) : HoldS w' (some ⟨g, 0, none⟩) l := by
  rcases h with h | ⟨b, off, h1, h2, h3⟩
  · exact Or.inl h
  · simp only [Option.some.injEq, Addr.mk.injEq, and_true] at h1
    obtain ⟨rfl, rfl⟩ := h1
    have hh := hk h2
    refine Or.inr ⟨g, 0, rfl, ?_, fun t ht => ?_⟩
    · have := (Array.getElem?_eq_some_iff.1 (hh.trans (Array.getElem?_eq_getElem h2))).1
      exact this
    · rw [← h3 t ht]; simp [World.cell?, hh]
theorem HoldY.keep {w w' : World} {g : Nat} {l : List (List UInt8 × List UInt8)} (h : HoldY w (some ⟨g, 0, none⟩) l) (hk : g < w.heap.size → w'.heap[g]? = w.heap[g]?) : HoldY w' (some ⟨g, 0, none⟩) l := by
  rcases h with h | ⟨b, off, h1, h2, h3⟩
  · exact Or.inl h
  · simp only [Option.some.injEq, Addr.mk.injEq, and_true] at h1
    obtain ⟨rfl, rfl⟩ := h1
    have hh := hk h2
    refine Or.inr ⟨g, 0, rfl, ?_, fun t ht => ?_⟩
    · have := (Array.getElem?_eq_some_iff.1 (hh.trans (Array.getElem?_eq_getElem h2))).1
      exact this
    · rw [← (h3 t ht).1, ← (h3 t ht).2]; simp [World.cell?, hh]
theorem own_base {w : World} {base e sz g n cap : Nat} {xs : List Value} (h : w.ownsRow base e sz (.slice (some ⟨g, 0, none⟩) n cap) n xs) : base ≤ g := by
  rcases h.2 with ⟨h', _⟩ | ⟨g', cap', cur, h1, h2, h3⟩
  · simp at h'
  · cases h1; exact h2
theorem heap_set_oth (w : World) (b j : Nat) (u : Value) (g : Nat) (h : g ≠ b) : (w.setCell ⟨b, j, none⟩ u).heap[g]? = w.heap[g]? := Deep.blk_setCell_other w ⟨b, j, none⟩ u g h
set_option maxHeartbeats 4000000 in
theorem toFieldDef_any (f : Fd) (aS aY : Option Addr) (cS cY : Nat) (w : World) (hnS : f.stops.length ≤ 1048576) (hnY : f.syns.length ≤ 1048576) (hS : HoldS w aS f.stops) (hY : HoldY w aY f.syns) :
    Calls Tryd.prog 33 #[.agg #[.string (bs f.name), .int .i64 f.kind, .bool f.bf, .bool f.bsm, .bool f.bp, .slice aS f.stops.length cS, .slice aY f.syns.length cY, .int .i64 f.lo, .int .i64 f.hi]] w fun e w' => ∃ gS gY, e = .returned (.agg #[.string (bs f.name), .int .i64 f.kind, .bool f.bf, .bool f.bsm, .bool f.bp, .slice (some ⟨gS, 0, none⟩) f.stops.length f.stops.length, .slice (some ⟨gY, 0, none⟩) f.syns.length f.syns.length, .int .i64 f.lo, .int .i64 f.hi]) ∧ w.heap.size ≤ gS ∧ w.heap.size ≤ gY ∧ HoldS w' (some ⟨gS, 0, none⟩) f.stops ∧ HoldY w' (some ⟨gY, 0, none⟩) f.syns ∧ Below w.heap.size w w' := by
  have HS := hidd hS
  have HY := hidd hY
  have HT := hidd (fun W (h2 : HoldS W aS f.stops) (h3 : HoldY W aY f.syns) => toAz_any f.bf f.bsm f.bp aS aY cS cY f.stops f.syns f.lo f.hi W hnS hnY h2 h3)
  clear hS hY
  go_enter Tryd.func33, Tryd.ntmps33
  go_wp2_with fail
  have hk := alloc3 w (.cells #[.string (bs f.name), .int .i64 f.kind, .bool f.bf, .bool f.bsm, .bool f.bp, .slice aS f.stops.length cS, .slice aY f.syns.length cY, .int .i64 f.lo, .int .i64 f.hi] 71) (.cells #[.string ⟨#[]⟩, .int .i64 0, .bool false, .bool false, .bool false, .slice none 0 0, .slice none 0 0, .int .i64 0, .int .i64 0] 51) (.cells #[.string (bs f.name), .int .i64 f.kind, .bool false, .bool false, .bool false, .slice none 0 0, .slice none 0 0, .int .i64 0, .int .i64 0] 51)
  have HB3 : Hid (Below w.heap.size w (((w.alloc (.cells #[.string (bs f.name), .int .i64 f.kind, .bool f.bf, .bool f.bsm, .bool f.bp, .slice aS f.stops.length cS, .slice aY f.syns.length cY, .int .i64 f.lo, .int .i64 f.hi] 71)).alloc (.cells #[.string ⟨#[]⟩, .int .i64 0, .bool false, .bool false, .bool false, .slice none 0 0, .slice none 0 0, .int .i64 0, .int .i64 0] 51)).alloc (.cells #[.string (bs f.name), .int .i64 f.kind, .bool false, .bool false, .bool false, .slice none 0 0, .slice none 0 0, .int .i64 0, .int .i64 0] 51))) := (((Below.refl _ _).alloc (Nat.le_refl _) _).alloc (by simp) _).alloc (by simp; omega) _
  have hsz3 : w.heap.size + 1 + 1 < (((w.alloc (.cells #[.string (bs f.name), .int .i64 f.kind, .bool f.bf, .bool f.bsm, .bool f.bp, .slice aS f.stops.length cS, .slice aY f.syns.length cY, .int .i64 f.lo, .int .i64 f.hi] 71)).alloc (.cells #[.string ⟨#[]⟩, .int .i64 0, .bool false, .bool false, .bool false, .slice none 0 0, .slice none 0 0, .int .i64 0, .int .i64 0] 51)).alloc (.cells #[.string (bs f.name), .int .i64 f.kind, .bool false, .bool false, .bool false, .slice none 0 0, .slice none 0 0, .int .i64 0, .int .i64 0] 51)).heap.size := by simp
  simp only [] at hk
  generalize ((w.alloc (.cells #[.string (bs f.name), .int .i64 f.kind, .bool f.bf, .bool f.bsm, .bool f.bp, .slice aS f.stops.length cS, .slice aY f.syns.length cY, .int .i64 f.lo, .int .i64 f.hi] 71)).alloc (.cells #[.string ⟨#[]⟩, .int .i64 0, .bool false, .bool false, .bool false, .slice none 0 0, .slice none 0 0, .int .i64 0, .int .i64 0] 51)).alloc (.cells #[.string (bs f.name), .int .i64 f.kind, .bool false, .bool false, .bool false, .slice none 0 0, .slice none 0 0, .int .i64 0, .int .i64 0] 51) = W3 at *
  have HK := hidd hk
  clear hk
  refine (HT.out W3 (HS.out.below HB3.out) (HY.out.below HB3.out)).mono ?_
  rintro e w4 ⟨g1, g2, rfl, hown1, hown2, hne, hb4⟩
  have q1 : W3.heap.size ≤ g1 := own_base hown1
  have q2 : W3.heap.size ≤ g2 := own_base hown2
  have HS4 := hidd (holdS_own hown1)
  have HY4 := hidd (holdY_own hown2)
  have HB4 : Hid (Below w.heap.size w w4) := HB3.out.trans (hb4.mono (by omega))
  have k1 := blk_old HK.out.2.1 hb4
  have k2 := blk_old HK.out.2.2 hb4
  have c0 := blk_cell k2 0
  have y0 := blk_fz k2 0
  have d0 := blk_cell k1 0
  have x0 := blk_fz k1 0
  have c1 := blk_cell k2 1
  have y1 := blk_fz k2 1
  have d1 := blk_cell k1 1
  have x1 := blk_fz k1 1
  have c2 := blk_cell k2 2
  have y2 := blk_fz k2 2
  have d2 := blk_cell k1 2
  have x2 := blk_fz k1 2
  have c3 := blk_cell k2 3
  have y3 := blk_fz k2 3
  have d3 := blk_cell k1 3
  have x3 := blk_fz k1 3
  have c4 := blk_cell k2 4
  have y4 := blk_fz k2 4
  have d4 := blk_cell k1 4
  have x4 := blk_fz k1 4
  have c5 := blk_cell k2 5
  have y5 := blk_fz k2 5
  have d5 := blk_cell k1 5
  have x5 := blk_fz k1 5
  have c6 := blk_cell k2 6
  have y6 := blk_fz k2 6
  have d6 := blk_cell k1 6
  have x6 := blk_fz k1 6
  have c7 := blk_cell k2 7
  have y7 := blk_fz k2 7
  have d7 := blk_cell k1 7
  have x7 := blk_fz k1 7
  have c8 := blk_cell k2 8
  have y8 := blk_fz k2 8
  have d8 := blk_cell k1 8
  have x8 := blk_fz k1 8
  simp only [List.getElem?_toArray, List.getElem?_cons_zero, List.getElem?_cons_succ] at c0 c1 c2 c3 c4 c5 c6 c7 c8 d0 d1 d2 d3 d4 d5 d6 d7 d8
  have K1 := hidd k1
  have K2 := hidd k2
  clear hown1 hown2 hb4 HK HB3 HS HY HT k1 k2
  dsimp only
  go_upto_region 5 with fail
  clear c0 d0 x0 y0 c1 d1 x1 y1 c2 d2 x2 y2 c3 d3 x3 y3 c4 d4 x4 y4 c5 d5 x5 y5 c6 d6 x6 y6 c7 d7 x7 y7 c8 d8 x8 y8
  have m2 : (((((((w4.setCell ⟨w.heap.size + 1 + 1, 2, none⟩ (.bool f.bf)).setCell ⟨w.heap.size + 1 + 1, 3, none⟩ (.bool f.bsm)).setCell ⟨w.heap.size + 1 + 1, 4, none⟩ (.bool f.bp)).setCell ⟨w.heap.size + 1 + 1, 5, none⟩ (.slice (some ⟨g1, 0, none⟩) f.stops.length f.stops.length)).setCell ⟨w.heap.size + 1 + 1, 6, none⟩ (.slice (some ⟨g2, 0, none⟩) f.syns.length f.syns.length)).setCell ⟨w.heap.size + 1 + 1, 7, none⟩ (.int .i64 f.lo)).setCell ⟨w.heap.size + 1 + 1, 8, none⟩ (.int .i64 f.hi)).heap[w.heap.size + 1 + 1]? = some (.cells #[.string (bs f.name), .int .i64 f.kind, .bool f.bf, .bool f.bsm, .bool f.bp, .slice (some ⟨g1, 0, none⟩) f.stops.length f.stops.length, .slice (some ⟨g2, 0, none⟩) f.syns.length f.syns.length, .int .i64 f.lo, .int .i64 f.hi] 51) := (blk_set (blk_set (blk_set (blk_set (blk_set (blk_set (blk_set K2.out 2 (.bool f.bf)) 3 (.bool f.bsm)) 4 (.bool f.bp)) 5 (.slice (some ⟨g1, 0, none⟩) f.stops.length f.stops.length)) 6 (.slice (some ⟨g2, 0, none⟩) f.syns.length f.syns.length)) 7 (.int .i64 f.lo)) 8 (.int .i64 f.hi))
  have m1 : (((((((w4.setCell ⟨w.heap.size + 1 + 1, 2, none⟩ (.bool f.bf)).setCell ⟨w.heap.size + 1 + 1, 3, none⟩ (.bool f.bsm)).setCell ⟨w.heap.size + 1 + 1, 4, none⟩ (.bool f.bp)).setCell ⟨w.heap.size + 1 + 1, 5, none⟩ (.slice (some ⟨g1, 0, none⟩) f.stops.length f.stops.length)).setCell ⟨w.heap.size + 1 + 1, 6, none⟩ (.slice (some ⟨g2, 0, none⟩) f.syns.length f.syns.length)).setCell ⟨w.heap.size + 1 + 1, 7, none⟩ (.int .i64 f.lo)).setCell ⟨w.heap.size + 1 + 1, 8, none⟩ (.int .i64 f.hi)).heap[w.heap.size + 1]? = w4.heap[w.heap.size + 1]? := by
    iterate 7 rw [heap_set_oth _ _ _ _ _ (by omega)]
  have hkeep : ∀ g, w.heap.size + 1 + 1 < g → (((((((w4.setCell ⟨w.heap.size + 1 + 1, 2, none⟩ (.bool f.bf)).setCell ⟨w.heap.size + 1 + 1, 3, none⟩ (.bool f.bsm)).setCell ⟨w.heap.size + 1 + 1, 4, none⟩ (.bool f.bp)).setCell ⟨w.heap.size + 1 + 1, 5, none⟩ (.slice (some ⟨g1, 0, none⟩) f.stops.length f.stops.length)).setCell ⟨w.heap.size + 1 + 1, 6, none⟩ (.slice (some ⟨g2, 0, none⟩) f.syns.length f.syns.length)).setCell ⟨w.heap.size + 1 + 1, 7, none⟩ (.int .i64 f.lo)).setCell ⟨w.heap.size + 1 + 1, 8, none⟩ (.int .i64 f.hi)).heap[g]? = w4.heap[g]? := fun g hg => by
    iterate 7 rw [heap_set_oth _ _ _ _ _ (by omega)]
  have HB5 : Hid (Below w.heap.size w (((((((w4.setCell ⟨w.heap.size + 1 + 1, 2, none⟩ (.bool f.bf)).setCell ⟨w.heap.size + 1 + 1, 3, none⟩ (.bool f.bsm)).setCell ⟨w.heap.size + 1 + 1, 4, none⟩ (.bool f.bp)).setCell ⟨w.heap.size + 1 + 1, 5, none⟩ (.slice (some ⟨g1, 0, none⟩) f.stops.length f.stops.length)).setCell ⟨w.heap.size + 1 + 1, 6, none⟩ (.slice (some ⟨g2, 0, none⟩) f.syns.length f.syns.length)).setCell ⟨w.heap.size + 1 + 1, 7, none⟩ (.int .i64 f.lo)).setCell ⟨w.heap.size + 1 + 1, 8, none⟩ (.int .i64 f.hi))) := by
    show Below _ _ _
    iterate 7 refine Below.setCell ?_ (by dsimp only; omega) _
    exact HB4.out
  generalize (((((((w4.setCell ⟨w.heap.size + 1 + 1, 2, none⟩ (.bool f.bf)).setCell ⟨w.heap.size + 1 + 1, 3, none⟩ (.bool f.bsm)).setCell ⟨w.heap.size + 1 + 1, 4, none⟩ (.bool f.bp)).setCell ⟨w.heap.size + 1 + 1, 5, none⟩ (.slice (some ⟨g1, 0, none⟩) f.stops.length f.stops.length)).setCell ⟨w.heap.size + 1 + 1, 6, none⟩ (.slice (some ⟨g2, 0, none⟩) f.syns.length f.syns.length)).setCell ⟨w.heap.size + 1 + 1, 7, none⟩ (.int .i64 f.lo)).setCell ⟨w.heap.size + 1 + 1, 8, none⟩ (.int .i64 f.hi)) = w5 at *
  rw [K1.out] at m1
  have HS5 := hidd (HS4.out.keep fun _ => hkeep g1 (by omega))
  have HY5 := hidd (HY4.out.keep fun _ => hkeep g2 (by omega))
  have c0 := blk_cell m2 0
  have d0 := blk_cell m1 0
  have x0 := blk_fz m1 0
  have c1 := blk_cell m2 1
  have d1 := blk_cell m1 1
  have x1 := blk_fz m1 1
  have c2 := blk_cell m2 2
  have d2 := blk_cell m1 2
  have x2 := blk_fz m1 2
  have c3 := blk_cell m2 3
  have d3 := blk_cell m1 3
  have x3 := blk_fz m1 3
  have c4 := blk_cell m2 4
  have d4 := blk_cell m1 4
  have x4 := blk_fz m1 4
  have c5 := blk_cell m2 5
  have d5 := blk_cell m1 5
  have x5 := blk_fz m1 5
  have c6 := blk_cell m2 6
  have d6 := blk_cell m1 6
  have x6 := blk_fz m1 6
  have c7 := blk_cell m2 7
  have d7 := blk_cell m1 7
  have x7 := blk_fz m1 7
  have c8 := blk_cell m2 8
  have d8 := blk_cell m1 8
  have x8 := blk_fz m1 8
  simp only [List.getElem?_toArray, List.getElem?_cons_zero, List.getElem?_cons_succ] at c0 c1 c2 c3 c4 c5 c6 c7 c8 d0 d1 d2 d3 d4 d5 d6 d7 d8
  clear m1 m2 hkeep HS4 HY4 HB4 K1 K2
  go_wp2_with fail
  refine bodyPost_ret (v := .agg #[.string (bs f.name), .int .i64 f.kind, .bool f.bf, .bool f.bsm, .bool f.bp, .slice (some ⟨g1, 0, none⟩) f.stops.length f.stops.length, .slice (some ⟨g2, 0, none⟩) f.syns.length f.syns.length, .int .i64 f.lo, .int .i64 f.hi]) (by simp [results, Tryd.results33, go_sem, *]) rfl ?_
  refine ⟨g1, g2, rfl, by omega, by omega, ?_, ?_, ?_⟩
  · refine HS5.out.keep fun _ => ?_
    iterate 9 rw [heap_set_oth _ _ _ _ _ (by omega)]
  · refine HY5.out.keep fun _ => ?_
    iterate 9 rw [heap_set_oth _ _ _ _ _ (by omega)]
  · iterate 9 refine Below.setCell ?_ (by dsimp only; omega) _
    exact HB5.out
end Go.Proofs.YtnekdkafhoacoaaDoor
