import Derived.Test.YtgoklapafidpkaaGreatDoorDocOKJ06
import Derived.Deep.Heap
namespace Go.Proofs.YtgoklapafidpkaaGreatDoor
open Go Go.RowKit
set_option linter.unusedVariables false

theorem blk_cell {w : World} {b : Nat} {cs : Array Value} {t : TypeId} (h : w.heap[b]? = some (.cells cs t)) (k : Nat) : w.cell? ⟨b, k, none⟩ = cs[k]? := by
  simp [World.cell?, h]
theorem blk_fz {w : World} {b : Nat} {cs : Array Value} {t : TypeId} (h : w.heap[b]? = some (.cells cs t)) (k : Nat) : w.frozen? ⟨b, k, none⟩ = false := by
  simp [World.frozen?, h]
theorem blk_old {w w' : World} {b : Nat} {o : Obj} (h : w.heap[b]? = some o) (hb : Below w.heap.size w w') : w'.heap[b]? = some o := (hb.block b (Array.getElem?_eq_some_iff.1 h).1).trans h
theorem alloc3 (w : World) (o1 o2 o3 : Obj) : let w' := ((w.alloc o1).alloc o2).alloc o3
    w'.heap[w.heap.size]? = some o1 ∧ w'.heap[w.heap.size + 1]? = some o2 ∧ w'.heap[w.heap.size + 1 + 1]? = some o3 := by
  have s1 : (w.alloc o1).heap.size = w.heap.size + 1 := by simp
  have s2 : ((w.alloc o1).alloc o2).heap.size = w.heap.size + 1 + 1 := by simp
  have a1 := heap_alloc_new w o1
  have a2 := heap_alloc_new (w.alloc o1) o2
  have a3 := heap_alloc_new ((w.alloc o1).alloc o2) o3
  rw [s1] at a2
  rw [s2] at a3
  have up : ∀ (v : World) (o : Obj), Below v.heap.size v (v.alloc o) := fun v o => (Below.refl _ _).alloc (Nat.le_refl _) o
  exact ⟨blk_old (blk_old a1 (up _ _)) (up _ _), blk_old a2 (up _ _), a3⟩
theorem own_set_other {w : World} {base e sz g n cap b j : Nat} {xs : List Value} {u : Value} (h : w.ownsRow base e sz (.slice (some ⟨g, 0, none⟩) n cap) n xs) (hb : g ≠ b) : (w.setCell ⟨b, j, none⟩ u).ownsRow base e sz (.slice (some ⟨g, 0, none⟩) n cap) n xs := by
  refine ⟨h.1, ?_⟩
  rcases h.2 with h' | ⟨g', cap', cur, h1, h2, h3, h4⟩
  · exact Or.inl h'
  · have hg : g = g' := by cases h1; rfl
    subst hg
    exact Or.inr ⟨g, cap', cur, h1, h2, by rw [Deep.blk_setCell_other w ⟨b, j, none⟩ u g hb]; exact h3, h4⟩
theorem blk_set {w : World} {b : Nat} {cs : Array Value} {t : TypeId} (h : w.heap[b]? = some (.cells cs t)) (k : Nat) (u : Value) : (w.setCell ⟨b, k, none⟩ u).heap[b]? = some (.cells (cs.setIfInBounds k u) t) := by
  obtain ⟨hlt, hk⟩ := Array.getElem?_eq_some_iff.1 h
  show (w.heap.modify b _)[b]? = _
  rw [Array.getElem?_eq_getElem (by rw [Array.size_modify]; exact hlt), Array.getElem_modify_self, hk]
  rfl
theorem ownG_mono {w : World} {base base' e sz n : Nat} {v : Value} {xs : List Value} (h : w.ownsRow base e sz v n xs) (hb : base' ≤ base) : w.ownsRow base' e sz v n xs := by
  refine ⟨h.1, ?_⟩
  rcases h.2 with h' | ⟨g, cap, cur, h1, h2, h3⟩
  · exact Or.inl h'
  · exact Or.inr ⟨g, cap, cur, h1, Nat.le_trans hb h2, h3⟩
set_option maxHeartbeats 8000000 in
theorem toAz_any (bf bsm bp : Bool) (aS aY : Option Addr) (cS cY : Nat) (stops : List (List UInt8)) (syns : List (List UInt8 × List UInt8)) (lo hi : Int) (w : World) (hnS : stops.length ≤ 1048576) (hnY : syns.length ≤ 1048576) (hS : HoldS w aS stops) (hY : HoldY w aY syns) :
    Calls Tryz.prog 104 #[.agg #[.bool bf, .bool bsm, .bool bp, .slice aS stops.length cS, .slice aY syns.length cY, .int .i64 lo, .int .i64 hi]] w fun e w' => ∃ g1 g2, e = .returned (.agg #[.bool bf, .bool bsm, .bool bp, .slice (some ⟨g1, 0, none⟩) stops.length stops.length, .slice (some ⟨g2, 0, none⟩) syns.length syns.length, .int .i64 lo, .int .i64 hi]) ∧
      w'.ownsRow w.heap.size 9 1 (.slice (some ⟨g1, 0, none⟩) stops.length stops.length) stops.length (sCells stops) ∧ w'.ownsRow w.heap.size 156 2 (.slice (some ⟨g2, 0, none⟩) syns.length syns.length) syns.length (yCells syns) ∧ g1 ≠ g2 ∧ Below w.heap.size w w' := by
  have HS := hidd hS
  have HY := hidd hY
  clear hS hY
  go_enter Tryz.func104, Tryz.ntmps104
  go_wp2_with fail
  have hk := alloc3 w (.cells #[.bool bf, .bool bsm, .bool bp, .slice aS stops.length cS, .slice aY syns.length cY, .int .i64 lo, .int .i64 hi] 111) (.cells #[.bool false, .bool false, .bool false, .slice none 0 0, .slice none 0 0, .int .i64 0, .int .i64 0] 77) (.cells #[.bool bf, .bool bsm, .bool bp, .slice none 0 0, .slice none 0 0, .int .i64 0, .int .i64 0] 77)
  have HB3 : Hid (Below w.heap.size w (((w.alloc (.cells #[.bool bf, .bool bsm, .bool bp, .slice aS stops.length cS, .slice aY syns.length cY, .int .i64 lo, .int .i64 hi] 111)).alloc (.cells #[.bool false, .bool false, .bool false, .slice none 0 0, .slice none 0 0, .int .i64 0, .int .i64 0] 77)).alloc (.cells #[.bool bf, .bool bsm, .bool bp, .slice none 0 0, .slice none 0 0, .int .i64 0, .int .i64 0] 77))) := (((Below.refl _ _).alloc (Nat.le_refl _) _).alloc (by simp) _).alloc (by simp; omega) _
  have hsz3 : w.heap.size + 1 + 1 < (((w.alloc (.cells #[.bool bf, .bool bsm, .bool bp, .slice aS stops.length cS, .slice aY syns.length cY, .int .i64 lo, .int .i64 hi] 111)).alloc (.cells #[.bool false, .bool false, .bool false, .slice none 0 0, .slice none 0 0, .int .i64 0, .int .i64 0] 77)).alloc (.cells #[.bool bf, .bool bsm, .bool bp, .slice none 0 0, .slice none 0 0, .int .i64 0, .int .i64 0] 77)).heap.size := by simp
  simp only [] at hk
  generalize (((w.alloc (.cells #[.bool bf, .bool bsm, .bool bp, .slice aS stops.length cS, .slice aY syns.length cY, .int .i64 lo, .int .i64 hi] 111)).alloc (.cells #[.bool false, .bool false, .bool false, .slice none 0 0, .slice none 0 0, .int .i64 0, .int .i64 0] 77)).alloc (.cells #[.bool bf, .bool bsm, .bool bp, .slice none 0 0, .slice none 0 0, .int .i64 0, .int .i64 0] 77)) = W3 at *
  have HK := hidd hk
  clear hk
  refine (toStrs_any aS cS stops W3 hnS (HS.out.below HB3.out)).mono ?_
  rintro e w4 ⟨rfl, hown4, hb4⟩
  generalize hg1 : W3.heap.size = g1 at *
  have Hg1 := hidd hg1
  have hk4 : w4.heap[w.heap.size]? = some (.cells #[.bool bf, .bool bsm, .bool bp, .slice aS stops.length cS, .slice aY syns.length cY, .int .i64 lo, .int .i64 hi] 111) ∧ w4.heap[w.heap.size + 1]? = some (.cells #[.bool false, .bool false, .bool false, .slice none 0 0, .slice none 0 0, .int .i64 0, .int .i64 0] 77) ∧ w4.heap[w.heap.size + 1 + 1]? = some (.cells #[.bool bf, .bool bsm, .bool bp, .slice none 0 0, .slice none 0 0, .int .i64 0, .int .i64 0] 77) := by
    rw [← hg1] at hb4
    exact ⟨blk_old HK.out.1 hb4, blk_old HK.out.2.1 hb4, blk_old HK.out.2.2 hb4⟩
  have hlt4 : g1 < w4.heap.size := own_lt hown4
  have HO4 := hidd hown4
  have HB4 : Hid (Below w.heap.size w w4) := HB3.out.trans (hb4.mono (by omega))
  have HK4 := hidd hk4
  have q3 : w4.cell? ⟨w.heap.size + 1 + 1, 3, none⟩ = some (.slice none 0 0) := blk_cell hk4.2.2 3
  have z3 := blk_fz hk4.2.2 3
  have q4 : w4.cell? ⟨w.heap.size, 4, none⟩ = some (.slice aY syns.length cY) := blk_cell hk4.1 4
  clear hown4 hb4 hk4 hg1 HK HB3
  go_wp2_with fail
  have HB5 : Hid (Below w.heap.size w (w4.setCell ⟨w.heap.size + 1 + 1, 3, none⟩ (.slice (some ⟨g1, 0, none⟩) stops.length stops.length))) := HB4.out.setCell (p := ⟨w.heap.size + 1 + 1, 3, none⟩) (by show w.heap.size ≤ w.heap.size + 1 + 1; omega) _
  have HO5 := hidd (own_set_other (b := w.heap.size + 1 + 1) (j := 3) (u := .slice (some ⟨g1, 0, none⟩) stops.length stops.length) HO4.out (by omega))
  have hk5 : (w4.setCell ⟨w.heap.size + 1 + 1, 3, none⟩ (.slice (some ⟨g1, 0, none⟩) stops.length stops.length)).heap[w.heap.size]? = some (.cells #[.bool bf, .bool bsm, .bool bp, .slice aS stops.length cS, .slice aY syns.length cY, .int .i64 lo, .int .i64 hi] 111) ∧ (w4.setCell ⟨w.heap.size + 1 + 1, 3, none⟩ (.slice (some ⟨g1, 0, none⟩) stops.length stops.length)).heap[w.heap.size + 1]? = some (.cells #[.bool false, .bool false, .bool false, .slice none 0 0, .slice none 0 0, .int .i64 0, .int .i64 0] 77) ∧ (w4.setCell ⟨w.heap.size + 1 + 1, 3, none⟩ (.slice (some ⟨g1, 0, none⟩) stops.length stops.length)).heap[w.heap.size + 1 + 1]? = some (.cells #[.bool bf, .bool bsm, .bool bp, .slice (some ⟨g1, 0, none⟩) stops.length stops.length, .slice none 0 0, .int .i64 0, .int .i64 0] 77) :=
    ⟨(Deep.blk_setCell_other _ _ _ _ (by show w.heap.size ≠ w.heap.size + 1 + 1; omega)).trans HK4.out.1, (Deep.blk_setCell_other _ _ _ _ (by show w.heap.size + 1 ≠ w.heap.size + 1 + 1; omega)).trans HK4.out.2.1, blk_set HK4.out.2.2 3 _⟩
  have hlt5 : g1 < (w4.setCell ⟨w.heap.size + 1 + 1, 3, none⟩ (.slice (some ⟨g1, 0, none⟩) stops.length stops.length)).heap.size := own_lt HO5.out
  generalize w4.setCell ⟨w.heap.size + 1 + 1, 3, none⟩ (.slice (some ⟨g1, 0, none⟩) stops.length stops.length) = w5 at *
  have HK5 := hidd hk5
  clear hk5 q3 z3 q4 HO4 HK4 HB4
  refine (toSyns_any aY cY syns w5 hnY (HY.out.below HB5.out)).mono ?_
  rintro e w6 ⟨rfl, hown6, hb6⟩
  generalize hg2 : w5.heap.size = g2 at *
  have hk6 : w6.heap[w.heap.size]? = some (.cells #[.bool bf, .bool bsm, .bool bp, .slice aS stops.length cS, .slice aY syns.length cY, .int .i64 lo, .int .i64 hi] 111) ∧ w6.heap[w.heap.size + 1]? = some (.cells #[.bool false, .bool false, .bool false, .slice none 0 0, .slice none 0 0, .int .i64 0, .int .i64 0] 77) ∧ w6.heap[w.heap.size + 1 + 1]? = some (.cells #[.bool bf, .bool bsm, .bool bp, .slice (some ⟨g1, 0, none⟩) stops.length stops.length, .slice none 0 0, .int .i64 0, .int .i64 0] 77) := by
    rw [← hg2] at hb6
    exact ⟨blk_old HK5.out.1 hb6, blk_old HK5.out.2.1 hb6, blk_old HK5.out.2.2 hb6⟩
  have HO6a : Hid (w6.ownsRow g1 9 1 (.slice (some ⟨g1, 0, none⟩) stops.length stops.length) stops.length (sCells stops)) := by rw [← hg2] at hb6; exact own_below HO5.out hb6
  have HO6b := hidd hown6
  have HB6 : Hid (Below w.heap.size w w6) := HB5.out.trans (hb6.mono (by omega))
  have hne : g1 ≠ g2 := by omega
  have c0 := blk_cell hk6.2.2 0
  have y0 := blk_fz hk6.2.2 0
  have d0 := blk_cell hk6.2.1 0
  have x0 := blk_fz hk6.2.1 0
  have c1 := blk_cell hk6.2.2 1
  have y1 := blk_fz hk6.2.2 1
  have d1 := blk_cell hk6.2.1 1
  have x1 := blk_fz hk6.2.1 1
  have c2 := blk_cell hk6.2.2 2
  have y2 := blk_fz hk6.2.2 2
  have d2 := blk_cell hk6.2.1 2
  have x2 := blk_fz hk6.2.1 2
  have c3 := blk_cell hk6.2.2 3
  have y3 := blk_fz hk6.2.2 3
  have d3 := blk_cell hk6.2.1 3
  have x3 := blk_fz hk6.2.1 3
  have c4 := blk_cell hk6.2.2 4
  have y4 := blk_fz hk6.2.2 4
  have d4 := blk_cell hk6.2.1 4
  have x4 := blk_fz hk6.2.1 4
  have c5 := blk_cell hk6.2.2 5
  have y5 := blk_fz hk6.2.2 5
  have d5 := blk_cell hk6.2.1 5
  have x5 := blk_fz hk6.2.1 5
  have c6 := blk_cell hk6.2.2 6
  have y6 := blk_fz hk6.2.2 6
  have d6 := blk_cell hk6.2.1 6
  have x6 := blk_fz hk6.2.1 6
  have b5 := blk_cell hk6.1 5
  have b6 := blk_cell hk6.1 6
  simp only [List.getElem?_toArray, List.getElem?_cons_zero, List.getElem?_cons_succ] at c0 c1 c2 c3 c4 c5 c6 d0 d1 d2 d3 d4 d5 d6 b5 b6
  clear hown6 hb6 hk6 hg2 HB5 HO5 HK5 HS HY
  go_wp2
  refine bodyPost_ret (v := .agg #[.bool bf, .bool bsm, .bool bp, .slice (some ⟨g1, 0, none⟩) stops.length stops.length, .slice (some ⟨g2, 0, none⟩) syns.length syns.length, .int .i64 lo, .int .i64 hi]) (by simp [results, Tryz.results104, go_sem, *]) rfl ?_
  refine ⟨g1, g2, rfl, ?_, ?_, hne, ?_⟩
  · iterate 10 refine own_set_other ?_ (by omega)
    exact ownG_mono HO6a.out (by omega)
  · iterate 10 refine own_set_other ?_ (by omega)
    exact ownG_mono HO6b.out (by omega)
  · iterate 10 refine Below.setCell ?_ (by dsimp only; omega) _
    exact HB6.out
set_option maxHeartbeats 8000000 in
theorem eqAz_any (bf bsm bp : Bool) (g1 g2 h1 h2 : Nat) (k1 k2 l1 l2 : Nat) (stops : List (List UInt8)) (syns : List (List UInt8 × List UInt8)) (lo hi : Int) (w : World) (hnS : stops.length ≤ 1048576) (hnY : syns.length ≤ 1048576) (hS1 : HoldS w (some ⟨g1, 0, none⟩) stops) (hY1 : HoldY w (some ⟨g2, 0, none⟩) syns) (hS2 : HoldS w (some ⟨h1, 0, none⟩) stops) (hY2 : HoldY w (some ⟨h2, 0, none⟩) syns) :
    Calls Tryz.prog 115 #[.agg #[.bool bf, .bool bsm, .bool bp, .slice (some ⟨g1, 0, none⟩) stops.length k1, .slice (some ⟨g2, 0, none⟩) syns.length k2, .int .i64 lo, .int .i64 hi], .agg #[.bool bf, .bool bsm, .bool bp, .slice (some ⟨h1, 0, none⟩) stops.length l1, .slice (some ⟨h2, 0, none⟩) syns.length l2, .int .i64 lo, .int .i64 hi]] w fun e w' => e = .returned (.bool true) ∧ Below w.heap.size w w' := by
  have HS1 := hidd hS1
  have HY1 := hidd hY1
  have HS2 := hidd hS2
  have HY2 := hidd hY2
  clear hS1 hY1 hS2 hY2
  have HE : ∀ (wx : World), HoldS wx (some ⟨g1, 0, none⟩) stops → HoldS wx (some ⟨h1, 0, none⟩) stops → Calls Tryz.prog 116 #[.slice (some ⟨g1, 0, none⟩) stops.length k1, .slice (some ⟨h1, 0, none⟩) stops.length l1] wx fun e w' => e = .returned (.bool true) ∧ ∃ m, w' = wx.drewN m := by
    intro wx a1 a2
    refine eqStrs_same g1 k1 h1 l1 stops.length stops wx hnS (fun t ht => ?_) (fun t ht => ?_)
    · obtain ⟨b, off, e, _, hc⟩ := a1.resolve_left (fun h => by rw [h] at ht; simp at ht)
      simp only [Option.some.injEq, Addr.mk.injEq, and_true] at e
      have := hc t ht
      rw [← e.1, ← e.2, Nat.zero_add] at this
      exact this
    · obtain ⟨b, off, e, _, hc⟩ := a2.resolve_left (fun h => by rw [h] at ht; simp at ht)
      simp only [Option.some.injEq, Addr.mk.injEq, and_true] at e
      have := hc t ht
      rw [← e.1, ← e.2, Nat.zero_add] at this
      exact this
  have HE' := hidd HE
  clear HE
  go_enter Tryz.func115, Tryz.ntmps115
  go_wp2_with fail
  have HB2 : Hid (Below w.heap.size w ((w.alloc (.cells #[.bool bf, .bool bsm, .bool bp, .slice (some ⟨g1, 0, none⟩) stops.length k1, .slice (some ⟨g2, 0, none⟩) syns.length k2, .int .i64 lo, .int .i64 hi] 77)).alloc (.cells #[.bool bf, .bool bsm, .bool bp, .slice (some ⟨h1, 0, none⟩) stops.length l1, .slice (some ⟨h2, 0, none⟩) syns.length l2, .int .i64 lo, .int .i64 hi] 77))) := ((Below.refl _ _).alloc (Nat.le_refl _) _).alloc (by simp) _
  have hk : ((w.alloc (.cells #[.bool bf, .bool bsm, .bool bp, .slice (some ⟨g1, 0, none⟩) stops.length k1, .slice (some ⟨g2, 0, none⟩) syns.length k2, .int .i64 lo, .int .i64 hi] 77)).alloc (.cells #[.bool bf, .bool bsm, .bool bp, .slice (some ⟨h1, 0, none⟩) stops.length l1, .slice (some ⟨h2, 0, none⟩) syns.length l2, .int .i64 lo, .int .i64 hi] 77)).heap[w.heap.size]? = some (.cells #[.bool bf, .bool bsm, .bool bp, .slice (some ⟨g1, 0, none⟩) stops.length k1, .slice (some ⟨g2, 0, none⟩) syns.length k2, .int .i64 lo, .int .i64 hi] 77) ∧ ((w.alloc (.cells #[.bool bf, .bool bsm, .bool bp, .slice (some ⟨g1, 0, none⟩) stops.length k1, .slice (some ⟨g2, 0, none⟩) syns.length k2, .int .i64 lo, .int .i64 hi] 77)).alloc (.cells #[.bool bf, .bool bsm, .bool bp, .slice (some ⟨h1, 0, none⟩) stops.length l1, .slice (some ⟨h2, 0, none⟩) syns.length l2, .int .i64 lo, .int .i64 hi] 77)).heap[w.heap.size + 1]? = some (.cells #[.bool bf, .bool bsm, .bool bp, .slice (some ⟨h1, 0, none⟩) stops.length l1, .slice (some ⟨h2, 0, none⟩) syns.length l2, .int .i64 lo, .int .i64 hi] 77) := by
    have a1 := heap_alloc_new w (.cells #[.bool bf, .bool bsm, .bool bp, .slice (some ⟨g1, 0, none⟩) stops.length k1, .slice (some ⟨g2, 0, none⟩) syns.length k2, .int .i64 lo, .int .i64 hi] 77)
    have a2 := heap_alloc_new (w.alloc (.cells #[.bool bf, .bool bsm, .bool bp, .slice (some ⟨g1, 0, none⟩) stops.length k1, .slice (some ⟨g2, 0, none⟩) syns.length k2, .int .i64 lo, .int .i64 hi] 77)) (.cells #[.bool bf, .bool bsm, .bool bp, .slice (some ⟨h1, 0, none⟩) stops.length l1, .slice (some ⟨h2, 0, none⟩) syns.length l2, .int .i64 lo, .int .i64 hi] 77)
    rw [show (w.alloc (.cells #[.bool bf, .bool bsm, .bool bp, .slice (some ⟨g1, 0, none⟩) stops.length k1, .slice (some ⟨g2, 0, none⟩) syns.length k2, .int .i64 lo, .int .i64 hi] 77)).heap.size = w.heap.size + 1 by simp] at a2
    exact ⟨blk_old a1 ((Below.refl _ _).alloc (Nat.le_refl _) _), a2⟩
  generalize ((w.alloc (.cells #[.bool bf, .bool bsm, .bool bp, .slice (some ⟨g1, 0, none⟩) stops.length k1, .slice (some ⟨g2, 0, none⟩) syns.length k2, .int .i64 lo, .int .i64 hi] 77)).alloc (.cells #[.bool bf, .bool bsm, .bool bp, .slice (some ⟨h1, 0, none⟩) stops.length l1, .slice (some ⟨h2, 0, none⟩) syns.length l2, .int .i64 lo, .int .i64 hi] 77)) = w2 at *
  have HK := hidd hk
  have c4 : w2.cell? ⟨w.heap.size, 4, none⟩ = some (.slice (some ⟨g2, 0, none⟩) syns.length k2) := blk_cell hk.1 4
  have d4 : w2.cell? ⟨w.heap.size + 1, 4, none⟩ = some (.slice (some ⟨h2, 0, none⟩) syns.length l2) := blk_cell hk.2 4
  clear hk
  refine (HE'.out w2 (HS1.out.below HB2.out) (HS2.out.below HB2.out)).mono ?_
  rintro e w3 ⟨rfl, m, rfl⟩
  have HB3 : Hid (Below w.heap.size w (w2.drewN m)) := below_drewN HB2.out m
  go_wp2_with fail
  refine (eqSyns_any g2 k2 h2 l2 syns _ hnY (HY1.out.below HB3.out) (HY2.out.below HB3.out)).mono ?_
  rintro e w4 ⟨rfl, hb4⟩
  have hk4 : w4.heap[w.heap.size]? = some (.cells #[.bool bf, .bool bsm, .bool bp, .slice (some ⟨g1, 0, none⟩) stops.length k1, .slice (some ⟨g2, 0, none⟩) syns.length k2, .int .i64 lo, .int .i64 hi] 77) ∧ w4.heap[w.heap.size + 1]? = some (.cells #[.bool bf, .bool bsm, .bool bp, .slice (some ⟨h1, 0, none⟩) stops.length l1, .slice (some ⟨h2, 0, none⟩) syns.length l2, .int .i64 lo, .int .i64 hi] 77) :=
    ⟨blk_old (w := w2.drewN m) (by simpa using HK.out.1) hb4, blk_old (w := w2.drewN m) (by simpa using HK.out.2) hb4⟩
  have HB4 : Hid (Below w.heap.size w w4) := HB3.out.trans (hb4.mono HB3.out.size)
  have e5 : w4.cell? ⟨w.heap.size, 5, none⟩ = some (.int .i64 lo) := blk_cell hk4.1 5
  have e6 : w4.cell? ⟨w.heap.size, 6, none⟩ = some (.int .i64 hi) := blk_cell hk4.1 6
  have f5 : w4.cell? ⟨w.heap.size + 1, 5, none⟩ = some (.int .i64 lo) := blk_cell hk4.2 5
  have f6 : w4.cell? ⟨w.heap.size + 1, 6, none⟩ = some (.int .i64 hi) := blk_cell hk4.2 6
  clear hk4 hb4 c4 d4 HK HB2 HB3
  go_wp2_with fail
  go_ret
  exact ⟨rfl, HB4.out⟩
end Go.Proofs.YtgoklapafidpkaaGreatDoor
