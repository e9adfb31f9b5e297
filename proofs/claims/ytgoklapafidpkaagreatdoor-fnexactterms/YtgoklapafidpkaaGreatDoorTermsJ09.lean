import Derived.Test.YtgoklapafidpkaaGreatDoorTermsJ08
import Derived.Deep.Heap
import Derived.Test.YtgoklapafidpkaaGreatDoorTermsJ07
namespace Go.Proofs.YtgoklapafidpkaaGreatDoor
open Go Go.RowKit
set_option linter.unusedVariables false

theorem blk_cell {w : World} {b : Nat} {cs : Array Value} {t : TypeId} (h : w.heap[b]? = some (.cells cs t)) (k : Nat) : w.cell? ⟨b, k, none⟩ = cs[k]? := by
  simp [World.cell?, h]
theorem blk_fz {w : World} {b : Nat} {cs : Array Value} {t : TypeId} (h : w.heap[b]? = some (.cells cs t)) (k : Nat) : w.frozen? ⟨b, k, none⟩ = false := by
  simp [World.frozen?, h]
theorem blk_old {w w' : World} {b : Nat} {o : Obj} (h : w.heap[b]? = some o) (hb : Below w.heap.size w w') : w'.heap[b]? = some o := (hb.block b (Array.getElem?_eq_some_iff.1 h).1).trans h
theorem alloc3 (w : World) (o1 o2 o3 : Obj) : let w' := ((w.alloc o1).alloc o2).alloc o3
    w'.heap[w.heap.size]? = some o1 ∧ w'.heap[w.heap.size + 1]? = some o2 ∧ w'.heap[w.heap.size + 1 + 1]? = some o3 := by
  have s1 : (w.alloc o1).heap.size = w.heap.size + 1 := by simp
  have s2 : ((w.alloc o1).alloc o2).heap.size = w.heap.size + 1 + 1 := by simp
  have a1 := heap_alloc_new w o1
  have a2 := heap_alloc_new (w.alloc o1) o2
  have a3 := heap_alloc_new ((w.alloc o1).alloc o2) o3
  rw [s1] at a2
  rw [s2] at a3
  have up : ∀ (v : World) (o : Obj), Below v.heap.size v (v.alloc o) := fun v o => (Below.refl _ _).alloc (Nat.le_refl _) o
  exact ⟨blk_old (blk_old a1 (up _ _)) (up _ _), blk_old a2 (up _ _), a3⟩
theorem own_set_other {w : World} {base e sz g n cap b j : Nat} {xs : List Value} {u : Value} (h : w.ownsRow base e sz (.slice (some ⟨g, 0, none⟩) n cap) n xs) (hb : g ≠ b) : (w.setCell ⟨b, j, none⟩ u).ownsRow base e sz (.slice (some ⟨g, 0, none⟩) n cap) n xs := by
  refine ⟨h.1, ?_⟩
  rcases h.2 with h' | ⟨g', cap', cur, h1, h2, h3, h4⟩
  · exact Or.inl h'
  · have hg : g = g' := by cases h1; rfl
    subst hg
    exact Or.inr ⟨g, cap', cur, h1, h2, by rw [Deep.blk_setCell_other w ⟨b, j, none⟩ u g hb]; exact h3, h4⟩
theorem blk_set {w : World} {b : Nat} {cs : Array Value} {t : TypeId} (h : w.heap[b]? = some (.cells cs t)) (k : Nat) (u : Value) : (w.setCell ⟨b, k, none⟩ u).heap[b]? = some (.cells (cs.setIfInBounds k u) t) := by
  obtain ⟨hlt, hk⟩ := Array.getElem?_eq_some_iff.1 h
  show (w.heap.modify b _)[b]? = _
  rw [Array.getElem?_eq_getElem (by rw [Array.size_modify]; exact hlt), Array.getElem_modify_self, hk]
  rfl
theorem ownG_mono {w : World} {base base' e sz n : Nat} {v : Value} {xs : List Value} (h : w.ownsRow base e sz v n xs) (hb : base' ≤ base) : w.ownsRow base' e sz v n xs := by
  refine ⟨h.1, ?_⟩
  rcases h.2 with h' | ⟨g, cap, cur, h1, h2, h3⟩
  · exact Or.inl h'
  · exact Or.inr ⟨g, cap, cur, h1, Nat.le_trans hb h2, h3⟩
set_option maxHeartbeats 8000000 in
theorem toAz_any (bf bsm bp : Bool) (aS aY : Option Addr) (cS cY : Nat) (stops : List (List UInt8)) (syns : List (List UInt8 × List UInt8)) (lo hi : Int) (w : World) (hnS : stops.length ≤ 1048576) (hnY : syns.length ≤ 1048576) (hS : HoldS w aS stops) (hY : HoldY w aY syns) :
    Calls Tryz.prog 104 #[.agg #[.bool bf, .bool bsm, .bool bp, .slice aS stops.length cS, .slice aY syns.length cY, .int .i64 lo, .int .i64 hi]] w fun e w' => ∃ g1 g2, e = .returned (.agg #[.bool bf, .bool bsm, .bool bp, .slice (some ⟨g1, 0, none⟩) stops.length stops.length, .slice (some ⟨g2, 0, none⟩) syns.length syns.length, .int .i64 lo, .int .i64 hi]) ∧
      w'.ownsRow w.heap.size 9 1 (.slice (some ⟨g1, 0, none⟩) stops.length stops.length) stops.length (sCells stops) ∧ w'.ownsRow w.heap.size 156 2 (.slice (some ⟨g2, 0, none⟩) syns.length syns.length) syns.length (yCells syns) ∧ g1 ≠ g2 ∧ Below w.heap.size w w' := by
  have HS := hidd hS
  have HY := hidd hY
  clear hS hY
  go_enter Tryz.func104, Tryz.ntmps104
  go_wp2_with fail
  have hk := alloc3 w (.cells #[.bool bf, .bool bsm, .bool bp, .slice aS stops.length cS, .slice aY syns.length cY, .int .i64 lo, .int .i64 hi] 111) (.cells #[.bool false, .bool false, .bool false, .slice none 0 0, .slice none 0 0, .int .i64 0, .int .i64 0] 77) (.cells #[.bool bf, .bool bsm, .bool bp, .slice none 0 0, .slice none 0 0, .int .i64 0, .int .i64 0] 77)
  have HB3 : Hid (Below w.heap.size w (((w.alloc (.cells #[.bool bf, .bool bsm, .bool bp, .slice aS stops.length cS, .slice aY syns.length cY, .int .i64 lo, .int .i64 hi] 111)).alloc (.cells #[.bool false, .bool false, .bool false, .slice none 0 0, .slice none 0 0, .int .i64 0, .int .i64 0] 77)).alloc (.cells #[.bool bf, .bool bsm, .bool bp, .slice none 0 0, .slice none 0 0, .int .i64 0, .int .i64 0] 77))) := (((Below.refl _ _).alloc (Nat.le_refl _) _).alloc (by simp) _).alloc (by simp; omega) _
  have hsz3 : w.heap.size + 1 + 1 < (((w.alloc (.cells #[.bool bf, .bool bsm, .bool bp, .slice aS stops.length cS, .slice aY syns.length cY, .int .i64 lo, .int .i64 hi] 111)).alloc (.cells #[.bool false, .bool false, .bool false, .slice none 0 0, .slice none 0 0, .int .i64 0, .int .i64 0] 77)).alloc (.cells #[.bool bf, .bool bsm, .bool bp, .slice none 0 0, .slice none 0 0, .int .i64 0, .int .i64 0] 77)).heap.size := by simp
  simp only [] at hk
  generalize (((w.alloc (.cells #[.bool bf, .bool bsm, .bool bp, .slice aS stops.length cS, .slice aY syns.length cY, .int .i64 lo, .int .i64 hi] 111)).alloc (.cells #[.bool false, .bool false, .bool false, .slice none 0 0, .slice none 0 0, .int .i64 0, .int .i64 0] 77)).alloc (.cells #[.bool bf, .bool bsm, .bool bp, .slice none 0 0, .slice none 0 0, .int .i64 0, .int .i64 0] 77)) = W3 at *
  have HK := hidd hk
  clear hk
  refine (toStrs_any aS cS stops W3 hnS (HS.out.below HB3.out)).mono ?_
  rintro e w4 ⟨rfl, hown4, hb4⟩
  generalize hg1 : W3.heap.size = g1 at *
  have Hg1 := hidd hg1
  have hk4 : w4.heap[w.heap.size]? = some (.cells #[.bool bf, .bool bsm, .bool bp, .slice aS stops.length cS, .slice aY syns.length cY, .int .i64 lo, .int .i64 hi] 111) ∧ w4.heap[w.heap.size + 1]? = some (.cells #[.bool false, .bool false, .bool false, .slice none 0 0, .slice none 0 0, .int .i64 0, .int .i64 0] 77) ∧ w4.heap[w.heap.size + 1 + 1]? = some (.cells #[.bool bf, .bool bsm, .bool bp, .slice none 0 0, .slice none 0 0, .int .i64 0, .int .i64 0] 77) := by
    rw [← hg1] at hb4
    exact ⟨blk_old HK.out.1 hb4, blk_old HK.out.2.1 hb4, blk_old HK.out.2.2 hb4⟩
  have hlt4 : g1 < w4.heap.size := own_lt hown4
  have HO4 := hidd hown4
  have HB4 : Hid (Below w.heap.size w w4) := HB3.out.trans (hb4.mono (by omega))
  have HK4 := hidd hk4
  have q3 : w4.cell? ⟨w.heap.size + 1 + 1, 3, none⟩ = some (.slice none 0 0) := blk_cell hk4.2.2 3
  have z3 := blk_fz hk4.2.2 3
  have q4 : w4.cell? ⟨w.heap.size, 4, none⟩ = some (.slice aY syns.length cY) := blk_cell hk4.1 4
  clear hown4 hb4 hk4 hg1 HK HB3
  go_wp2_with fail
  have HB5 : Hid (Below w.heap.size w (w4.setCell ⟨w.heap.size + 1 + 1, 3, none⟩ (.slice (some ⟨g1, 0, none⟩) stops.length stops.length))) := HB4.out.setCell (p := ⟨w.heap.size + 1 + 1, 3, none⟩) (by show w.heap.size ≤ w.heap.size + 1 + 1; omega) _
  have HO5 := hidd (own_set_other (b := w.heap.size + 1 + 1) (j := 3) (u := .slice (some ⟨g1, 0, none⟩) stops.length stops.length) HO4.out (by omega))
  have hk5 : (w4.setCell ⟨w.heap.size + 1 + 1, 3, none⟩ (.slice (some ⟨g1, 0, none⟩) stops.length stops.length)).heap[w.heap.size]? = some (.cells #[.bool bf, .bool bsm, .bool bp, .slice aS stops.length cS, .slice aY syns.length cY, .int .i64 lo, .int .i64 hi] 111) ∧ (w4.setCell ⟨w.heap.size + 1 + 1, 3, none⟩ (.slice (some ⟨g1, 0, none⟩) stops.length stops.length)).heap[w.heap.size + 1]? = some (.cells #[.bool false, .bool false, .bool false, .slice none 0 0, .slice none 0 0, .int .i64 0, .int .i64 0] 77) ∧ (w4.setCell ⟨w.heap.size + 1 + 1, 3, none⟩ (.slice (some ⟨g1, 0, none⟩) stops.length stops.length)).heap[w.heap.size + 1 + 1]? = some (.cells #[.bool bf, .bool bsm, .bool bp, .slice (some ⟨g1, 0, none⟩) stops.length stops.length, .slice none 0 0, .int .i64 0, .int .i64 0] 77) :=
    ⟨(Deep.blk_setCell_other _ _ _ _ (by show w.heap.size ≠ w.heap.size + 1 + 1; omega)).trans HK4.out.1, (Deep.blk_setCell_other _ _ _ _ (by show w.heap.size + 1 ≠ w.heap.size + 1 + 1; omega)).trans HK4.out.2.1, blk_set HK4.out.2.2 3 _⟩
  have hlt5 : g1 < (w4.setCell ⟨w.heap.size + 1 + 1, 3, none⟩ (.slice (some ⟨g1, 0, none⟩) stops.length stops.length)).heap.size := own_lt HO5.out
  generalize w4.setCell ⟨w.heap.size + 1 + 1, 3, none⟩ (.slice (some ⟨g1, 0, none⟩) stops.length stops.length) = w5 at *
  have HK5 := hidd hk5
  clear hk5 q3 z3 q4 HO4 HK4 HB4
  refine (toSyns_any aY cY syns w5 hnY (HY.out.below HB5.out)).mono ?_
  rintro e w6 ⟨rfl, hown6, hb6⟩
  generalize hg2 : w5.heap.size = g2 at *
  have hk6 : w6.heap[w.heap.size]? = some (.cells #[.bool bf, .bool bsm, .bool bp, .slice aS stops.length cS, .slice aY syns.length cY, .int .i64 lo, .int .i64 hi] 111) ∧ w6.heap[w.heap.size + 1]? = some (.cells #[.bool false, .bool false, .bool false, .slice none 0 0, .slice none 0 0, .int .i64 0, .int .i64 0] 77) ∧ w6.heap[w.heap.size + 1 + 1]? = some (.cells #[.bool bf, .bool bsm, .bool bp, .slice (some ⟨g1, 0, none⟩) stops.length stops.length, .slice none 0 0, .int .i64 0, .int .i64 0] 77) := by
    rw [← hg2] at hb6
    exact ⟨blk_old HK5.out.1 hb6, blk_old HK5.out.2.1 hb6, blk_old HK5.out.2.2 hb6⟩
  have HO6a : Hid (w6.ownsRow g1 9 1 (.slice (some ⟨g1, 0, none⟩) stops.length stops.length) stops.length (sCells stops)) := by rw [← hg2] at hb6; exact own_below HO5.out hb6
  have HO6b := hidd hown6
  have HB6 : Hid (Below w.heap.size w w6) := HB5.out.trans (hb6.mono (by omega))
  have hne : g1 ≠ g2 := by omega
  have c0 := blk_cell hk6.2.2 0
  have y0 := blk_fz hk6.2.2 0
  have d0 := blk_cell hk6.2.1 0
  have x0 := blk_fz hk6.2.1 0
  have c1 := blk_cell hk6.2.2 1
  have y1 := blk_fz hk6.2.2 1
  have d1 := blk_cell hk6.2.1 1
  have x1 := blk_fz hk6.2.1 1
  have c2 := blk_cell hk6.2.2 2
  have y2 := blk_fz hk6.2.2 2
  have d2 := blk_cell hk6.2.1 2
  have x2 := blk_fz hk6.2.1 2
  have c3 := blk_cell hk6.2.2 3
  have y3 := blk_fz hk6.2.2 3
  have d3 := blk_cell hk6.2.1 3
  have x3 := blk_fz hk6.2.1 3
  have c4 := blk_cell hk6.2.2 4
  have y4 := blk_fz hk6.2.2 4
  have d4 := blk_cell hk6.2.1 4
  have x4 := blk_fz hk6.2.1 4
  have c5 := blk_cell hk6.2.2 5
  have y5 := blk_fz hk6.2.2 5
  have d5 := blk_cell hk6.2.1 5
  have x5 := blk_fz hk6.2.1 5
  have c6 := blk_cell hk6.2.2 6
  have y6 := blk_fz hk6.2.2 6
  have d6 := blk_cell hk6.2.1 6
  have x6 := blk_fz hk6.2.1 6
  have b5 := blk_cell hk6.1 5
  have b6 := blk_cell hk6.1 6
  simp only [List.getElem?_toArray, List.getElem?_cons_zero, List.getElem?_cons_succ] at c0 c1 c2 c3 c4 c5 c6 d0 d1 d2 d3 d4 d5 d6 b5 b6
  clear hown6 hb6 hk6 hg2 HB5 HO5 HK5 HS HY
  go_wp2
  refine bodyPost_ret (v := .agg #[.bool bf, .bool bsm, .bool bp, .slice (some ⟨g1, 0, none⟩) stops.length stops.length, .slice (some ⟨g2, 0, none⟩) syns.length syns.length, .int .i64 lo, .int .i64 hi]) (by simp [results, Tryz.results104, go_sem, *]) rfl ?_
  refine ⟨g1, g2, rfl, ?_, ?_, hne, ?_⟩
  · iterate 10 refine own_set_other ?_ (by omega)
    exact ownG_mono HO6a.out (by omega)
  · iterate 10 refine own_set_other ?_ (by omega)
    exact ownG_mono HO6b.out (by omega)
  · iterate 10 refine Below.setCell ?_ (by dsimp only; omega) _
    exact HB6.out
set_option maxHeartbeats 8000000 in
theorem eqAz_any (bf bsm bp : Bool) (g1 g2 h1 h2 : Nat) (k1 k2 l1 l2 : Nat) (stops : List (List UInt8)) (syns : List (List UInt8 × List UInt8)) (lo hi : Int) (w : World) (hnS : stops.length ≤ 1048576) (hnY : syns.length ≤ 1048576) (hS1 : HoldS w (some ⟨g1, 0, none⟩) stops) (hY1 : HoldY w (some ⟨g2, 0, none⟩) syns) (hS2 : HoldS w (some ⟨h1, 0, none⟩) stops) (hY2 : HoldY w (some ⟨h2, 0, none⟩) syns) :
    Calls Tryz.prog 115 #[.agg #[.bool bf, .bool bsm, .bool bp, .slice (some ⟨g1, 0, none⟩) stops.length k1, .slice (some ⟨g2, 0, none⟩) syns.length k2, .int .i64 lo, .int .i64 hi], .agg #[.bool bf, .bool bsm, .bool bp, .slice (some ⟨h1, 0, none⟩) stops.length l1, .slice (some ⟨h2, 0, none⟩) syns.length l2, .int .i64 lo, .int .i64 hi]] w fun e w' => e = .returned (.bool true) ∧ Below w.heap.size w w' := by
  have HS1 := hidd hS1
  have HY1 := hidd hY1
  have HS2 := hidd hS2
  have HY2 := hidd hY2
  clear hS1 hY1 hS2 hY2
  have HE : ∀ (wx : World), HoldS wx (some ⟨g1, 0, none⟩) stops → HoldS wx (some ⟨h1, 0, none⟩) stops → Calls Tryz.prog 116 #[.slice (some ⟨g1, 0, none⟩) stops.length k1, .slice (some ⟨h1, 0, none⟩) stops.length l1] wx fun e w' => e = .returned (.bool true) ∧ ∃ m, w' = wx.drewN m := by
    intro wx a1 a2
    refine eqStrs_same g1 k1 h1 l1 stops.length stops wx hnS (fun t ht => ?_) (fun t ht => ?_)
    · obtain ⟨b, off, e, _, hc⟩ := a1.resolve_left (fun h => by rw [h] at ht; simp at ht)
      simp only [Option.some.injEq, Addr.mk.injEq, and_true] at e
      have := hc t ht
      rw [← e.1, ← e.2, Nat.zero_add] at this
      exact this
    · obtain ⟨b, off, e, _, hc⟩ := a2.resolve_left (fun h => by rw [h] at ht; simp at ht)
      simp only [Option.some.injEq, Addr.mk.injEq, and_true] at e
      have := hc t ht
      rw [← e.1, ← e.2, Nat.zero_add] at this
      exact this
  have HE' := hidd HE
  clear HE
  go_enter Tryz.func115, Tryz.ntmps115
  go_wp2_with fail
  have HB2 : Hid (Below w.heap.size w ((w.alloc (.cells #[.bool bf, .bool bsm, .bool bp, .slice (some ⟨g1, 0, none⟩) stops.length k1, .slice (some ⟨g2, 0, none⟩) syns.length k2, .int .i64 lo, .int .i64 hi] 77)).alloc (.cells #[.bool bf, .bool bsm, .bool bp, .slice (some ⟨h1, 0, none⟩) stops.length l1, .slice (some ⟨h2, 0, none⟩) syns.length l2, .int .i64 lo, .int .i64 hi] 77))) := ((Below.refl _ _).alloc (Nat.le_refl _) _).alloc (by simp) _
  have hk : ((w.alloc (.cells #[.bool bf, .bool bsm, .bool bp, .slice (some ⟨g1, 0, none⟩) stops.length k1, .slice (some ⟨g2, 0, none⟩) syns.length k2, .int .i64 lo, .int .i64 hi] 77)).alloc (.cells #[.bool bf, .bool bsm, .bool bp, .slice (some ⟨h1, 0, none⟩) stops.length l1, .slice (some ⟨h2, 0, none⟩) syns.length l2, .int .i64 lo, .int .i64 hi] 77)).heap[w.heap.size]? = some (.cells #[.bool bf, .bool bsm, .bool bp, .slice (some ⟨g1, 0, none⟩) stops.length k1, .slice (some ⟨g2, 0, none⟩) syns.length k2, .int .i64 lo, .int .i64 hi] 77) ∧ ((w.alloc (.cells #[.bool bf, .bool bsm, .bool bp, .slice (some ⟨g1, 0, none⟩) stops.length k1, .slice (some ⟨g2, 0, none⟩) syns.length k2, .int .i64 lo, .int .i64 hi] 77)).alloc (.cells #[.bool bf, .bool bsm, .bool bp, .slice (some ⟨h1, 0, none⟩) stops.length l1, .slice (some ⟨h2, 0, none⟩) syns.length l2, .int .i64 lo, .int .i64 hi] 77)).heap[w.heap.size + 1]? = some (.cells #[.bool bf, .bool bsm, .bool bp, .slice (some ⟨h1, 0, none⟩) stops.length l1, .slice (some ⟨h2, 0, none⟩) syns.length l2, .int .i64 lo, .int .i64 hi] 77) := by
    have a1 := heap_alloc_new w (.cells #[.bool bf, .bool bsm, .bool bp, .slice (some ⟨g1, 0, none⟩) stops.length k1, .slice (some ⟨g2, 0, none⟩) syns.length k2, .int .i64 lo, .int .i64 hi] 77)
    have a2 := heap_alloc_new (w.alloc (.cells #[.bool bf, .bool bsm, .bool bp, .slice (some ⟨g1, 0, none⟩) stops.length k1, .slice (some ⟨g2, 0, none⟩) syns.length k2, .int .i64 lo, .int .i64 hi] 77)) (.cells #[.bool bf, .bool bsm, .bool bp, .slice (some ⟨h1, 0, none⟩) stops.length l1, .slice (some ⟨h2, 0, none⟩) syns.length l2, .int .i64 lo, .int .i64 hi] 77)
    rw [show (w.alloc (.cells #[.bool bf, .bool bsm, .bool bp, .slice (some ⟨g1, 0, none⟩) stops.length k1, .slice (some ⟨g2, 0, none⟩) syns.length k2, .int .i64 lo, .int .i64 hi] 77)).heap.size = w.heap.size + 1 by simp] at a2
    exact ⟨blk_old a1 ((Below.refl _ _).alloc (Nat.le_refl _) _), a2⟩
  generalize ((w.alloc (.cells #[.bool bf, .bool bsm, .bool bp, .slice (some ⟨g1, 0, none⟩) stops.length k1, .slice (some ⟨g2, 0, none⟩) syns.length k2, .int .i64 lo, .int .i64 hi] 77)).alloc (.cells #[.bool bf, .bool bsm, .bool bp, .slice (some ⟨h1, 0, none⟩) stops.length l1, .slice (some ⟨h2, 0, none⟩) syns.length l2, .int .i64 lo, .int .i64 hi] 77)) = w2 at *
  have HK := hidd hk
  have c4 : w2.cell? ⟨w.heap.size, 4, none⟩ = some (.slice (some ⟨g2, 0, none⟩) syns.length k2) := blk_cell hk.1 4
  have d4 : w2.cell? ⟨w.heap.size + 1, 4, none⟩ = some (.slice (some ⟨h2, 0, none⟩) syns.length l2) := blk_cell hk.2 4
  clear hk
  refine (HE'.out w2 (HS1.out.below HB2.out) (HS2.out.below HB2.out)).mono ?_
  rintro e w3 ⟨rfl, m, rfl⟩
  have HB3 : Hid (Below w.heap.size w (w2.drewN m)) := below_drewN HB2.out m
  go_wp2_with fail
  refine (eqSyns_any g2 k2 h2 l2 syns _ hnY (HY1.out.below HB3.out) (HY2.out.below HB3.out)).mono ?_
  rintro e w4 ⟨rfl, hb4⟩
  have hk4 : w4.heap[w.heap.size]? = some (.cells #[.bool bf, .bool bsm, .bool bp, .slice (some ⟨g1, 0, none⟩) stops.length k1, .slice (some ⟨g2, 0, none⟩) syns.length k2, .int .i64 lo, .int .i64 hi] 77) ∧ w4.heap[w.heap.size + 1]? = some (.cells #[.bool bf, .bool bsm, .bool bp, .slice (some ⟨h1, 0, none⟩) stops.length l1, .slice (some ⟨h2, 0, none⟩) syns.length l2, .int .i64 lo, .int .i64 hi] 77) :=
    ⟨blk_old (w := w2.drewN m) (by simpa using HK.out.1) hb4, blk_old (w := w2.drewN m) (by simpa using HK.out.2) hb4⟩
  have HB4 : Hid (Below w.heap.size w w4) := HB3.out.trans (hb4.mono HB3.out.size)
  have e5 : w4.cell? ⟨w.heap.size, 5, none⟩ = some (.int .i64 lo) := blk_cell hk4.1 5
  have e6 : w4.cell? ⟨w.heap.size, 6, none⟩ = some (.int .i64 hi) := blk_cell hk4.1 6
  have f5 : w4.cell? ⟨w.heap.size + 1, 5, none⟩ = some (.int .i64 lo) := blk_cell hk4.2 5
  have f6 : w4.cell? ⟨w.heap.size + 1, 6, none⟩ = some (.int .i64 hi) := blk_cell hk4.2 6
  clear hk4 hb4 c4 d4 HK HB2 HB3
  go_wp2_with fail
  go_ret
  exact ⟨rfl, HB4.out⟩
end Go.Proofs.YtgoklapafidpkaaGreatDoor

namespace Go.Proofs.YtgoklapafidpkaaGreatDoor
open Go Go.RowKit
set_option linter.unusedVariables false
set_option maxRecDepth 100000

theorem szAzL_ok {left : Int} (hl0 : 0 ≤ left) (hl1 : left ≤ 1048576) {s : List (List UInt8)} {y : List (List UInt8 × List UInt8)} (h : 0 ≤ szAz left s y) : szAz left s y ≤ left ∧ s.length ≤ 1048576 ∧ y.length ≤ 1048576 ∧ szS s ∧ szY y := by
  unfold szAz at h
  by_cases h1 : szStr left s < 0
  · rw [if_pos h1] at h; omega
  rw [if_neg h1] at h
  by_cases h2 : szSyn (szStr left s) y < 0
  · rw [if_pos h2] at h; omega
  have a1 : ¬ left - (s.length : Int) < 0 := by
    intro hh; rw [szStr, if_pos hh] at h1; omega
  have e1 : szStr left s = szGo (left - (s.length : Int)) s := by rw [szStr, if_neg a1]
  have k1 := szGo_ok s _ (by rw [← e1]; omega)
  rw [← e1] at k1
  have a2 : ¬ szStr left s - (y.length : Int) < 0 := by
    intro hh; rw [szSyn, if_pos hh] at h2; omega
  have e2 : szSyn (szStr left s) y = syGo (szStr left s - (y.length : Int)) y := by rw [szSyn, if_neg a2]
  have k2 := syGo_ok y _ (by rw [← e2]; omega)
  refine ⟨by unfold szAz; rw [if_neg h1, if_neg h2]; omega, by omega, by omega, fun t ht => ?_, fun t ht => ?_⟩
  · have := k1.2 _ (getD_memS s t ht); rw [bs_size]; omega
  · have := k2.2 _ (getD_memY y t ht); rw [bs_size, bs_size]; omega
set_option maxHeartbeats 2000000 in
theorem szAzL_any (bf bsm bp : Bool) (aS aY : Option Addr) (cS cY : Nat) (stops : List (List UInt8)) (syns : List (List UInt8 × List UInt8)) (lo hi left : Int) (w : World) (hl0 : 0 ≤ left) (hl1 : left ≤ 1048576) (hnS : stops.length ≤ 9223372036854775807) (hnY : syns.length ≤ 9223372036854775807) (hS : HoldS w aS stops) (hY : HoldY w aY syns)
    (zS : ∀ t, t < stops.length → (bs (stops.getD t [])).size ≤ 9223372036854775807) (zY : ∀ t, t < syns.length → (bs (syns.getD t ([], [])).1).size ≤ 9223372036854775807 ∧ (bs (syns.getD t ([], [])).2).size ≤ 9223372036854775807) :
    Calls Tryz.prog 99 #[.agg #[.bool bf, .bool bsm, .bool bp, .slice aS stops.length cS, .slice aY syns.length cY, .int .i64 lo, .int .i64 hi], .int .i64 left] w fun e w' => e = .returned (.int .i64 (szAz left stops syns)) ∧ Below w.heap.size w w' := by
  have HBa : Hid (Below w.heap.size w (w.alloc (.cells #[.bool bf, .bool bsm, .bool bp, .slice aS stops.length cS, .slice aY syns.length cY, .int .i64 lo, .int .i64 hi] 111))) := (Below.refl _ _).alloc (Nat.le_refl _) _
  have Hb : Hid ((w.alloc (.cells #[.bool bf, .bool bsm, .bool bp, .slice aS stops.length cS, .slice aY syns.length cY, .int .i64 lo, .int .i64 hi] 111)).heap[w.heap.size]? = some (.cells #[.bool bf, .bool bsm, .bool bp, .slice aS stops.length cS, .slice aY syns.length cY, .int .i64 lo, .int .i64 hi] 111)) := heap_alloc_new _ _
  have hlt : w.heap.size < (w.alloc (.cells #[.bool bf, .bool bsm, .bool bp, .slice aS stops.length cS, .slice aY syns.length cY, .int .i64 lo, .int .i64 hi] 111)).heap.size := by simp
  have HSa := hidd (hS.below HBa.out)
  have HYa := hidd (hY.below HBa.out)
  have ZS := hidd zS
  have ZY := hidd zY
  clear hS hY zS zY
  have HD : Hid (szAz left stops syns = if szStr left stops < 0 then -1 else if szSyn (szStr left stops) syns < 0 then -1 else szSyn (szStr left stops) syns) := rfl
  have HLE : Hid (¬ szStr left stops < 0 → 0 ≤ szStr left stops ∧ szStr left stops ≤ 1048576) := by
    intro h
    refine ⟨by omega, ?_⟩
    rw [szStr] at h ⊢
    by_cases h1 : left - (stops.length : Int) < 0
    · rw [if_pos h1]; omega
    · rw [if_neg h1] at h ⊢
      have := (szGo_ok stops (left - (stops.length : Int)) (by omega)).1
      omega
  go_enter Tryz.func99, Tryz.ntmps99
  go_wp2_with fail
  generalize w.alloc (.cells #[.bool bf, .bool bsm, .bool bp, .slice aS stops.length cS, .slice aY syns.length cY, .int .i64 lo, .int .i64 hi] 111) = wa at *
  refine (szStrs_any aS cS stops left _ (by omega) (by omega) hnS HSa.out ZS.out).mono ?_
  rintro e w' ⟨rfl, hw⟩
  obtain rfl := hw.symm
  clear hw
  have q4 : wa.cell? ⟨w.heap.size, 4, none⟩ = some (.slice aY syns.length cY) := by simp [World.cell?, Hb.out]
  by_cases c1 : szStr left stops < 0
  · have HR : Hid (szAz left stops syns = -1) := by show _ = _; rw [HD.out, if_pos c1]
    generalize szStr left stops = z at *
    go_wp2_with fail
    go_ret
    rw [HR.out]
    exact ⟨rfl, HBa.out⟩
  · have hz := HLE.out (by omega)
    generalize szStr left stops = z at *
    obtain ⟨hz0, hz1⟩ := hz
    rw [if_neg c1] at HD
    go_wp2_with fail
    refine (szSyns_any aY cY syns z _ hz0 hz1 hnY HYa.out ZY.out).mono ?_
    rintro e w2 ⟨rfl, hb2⟩
    have HB2 := hidd (HBa.out.trans (hb2.mono (by omega)))
    clear hb2
    by_cases c2 : szSyn z syns < 0
    · rw [if_pos c2] at HD
      generalize szSyn z syns = y at *
      go_wp2_with fail
      go_ret
      rw [HD.out]
      exact ⟨rfl, HB2.out⟩
    · rw [if_neg c2] at HD
      generalize szSyn z syns = y at *
      go_wp2_with fail
      go_ret
      rw [HD.out]
      exact ⟨rfl, HB2.out⟩
theorem szAzL_ge (left : Int) (hl0 : 0 ≤ left) (s : List (List UInt8)) (y : List (List UInt8 × List UInt8)) : -1 ≤ szAz left s y := by
  unfold szAz
  split
  · omega
  · split <;> omega
def szFd (left : Int) (f : Fd) : Int := if left - (f.name.length : Int) < 0 then -1 else if szAz (left - (f.name.length : Int)) f.stops f.syns < 0 then -1 else szAz (left - (f.name.length : Int)) f.stops f.syns
def szFdGo (left : Int) : List Fd → Int
  | [] => left
  | f :: t => if szFd left f < 0 then -1 else szFdGo (szFd left f) t
def szFds (left : Int) (l : List Fd) : Int := if left - (l.length : Int) < 0 then -1 else szFdGo (left - (l.length : Int)) l
theorem szFd_ge (left : Int) (f : Fd) (h : 0 ≤ left) : -1 ≤ szFd left f := by
  unfold szFd
  split
  · omega
  · rename_i h1
    have := szAzL_ge (left - (f.name.length : Int)) (by omega) f.stops f.syns
    split <;> omega
theorem szFd_ok {left : Int} {f : Fd} (h0 : 0 ≤ left) (h1 : left ≤ 1048576) (h : 0 ≤ szFd left f) : szFd left f ≤ left ∧ FdSz f := by
  unfold szFd at h ⊢
  split at h
  · omega
  · rename_i h2
    rw [if_neg h2]
    split at h
    · omega
    · rename_i h3
      rw [if_neg h3]
      obtain ⟨a1, a2, a3, a4, a5⟩ := szAzL_ok (by omega) (by omega) h
      exact ⟨by omega, by omega, a2, a3, a4, a5⟩
theorem szFdGo_ge : ∀ (l : List Fd) (left : Int), 0 ≤ left → -1 ≤ szFdGo left l
  | [], left, h => by simp only [szFdGo]; omega
  | f :: t, left, h => by
    simp only [szFdGo]
    split
    · omega
    · exact szFdGo_ge t _ (by omega)
theorem szFdGo_ok : ∀ (l : List Fd) (left : Int), 0 ≤ left → left ≤ 1048576 → 0 ≤ szFdGo left l → ∀ f ∈ l, FdSz f
  | [], left, h, h1, h2, f, hf => by simp at hf
  | g :: t, left, h, h1, h2, f, hf => by
    simp only [szFdGo] at h2
    split at h2
    · omega
    · rename_i hn
      have a := szFd_ok (f := g) h h1 (by omega)
      rcases List.mem_cons.1 hf with rfl | hf
      · exact a.2
      · exact szFdGo_ok t _ (by omega) (by omega) h2 f hf
theorem szFdGo_step (l : List Fd) (k : Nat) (left : Int) (h : k < l.length) : szFdGo left (l.drop k) = if szFd left (l.getD k fd0) < 0 then -1 else szFdGo (szFd left (l.getD k fd0)) (l.drop (k + 1)) := by
  rw [List.drop_eq_getElem_cons h, szFdGo]; simp [h]
theorem fd0_sz : FdSz fd0 := ⟨by simp [fd0], by simp [fd0], by simp [fd0], fun t ht => absurd ht (by simp [fd0]), fun t ht => absurd ht (by simp [fd0])⟩
theorem szFds_ok {l : List Fd} (h : 0 ≤ szFds 1048576 l) : l.length ≤ 1048576 ∧ ∀ i, FdSz (l.getD i fd0) := by
  unfold szFds at h
  split at h
  · omega
  · rename_i h1
    refine ⟨by omega, fun i => ?_⟩
    by_cases hi : i < l.length
    · refine szFdGo_ok l _ (by omega) (by omega) h _ ?_
      rw [List.getD_eq_getElem?_getD, List.getElem?_eq_getElem hi]
      exact List.getElem_mem hi
    · rw [List.getD_eq_getElem?_getD, List.getElem?_eq_none (by omega)]; exact fd0_sz
theorem szFds_ge (l : List Fd) : -1 ≤ szFds 1048576 l := by
  unfold szFds
  split
  · omega
  · exact szFdGo_ge l _ (by omega)
/-- Lengths as the machine bounds them. -/
def FdLen (f : Fd) : Prop := f.name.length ≤ 9223372036854775807 ∧ f.stops.length ≤ 9223372036854775807 ∧ f.syns.length ≤ 9223372036854775807 ∧ (∀ t, t < f.stops.length → (bs (f.stops.getD t [])).size ≤ 9223372036854775807) ∧ (∀ t, t < f.syns.length → (bs (f.syns.getD t ([], [])).1).size ≤ 9223372036854775807 ∧ (bs (f.syns.getD t ([], [])).2).size ≤ 9223372036854775807)
set_option maxHeartbeats 2000000 in
theorem szFieldDef_any (f : Fd) (aS aY : Option Addr) (cS cY : Nat) (left : Int) (w : World) (h0 : 0 ≤ left) (h1 : left ≤ 1048576) (hL : FdLen f) (hS : HoldS w aS f.stops) (hY : HoldY w aY f.syns) :
    Calls Tryz.prog 60 #[.agg #[.string (bs f.name), .int .i64 f.kind, .bool f.bf, .bool f.bsm, .bool f.bp, .slice aS f.stops.length cS, .slice aY f.syns.length cY, .int .i64 f.lo, .int .i64 f.hi], .int .i64 left] w fun e w' => e = .returned (.int .i64 (szFd left f)) ∧ Below w.heap.size w w' := by
  obtain ⟨hL1, hL2, hL3, hL4, hL5⟩ := hL
  have hfl := bs_size f.name
  have HSz := hidd (fun W l (h0 : 0 ≤ l) (h1 : l ≤ 1048576) (h2 : HoldS W aS f.stops) (h3 : HoldY W aY f.syns) => szAzL_any f.bf f.bsm f.bp aS aY cS cY f.stops f.syns f.lo f.hi l W h0 h1 hL2 hL3 h2 h3 hL4 hL5)
  have HS := hidd hS
  have HY := hidd hY
  have HGe := hidd (fun l h => szAzL_ge l h f.stops f.syns)
  obtain ⟨R, hR⟩ : ∃ R, szFd left f = R := ⟨_, rfl⟩
  rw [hR]
  rw [szFd] at hR
  have HR := hidd hR
  clear hR hS hY hL4 hL5
  go_enter Tryz.func60, Tryz.ntmps60
  by_cases hf : left - (f.name.length : Int) < 0
  · rw [if_pos hf] at HR
    go_wp2_with fail
    go_ret
    rw [← HR.out]
    exact ⟨rfl, (Below.refl _ _).alloc (Nat.le_refl _) _⟩
  · rw [if_neg hf] at HR
    have HBa := hidd ((Below.refl w.heap.size w).alloc (Nat.le_refl _) (.cells #[.string (bs f.name), .int .i64 f.kind, .bool f.bf, .bool f.bsm, .bool f.bp, .slice aS f.stops.length cS, .slice aY f.syns.length cY, .int .i64 f.lo, .int .i64 f.hi] 113))
    have hge := HGe.out (left - (f.name.length : Int)) (by omega)
    go_wp2_with fail
    refine (HSz.out _ _ (by omega) (by omega) (HS.out.below HBa.out) (HY.out.below HBa.out)).mono ?_
    rintro e w3 ⟨rfl, hb3⟩
    have HB3 := hidd (HBa.out.trans (hb3.mono HBa.out.size))
    clear hb3
    generalize szAz (left - (f.name.length : Int)) f.stops f.syns = Y at *
    dsimp only
    by_cases hY : Y < 0
    · rw [if_pos hY] at HR
      go_wp2_with fail
      go_ret
      rw [← HR.out]
      exact ⟨rfl, HB3.out⟩
    · rw [if_neg hY] at HR
      go_wp2_with fail
      go_ret
      rw [← HR.out]
      exact ⟨rfl, HB3.out⟩
set_option maxHeartbeats 2000000 in
theorem szFieldDefs_any (a : Option Addr) (c : Nat) (l : List Fd) (left : Int) (w : World) (h0 : 0 ≤ left) (h1 : left ≤ 1048576) (hn : l.length ≤ 9223372036854775807) (hA : ∀ i, FdLen (l.getD i fd0)) (hS : HoldF w a l) :
    Calls Tryz.prog 28 #[.slice a l.length c, .int .i64 left] w fun e w' => e = .returned (.int .i64 (szFds left l)) ∧ Below w.heap.size w w' := by
  have HS := hidd hS
  have HA := hidd hA
  clear hS hA
  by_cases h : left - (l.length : Int) < 0
  · have HE : Hid (szFds left l = -1) := by show _ = _; rw [szFds, if_pos h]
    go_enter Tryz.func28, Tryz.ntmps28
    go_wp2_with fail
    go_ret
    rw [HE.out]
    exact ⟨rfl, Below.refl _ _⟩
  · obtain ⟨R, hR⟩ : ∃ R, szFds left l = R := ⟨_, rfl⟩
    rw [hR]
    have HE : Hid (szFdGo (left - (l.length : Int)) l = R) := by show _ = _; rw [← hR, szFds, if_neg h]
    clear hR
    go_enter Tryz.func28, Tryz.ntmps28
    go_wp2_with fail
    go_loopw [1, 5] (fun lv iv wr => ∃ (k : Nat) (x : Int), k ≤ l.length ∧ iv = .int .i64 (k : Int) ∧ lv = .int .i64 x ∧ 0 ≤ x ∧ x ≤ 1048576 ∧ szFdGo x (l.drop k) = R ∧ Below w.heap.size w wr) (fun _ iv _ => l.length - (intOf iv).toNat)
    case atStart => exact ⟨0, _, Nat.zero_le _, rfl, rfl, by omega, by omega, by rw [List.drop_zero]; exact HE.out, Below.refl _ _⟩
    case round =>
      clear HE
      obtain ⟨k, x, hk, rfl, rfl, hx0, hx1, hgo, hbel⟩ := hrel
      have HG := hidd hgo
      have HB := hidd hbel
      clear hgo hbel
      by_cases hlt : k < l.length
      · have hkz : (k : Int) < (l.length : Int) := by omega
        obtain ⟨b, off, rfl, hbl, hc⟩ := (HS.out.below HB.out).resolve_left (fun h => by rw [h] at hlt; simp at hlt)
        obtain ⟨x0, x1, x2, x3, x4, ⟨aS, cS, x5, hSt⟩, ⟨aY, cY, x6, hYt⟩, x7, x8⟩ := hc k hlt
        clear hc
        rw [szFdGo_step l k x hlt] at HG
        have hal := HA.out k
        generalize l.getD k fd0 = f at *
        have hs := szFd_ge x f hx0
        have hs2 : 0 ≤ szFd x f → szFd x f ≤ x := fun h => (szFd_ok hx0 hx1 h).1
        have HV := hidd (szFieldDef_any f aS aY cS cY x wr hx0 hx1 hal hSt hYt)
        clear hSt hYt hal
        generalize szFd x f = X at *
        go_wp2_with fail
        refine HV.out.mono ?_
        rintro e w3 ⟨rfl, hb3⟩
        have HB3 := hidd (HB.out.trans (hb3.mono HB.out.size))
        clear hb3 HV x0 x1 x2 x3 x4 x5 x6 x7 x8
        dsimp only
        by_cases hX : X < 0
        · obtain rfl : X = -1 := by omega
          rw [if_pos hX] at HG
          go_wp2_with fail
          go_ret
          rw [← HG.out]
          exact ⟨rfl, HB3.out⟩
        · rw [if_neg hX] at HG
          have hX0 : 0 ≤ X := by omega
          have hX1 := hs2 hX0
          go_wp2_with fail
          go_roundw
          case rel => exact ⟨k + 1, X, by omega, by go_num, rfl, by omega, by omega, HG.out, HB3.out⟩
          case measure => simp [intOf]; omega
      · have hkz : ¬ (k : Int) < (l.length : Int) := by omega
        rw [List.drop_of_length_le (by omega), szFdGo] at HG
        go_wp2_with fail
        go_ret
        rw [← HG.out]
        exact ⟨rfl, HB.out⟩
set_option maxHeartbeats 1000000 in
theorem szSchema_any (a : Option Addr) (cap : Nat) (l : List Fd) (w : World) (hn : l.length ≤ 9223372036854775807) (hA : ∀ i, FdLen (l.getD i fd0)) (hS : HoldF w a l) :
    Calls Tryz.prog 6 #[.agg #[.slice a l.length cap], .int .i64 1048576] w fun e w' => e = .returned (.int .i64 (szFds 1048576 l)) ∧ Below w.heap.size w w' := by
  have HBa := hidd ((Below.refl w.heap.size w).alloc (Nat.le_refl _) (.cells #[.slice a l.length cap] 24))
  have HS := hidd hS
  have HC := hidd (fun W (h : HoldF W a l) => szFieldDefs_any a cap l 1048576 W (by omega) (by omega) hn hA h)
  clear hS hA
  have hge := szFds_ge l
  generalize szFds 1048576 l = R at *
  go_enter Tryz.func6, Tryz.ntmps6
  go_wp2_with fail
  refine (HC.out _ (HS.out.below HBa.out)).mono ?_
  rintro e w3 ⟨rfl, hb3⟩
  have HB3 := hidd (HBa.out.trans (hb3.mono HBa.out.size))
  clear hb3
  dsimp only
  by_cases hX : R < 0
  · obtain rfl : R = -1 := by omega
    go_wp2_with fail
    go_ret
    exact ⟨rfl, HB3.out⟩
  · go_wp2_with fail
    go_ret
    exact ⟨rfl, HB3.out⟩
end Go.Proofs.YtgoklapafidpkaaGreatDoor
