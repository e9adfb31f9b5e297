import Derived.Test.YtpdiaddgialanaaGreatDoorFwO
namespace Go.Proofs.YtpdiaddgialanaaGreatDoor
open Go Go.RowKit
set_option linter.unusedVariables false
set_option linter.unusedSimpArgs false
set_option maxRecDepth 100000

/-! A twig's own node. -/
theorem exec_storeZw (W : World) (ρ : Operand → Value) (o : Oper) (x y : Operand) (ho : o.op = .store 3 x y) (b off : Nat) (z : Int) (u : Value) (hx : ρ x = .pointer (some ⟨b, off, none⟩)) (hy : ρ y = .int .i64 z) (hc : W.cell? ⟨b, off, none⟩ = some u) (hf : W.frozen? ⟨b, off, none⟩ = false) :
    (execOp ρ o).run Tryz.prog W = .ok .skip (W.setCell ⟨b, off, none⟩ (.int .i64 z)) := by
  unfold execOp
  simp only [ho, Instr.storeAt, Instr.sureAddr, hx, hy, Sem.run_bind, Sem.run_pure, Result.andThen_ok]
  go_simp
/-- Ten cells of one block written anew, one after another. -/
def set10 (w : World) (g : Nat) (y0 y1 y2 y3 y4 y5 y6 y7 y8 y9 : Value) : World := (((((((((w.setCell ⟨g, 0, none⟩ y0).setCell ⟨g, 1, none⟩ y1).setCell ⟨g, 2, none⟩ y2).setCell ⟨g, 3, none⟩ y3).setCell ⟨g, 4, none⟩ y4).setCell ⟨g, 5, none⟩ y5).setCell ⟨g, 6, none⟩ y6).setCell ⟨g, 7, none⟩ y7).setCell ⟨g, 8, none⟩ y8).setCell ⟨g, 9, none⟩ y9
theorem set10_at {w : World} {g : Nat} {t : TypeId} {x0 x1 x2 x3 x4 x5 x6 x7 x8 x9 : Value} (h : w.heap[g]? = some (.cells #[x0, x1, x2, x3, x4, x5, x6, x7, x8, x9] t)) (y0 y1 y2 y3 y4 y5 y6 y7 y8 y9 : Value) : (set10 w g y0 y1 y2 y3 y4 y5 y6 y7 y8 y9).heap[g]? = some (.cells #[y0, y1, y2, y3, y4, y5, y6, y7, y8, y9] t) := by
  have h1 := blk_setk (blk_setk (blk_setk (blk_setk (blk_setk (blk_setk (blk_setk (blk_setk (blk_setk (blk_setk h 0 y0) 1 y1) 2 y2) 3 y3) 4 y4) 5 y5) 6 y6) 7 y7) 8 y8) 9 y9
  simpa [set10] using h1
theorem set10_below {B : Nat} {a w : World} (h : Below B a w) (g : Nat) (hg : B ≤ g) (y0 y1 y2 y3 y4 y5 y6 y7 y8 y9 : Value) : Below B a (set10 w g y0 y1 y2 y3 y4 y5 y6 y7 y8 y9) :=
  (((((((((h.setCell (p := ⟨g, 0, none⟩) hg y0).setCell (p := ⟨g, 1, none⟩) hg y1).setCell (p := ⟨g, 2, none⟩) hg y2).setCell (p := ⟨g, 3, none⟩) hg y3).setCell (p := ⟨g, 4, none⟩) hg y4).setCell (p := ⟨g, 5, none⟩) hg y5).setCell (p := ⟨g, 6, none⟩) hg y6).setCell (p := ⟨g, 7, none⟩) hg y7).setCell (p := ⟨g, 8, none⟩) hg y8).setCell (p := ⟨g, 9, none⟩) hg y9
set_option maxHeartbeats 4000000 in
theorem twigNode_term (r o : Int) (f tx : ByteArray) (w : World) : Calls Tryz.prog 77 #[.agg #[.int .i64 r, .int .i64 o, .iface 192 (.agg #[.string f, .string tx])]] w fun e w' => e = .returned (.agg #[.int .i64 1, .int .i64 r, .int .i64 o, .int .i64 0, .int .i64 0, .int .i64 0, .int .i64 0, .string f, .string tx, .slice none 0 0]) ∧ Below w.heap.size w w' := by
  have HN : Hid (∀ V, Calls Tryz.prog 258 #[.agg #[.string f, .string tx]] V fun e w' => e = .returned (.agg #[.int .i64 1, .int .i64 0, .int .i64 0, .int .i64 0, .int .i64 0, .int .i64 0, .int .i64 0, .string f, .string tx, .slice none 0 0]) ∧ Below V.heap.size V w') := fun V => termNode_any f tx V
  go_enter Tryz.func77, Tryz.ntmps77
  go_wp2_with fail
  have hbA : Below w.heap.size w ((w.alloc (.cells #[.int .i64 r, .int .i64 o, .iface 192 (.agg #[.string f, .string tx])] 71)).alloc (.cells #[.int .i64 0, .int .i64 0, .int .i64 0, .int .i64 0, .int .i64 0, .int .i64 0, .int .i64 0, .string ⟨#[]⟩, .string ⟨#[]⟩, .slice none 0 0] 45)) := ((Below.refl _ _).alloc (Nat.le_refl _) _).alloc (by simp) _
  have hX1 : ((w.alloc (.cells #[.int .i64 r, .int .i64 o, .iface 192 (.agg #[.string f, .string tx])] 71)).alloc (.cells #[.int .i64 0, .int .i64 0, .int .i64 0, .int .i64 0, .int .i64 0, .int .i64 0, .int .i64 0, .string ⟨#[]⟩, .string ⟨#[]⟩, .slice none 0 0] 45)).heap[w.heap.size]? = some (.cells #[.int .i64 r, .int .i64 o, .iface 192 (.agg #[.string f, .string tx])] 71) := (Below.heap_alloc _ _ _ (by simp)).trans (heap_alloc_new w _)
  have hX2 : ((w.alloc (.cells #[.int .i64 r, .int .i64 o, .iface 192 (.agg #[.string f, .string tx])] 71)).alloc (.cells #[.int .i64 0, .int .i64 0, .int .i64 0, .int .i64 0, .int .i64 0, .int .i64 0, .int .i64 0, .string ⟨#[]⟩, .string ⟨#[]⟩, .slice none 0 0] 45)).heap[w.heap.size + 1]? = some (.cells #[.int .i64 0, .int .i64 0, .int .i64 0, .int .i64 0, .int .i64 0, .int .i64 0, .int .i64 0, .string ⟨#[]⟩, .string ⟨#[]⟩, .slice none 0 0] 45) := by
    have := heap_alloc_new (w.alloc (.cells #[.int .i64 r, .int .i64 o, .iface 192 (.agg #[.string f, .string tx])] 71)) (.cells #[.int .i64 0, .int .i64 0, .int .i64 0, .int .i64 0, .int .i64 0, .int .i64 0, .int .i64 0, .string ⟨#[]⟩, .string ⟨#[]⟩, .slice none 0 0] 45)
    simpa using this
  refine (HN.out _).mono ?_
  rintro e w1 ⟨rfl, hb⟩
  have HB1 := hidd (hbA.trans (hb.mono hbA.size))
  have X1 := hidd (blko hX1 hb)
  have X2 := hidd (blko hX2 hb)
  clear hbA hX1 hX2 hb HN
  go_upto_region 2 with fail
  have hbB : Below w1.heap.size w1 (w1.alloc (.cells #[.int .i64 1, .int .i64 0, .int .i64 0, .int .i64 0, .int .i64 0, .int .i64 0, .int .i64 0, .string f, .string tx, .slice none 0 0] 45)) := (Below.refl _ _).alloc (Nat.le_refl _) _
  have hX3 := heap_alloc_new w1 (.cells #[.int .i64 1, .int .i64 0, .int .i64 0, .int .i64 0, .int .i64 0, .int .i64 0, .int .i64 0, .string f, .string tx, .slice none 0 0] 45)
  have HG1 : Hid (w.heap.size < w1.heap.size ∧ w.heap.size + 1 < w1.heap.size) := ⟨(Array.getElem?_eq_some_iff.1 X1.out).1, (Array.getElem?_eq_some_iff.1 X2.out).1⟩
  have HB2 := hidd (HB1.out.trans (hbB.mono HB1.out.size))
  have hX1 := blko X1.out hbB
  have hX2 := blko X2.out hbB
  clear X1 X2 HB1 hbB
  obtain ⟨g1, hg1⟩ : ∃ g, w.heap.size = g := ⟨_, rfl⟩
  obtain ⟨g2, hg2⟩ : ∃ g, w.heap.size + 1 = g := ⟨_, rfl⟩
  obtain ⟨g3, hg3⟩ : ∃ g, w1.heap.size = g := ⟨_, rfl⟩
  have HG : Hid (w.heap.size ≤ g1 ∧ w.heap.size ≤ g2 ∧ w.heap.size ≤ g3 ∧ g1 ≠ g3 ∧ g2 ≠ g3) := by
    have := HG1.out
    refine ⟨?_, ?_, ?_, ?_, ?_⟩ <;> omega
  clear HG1
  rw [hg2] at hX2
  rw [hg3] at hX3
  simp only [hg2, hg3]
  rw [hg1] at hX1
  simp only [hg1]
  clear hg2 hg3
  generalize w1.alloc (.cells #[.int .i64 1, .int .i64 0, .int .i64 0, .int .i64 0, .int .i64 0, .int .i64 0, .int .i64 0, .string f, .string tx, .slice none 0 0] 45) = w2 at *
  refine wp_region_held (S := fun u => u.cell? ⟨g1, 0, none⟩ = some (.int .i64 r) ∧ u.cell? ⟨g1, 1, none⟩ = some (.int .i64 o)) (by kernel_rfl) ?_
  have hbd : Below w2.heap.size w2 ({ heap := w2.heap, tape := w2.tape, drawn := w2.drawn + 1, os := w2.os, output := w2.output } : World) := (Below.refl _ _).drew
  generalize ({ heap := w2.heap, tape := w2.tape, drawn := w2.drawn + 1, os := w2.os, output := w2.output } : World) = wd at *
  have hbw : Below w.heap.size w wd := HB2.out.trans (hbd.mono HB2.out.size)
  have hY1 := blko hX1 hbd
  have hY2 := blko hX2 hbd
  have hY3 := blko hX3 hbd
  have hSd : (fun u => u.cell? ⟨g1, 0, none⟩ = some (.int .i64 r) ∧ u.cell? ⟨g1, 1, none⟩ = some (.int .i64 o)) wd := ⟨blkc hY1 0, blkc hY1 1⟩
  try simp only [Act.put, List.getElem_toArray, List.getElem_cons_succ, List.getElem_cons_zero, List.setIfInBounds_toArray, List.set_cons_zero, List.set_cons_succ]
  refine tkX 0 (hS := hSd) (h := ?_)
  try simp only [Act.put, List.getElem_toArray, List.getElem_cons_succ, List.getElem_cons_zero, List.setIfInBounds_toArray, List.set_cons_zero, List.set_cons_succ]
  refine tkX 1 (v := .int .i64 r) (hS := hSd) (h := ?_)
  try simp only [Act.put, List.getElem_toArray, List.getElem_cons_succ, List.getElem_cons_zero, List.setIfInBounds_toArray, List.set_cons_zero, List.set_cons_succ]
  refine tkX 2 (hS := hSd) (h := ?_)
  try simp only [Act.put, List.getElem_toArray, List.getElem_cons_succ, List.getElem_cons_zero, List.setIfInBounds_toArray, List.set_cons_zero, List.set_cons_succ]
  refine tkX 3 (v := .int .i64 o) (hS := hSd) (h := ?_)
  try simp only [Act.put, List.getElem_toArray, List.getElem_cons_succ, List.getElem_cons_zero, List.setIfInBounds_toArray, List.set_cons_zero, List.set_cons_succ]
  refine tkX 4 (hS := hSd) (h := ?_)
  try simp only [Act.put, List.getElem_toArray, List.getElem_cons_succ, List.getElem_cons_zero, List.setIfInBounds_toArray, List.set_cons_zero, List.set_cons_succ]
  refine wpAnyH_one 5 (by kernel_rfl) ?_
  refine wpOp_skip _ rfl (by kernel_rfl) (exec_storeZw _ _ _ _ _ rfl g3 1 r _ (by kernel_rfl) (by kernel_rfl) (blkc hY3 1) (blkf hY3 1)) ?_
  have hZ1 := (heap_set_other wd g3 1 (.int .i64 r) g1 HG.out.2.2.2.1).trans hY1
  have hZ2 := (heap_set_other wd g3 1 (.int .i64 r) g2 HG.out.2.2.2.2).trans hY2
  have hZ3 := blk_setk hY3 1 (.int .i64 r)
  have hbz : Below w.heap.size w (wd.setCell ⟨g3, 1, none⟩ (.int .i64 r)) := hbw.setCell (p := ⟨g3, 1, none⟩) HG.out.2.2.1 _
  have hSz : (fun u => u.cell? ⟨g1, 0, none⟩ = some (.int .i64 r) ∧ u.cell? ⟨g1, 1, none⟩ = some (.int .i64 o)) (wd.setCell ⟨g3, 1, none⟩ (.int .i64 r)) := ⟨blkc hZ1 0, blkc hZ1 1⟩
  refine ⟨hSz, ?_⟩
  try simp only [Act.put, List.getElem_toArray, List.getElem_cons_succ, List.getElem_cons_zero, List.setIfInBounds_toArray, List.set_cons_zero, List.set_cons_succ]
  refine tkX 6 (hS := hSz) (h := ?_)
  try simp only [Act.put, List.getElem_toArray, List.getElem_cons_succ, List.getElem_cons_zero, List.setIfInBounds_toArray, List.set_cons_zero, List.set_cons_succ]
  refine wpAnyH_one 7 (by kernel_rfl) ?_
  refine wpOp_skip _ rfl (by kernel_rfl) (exec_storeZw _ _ _ _ _ rfl g3 2 o _ (by kernel_rfl) (by kernel_rfl) (blkc hZ3 2) (blkf hZ3 2)) ?_
  have hU1 := (heap_set_other (wd.setCell ⟨g3, 1, none⟩ (.int .i64 r)) g3 2 (.int .i64 o) g1 HG.out.2.2.2.1).trans hZ1
  have hU2 := (heap_set_other (wd.setCell ⟨g3, 1, none⟩ (.int .i64 r)) g3 2 (.int .i64 o) g2 HG.out.2.2.2.2).trans hZ2
  have hU3 := blk_setk hZ3 2 (.int .i64 o)
  have hbu : Below w.heap.size w ((wd.setCell ⟨g3, 1, none⟩ (.int .i64 r)).setCell ⟨g3, 2, none⟩ (.int .i64 o)) := hbz.setCell (p := ⟨g3, 2, none⟩) HG.out.2.2.1 _
  refine ⟨⟨blkc hU1 0, blkc hU1 1⟩, ?_⟩
  try simp only [Act.put, List.getElem_toArray, List.getElem_cons_succ, List.getElem_cons_zero, List.setIfInBounds_toArray, List.set_cons_zero, List.set_cons_succ]
  refine wpAnyH_done (by kernel_rfl) ?_ _
  have HBu := hidd hbu
  have HU2 := hidd hU2
  have HU3 : Hid (((wd.setCell ⟨g3, 1, none⟩ (.int .i64 r)).setCell ⟨g3, 2, none⟩ (.int .i64 o)).heap[g3]? = some (Obj.cells #[.int .i64 1, .int .i64 r, .int .i64 o, .int .i64 0, .int .i64 0, .int .i64 0, .int .i64 0, .string f, .string tx, .slice none 0 0] 45)) := hU3
  clear hbu hU1 hU2 hU3 hZ1 hZ2 hZ3 hbz hSz hY1 hY2 hY3 hSd hX1 hX2 hX3 hbd hbw HB2
  generalize (wd.setCell ⟨g3, 1, none⟩ (.int .i64 r)).setCell ⟨g3, 2, none⟩ (.int .i64 o) = wu at *
  have z0 := blkc HU3.out 0
  have y0 := blkf HU2.out 0
  have c0 := blkc HU2.out 0
  have z1 := blkc HU3.out 1
  have y1 := blkf HU2.out 1
  have c1 := blkc HU2.out 1
  have z2 := blkc HU3.out 2
  have y2 := blkf HU2.out 2
  have c2 := blkc HU2.out 2
  have z3 := blkc HU3.out 3
  have y3 := blkf HU2.out 3
  have c3 := blkc HU2.out 3
  have z4 := blkc HU3.out 4
  have y4 := blkf HU2.out 4
  have c4 := blkc HU2.out 4
  have z5 := blkc HU3.out 5
  have y5 := blkf HU2.out 5
  have c5 := blkc HU2.out 5
  have z6 := blkc HU3.out 6
  have y6 := blkf HU2.out 6
  have c6 := blkc HU2.out 6
  have z7 := blkc HU3.out 7
  have y7 := blkf HU2.out 7
  have c7 := blkc HU2.out 7
  have z8 := blkc HU3.out 8
  have y8 := blkf HU2.out 8
  have c8 := blkc HU2.out 8
  have z9 := blkc HU3.out 9
  have y9 := blkf HU2.out 9
  have c9 := blkc HU2.out 9
  simp only [List.getElem?_toArray, List.getElem?_cons_zero, List.getElem?_cons_succ] at z0 z1 z2 z3 z4 z5 z6 z7 z8 z9 c0 c1 c2 c3 c4 c5 c6 c7 c8 c9
  go_wp2
  have hfin := hidd (set10_at HU2.out (.int .i64 1) (.int .i64 r) (.int .i64 o) (.int .i64 0) (.int .i64 0) (.int .i64 0) (.int .i64 0) (.string f) (.string tx) (.slice none 0 0))
  have hbf := hidd (set10_below HBu.out g2 HG.out.2.1 (.int .i64 1) (.int .i64 r) (.int .i64 o) (.int .i64 0) (.int .i64 0) (.int .i64 0) (.int .i64 0) (.string f) (.string tx) (.slice none 0 0))
  unfold set10 at hfin hbf
  refine bodyPost_ret (v := .agg #[.int .i64 1, .int .i64 r, .int .i64 o, .int .i64 0, .int .i64 0, .int .i64 0, .int .i64 0, .string f, .string tx, .slice none 0 0]) ?_ rfl ⟨rfl, hbf.out⟩
  clear z0 y0 c0 z1 y1 c1 z2 y2 c2 z3 y3 c3 z4 y4 c4 z5 y5 c5 z6 y6 c6 z7 y7 c7 z8 y8 c8 z9 y9 c9 HU2 HU3 HBu HG hbf
  generalize ((((((((((wu.setCell ⟨g2, 0, none⟩ (.int .i64 1)).setCell ⟨g2, 1, none⟩ (.int .i64 r)).setCell ⟨g2, 2, none⟩ (.int .i64 o)).setCell ⟨g2, 3, none⟩ (.int .i64 0)).setCell ⟨g2, 4, none⟩ (.int .i64 0)).setCell ⟨g2, 5, none⟩ (.int .i64 0)).setCell ⟨g2, 6, none⟩ (.int .i64 0)).setCell ⟨g2, 7, none⟩ (.string f)).setCell ⟨g2, 8, none⟩ (.string tx)).setCell ⟨g2, 9, none⟩ (.slice none 0 0)) = wf at *
  have z0 := blkc hfin.out 0
  have z1 := blkc hfin.out 1
  have z2 := blkc hfin.out 2
  have z3 := blkc hfin.out 3
  have z4 := blkc hfin.out 4
  have z5 := blkc hfin.out 5
  have z6 := blkc hfin.out 6
  have z7 := blkc hfin.out 7
  have z8 := blkc hfin.out 8
  have z9 := blkc hfin.out 9
  simp only [List.getElem?_toArray, List.getElem?_cons_zero, List.getElem?_cons_succ] at z0 z1 z2 z3 z4 z5 z6 z7 z8 z9
  simp [results, Tryz.results77, go_sem, z0, z1, z2, z3, z4, z5, z6, z7, z8, z9]
set_option maxHeartbeats 4000000 in
theorem twigNode_bool (r o : Int) (v : Option Addr) (n c : Nat) (m : Int) (w : World) : Calls Tryz.prog 77 #[.agg #[.int .i64 r, .int .i64 o, .iface 106 (.agg #[.slice v n c, .int .i64 m])]] w fun e w' => e = .returned (.agg #[.int .i64 8, .int .i64 r, .int .i64 o, .int .i64 0, .int .i64 m, .int .i64 0, .int .i64 0, .string ⟨#[]⟩, .string ⟨#[]⟩, .slice none 0 0]) ∧ Below w.heap.size w w' := by
  have HN : Hid (∀ V, Calls Tryz.prog 159 #[.agg #[.slice v n c, .int .i64 m]] V fun e w' => e = .returned (.agg #[.int .i64 8, .int .i64 0, .int .i64 0, .int .i64 0, .int .i64 m, .int .i64 0, .int .i64 0, .string ⟨#[]⟩, .string ⟨#[]⟩, .slice none 0 0]) ∧ Below V.heap.size V w') := fun V => boolNode_any v n c m V
  go_enter Tryz.func77, Tryz.ntmps77
  go_wp2_with fail
  have hbA : Below w.heap.size w ((w.alloc (.cells #[.int .i64 r, .int .i64 o, .iface 106 (.agg #[.slice v n c, .int .i64 m])] 71)).alloc (.cells #[.int .i64 0, .int .i64 0, .int .i64 0, .int .i64 0, .int .i64 0, .int .i64 0, .int .i64 0, .string ⟨#[]⟩, .string ⟨#[]⟩, .slice none 0 0] 45)) := ((Below.refl _ _).alloc (Nat.le_refl _) _).alloc (by simp) _
  have hX1 : ((w.alloc (.cells #[.int .i64 r, .int .i64 o, .iface 106 (.agg #[.slice v n c, .int .i64 m])] 71)).alloc (.cells #[.int .i64 0, .int .i64 0, .int .i64 0, .int .i64 0, .int .i64 0, .int .i64 0, .int .i64 0, .string ⟨#[]⟩, .string ⟨#[]⟩, .slice none 0 0] 45)).heap[w.heap.size]? = some (.cells #[.int .i64 r, .int .i64 o, .iface 106 (.agg #[.slice v n c, .int .i64 m])] 71) := (Below.heap_alloc _ _ _ (by simp)).trans (heap_alloc_new w _)
  have hX2 : ((w.alloc (.cells #[.int .i64 r, .int .i64 o, .iface 106 (.agg #[.slice v n c, .int .i64 m])] 71)).alloc (.cells #[.int .i64 0, .int .i64 0, .int .i64 0, .int .i64 0, .int .i64 0, .int .i64 0, .int .i64 0, .string ⟨#[]⟩, .string ⟨#[]⟩, .slice none 0 0] 45)).heap[w.heap.size + 1]? = some (.cells #[.int .i64 0, .int .i64 0, .int .i64 0, .int .i64 0, .int .i64 0, .int .i64 0, .int .i64 0, .string ⟨#[]⟩, .string ⟨#[]⟩, .slice none 0 0] 45) := by
    have := heap_alloc_new (w.alloc (.cells #[.int .i64 r, .int .i64 o, .iface 106 (.agg #[.slice v n c, .int .i64 m])] 71)) (.cells #[.int .i64 0, .int .i64 0, .int .i64 0, .int .i64 0, .int .i64 0, .int .i64 0, .int .i64 0, .string ⟨#[]⟩, .string ⟨#[]⟩, .slice none 0 0] 45)
    simpa using this
  refine (HN.out _).mono ?_
  rintro e w1 ⟨rfl, hb⟩
  have HB1 := hidd (hbA.trans (hb.mono hbA.size))
  have X1 := hidd (blko hX1 hb)
  have X2 := hidd (blko hX2 hb)
  clear hbA hX1 hX2 hb HN
  go_upto_region 2 with fail
  have hbB : Below w1.heap.size w1 (w1.alloc (.cells #[.int .i64 8, .int .i64 0, .int .i64 0, .int .i64 0, .int .i64 m, .int .i64 0, .int .i64 0, .string ⟨#[]⟩, .string ⟨#[]⟩, .slice none 0 0] 45)) := (Below.refl _ _).alloc (Nat.le_refl _) _
  have hX3 := heap_alloc_new w1 (.cells #[.int .i64 8, .int .i64 0, .int .i64 0, .int .i64 0, .int .i64 m, .int .i64 0, .int .i64 0, .string ⟨#[]⟩, .string ⟨#[]⟩, .slice none 0 0] 45)
  have HG1 : Hid (w.heap.size < w1.heap.size ∧ w.heap.size + 1 < w1.heap.size) := ⟨(Array.getElem?_eq_some_iff.1 X1.out).1, (Array.getElem?_eq_some_iff.1 X2.out).1⟩
  have HB2 := hidd (HB1.out.trans (hbB.mono HB1.out.size))
  have hX1 := blko X1.out hbB
  have hX2 := blko X2.out hbB
  clear X1 X2 HB1 hbB
  obtain ⟨g1, hg1⟩ : ∃ g, w.heap.size = g := ⟨_, rfl⟩
  obtain ⟨g2, hg2⟩ : ∃ g, w.heap.size + 1 = g := ⟨_, rfl⟩
  obtain ⟨g3, hg3⟩ : ∃ g, w1.heap.size = g := ⟨_, rfl⟩
  have HG : Hid (w.heap.size ≤ g1 ∧ w.heap.size ≤ g2 ∧ w.heap.size ≤ g3 ∧ g1 ≠ g3 ∧ g2 ≠ g3) := by
    have := HG1.out
    refine ⟨?_, ?_, ?_, ?_, ?_⟩ <;> omega
  clear HG1
  rw [hg2] at hX2
  rw [hg3] at hX3
  simp only [hg2, hg3]
  rw [hg1] at hX1
  simp only [hg1]
  clear hg2 hg3
  generalize w1.alloc (.cells #[.int .i64 8, .int .i64 0, .int .i64 0, .int .i64 0, .int .i64 m, .int .i64 0, .int .i64 0, .string ⟨#[]⟩, .string ⟨#[]⟩, .slice none 0 0] 45) = w2 at *
  refine wp_region_held (S := fun u => u.cell? ⟨g1, 0, none⟩ = some (.int .i64 r) ∧ u.cell? ⟨g1, 1, none⟩ = some (.int .i64 o)) (by kernel_rfl) ?_
  have hbd : Below w2.heap.size w2 ({ heap := w2.heap, tape := w2.tape, drawn := w2.drawn + 1, os := w2.os, output := w2.output } : World) := (Below.refl _ _).drew
  generalize ({ heap := w2.heap, tape := w2.tape, drawn := w2.drawn + 1, os := w2.os, output := w2.output } : World) = wd at *
  have hbw : Below w.heap.size w wd := HB2.out.trans (hbd.mono HB2.out.size)
  have hY1 := blko hX1 hbd
  have hY2 := blko hX2 hbd
  have hY3 := blko hX3 hbd
  have hSd : (fun u => u.cell? ⟨g1, 0, none⟩ = some (.int .i64 r) ∧ u.cell? ⟨g1, 1, none⟩ = some (.int .i64 o)) wd := ⟨blkc hY1 0, blkc hY1 1⟩
  try simp only [Act.put, List.getElem_toArray, List.getElem_cons_succ, List.getElem_cons_zero, List.setIfInBounds_toArray, List.set_cons_zero, List.set_cons_succ]
  refine tkX 0 (hS := hSd) (h := ?_)
  try simp only [Act.put, List.getElem_toArray, List.getElem_cons_succ, List.getElem_cons_zero, List.setIfInBounds_toArray, List.set_cons_zero, List.set_cons_succ]
  refine tkX 1 (v := .int .i64 r) (hS := hSd) (h := ?_)
  try simp only [Act.put, List.getElem_toArray, List.getElem_cons_succ, List.getElem_cons_zero, List.setIfInBounds_toArray, List.set_cons_zero, List.set_cons_succ]
  refine tkX 2 (hS := hSd) (h := ?_)
  try simp only [Act.put, List.getElem_toArray, List.getElem_cons_succ, List.getElem_cons_zero, List.setIfInBounds_toArray, List.set_cons_zero, List.set_cons_succ]
  refine tkX 3 (v := .int .i64 o) (hS := hSd) (h := ?_)
  try simp only [Act.put, List.getElem_toArray, List.getElem_cons_succ, List.getElem_cons_zero, List.setIfInBounds_toArray, List.set_cons_zero, List.set_cons_succ]
  refine tkX 4 (hS := hSd) (h := ?_)
  try simp only [Act.put, List.getElem_toArray, List.getElem_cons_succ, List.getElem_cons_zero, List.setIfInBounds_toArray, List.set_cons_zero, List.set_cons_succ]
  refine wpAnyH_one 5 (by kernel_rfl) ?_
  refine wpOp_skip _ rfl (by kernel_rfl) (exec_storeZw _ _ _ _ _ rfl g3 1 r _ (by kernel_rfl) (by kernel_rfl) (blkc hY3 1) (blkf hY3 1)) ?_
  have hZ1 := (heap_set_other wd g3 1 (.int .i64 r) g1 HG.out.2.2.2.1).trans hY1
  have hZ2 := (heap_set_other wd g3 1 (.int .i64 r) g2 HG.out.2.2.2.2).trans hY2
  have hZ3 := blk_setk hY3 1 (.int .i64 r)
  have hbz : Below w.heap.size w (wd.setCell ⟨g3, 1, none⟩ (.int .i64 r)) := hbw.setCell (p := ⟨g3, 1, none⟩) HG.out.2.2.1 _
  have hSz : (fun u => u.cell? ⟨g1, 0, none⟩ = some (.int .i64 r) ∧ u.cell? ⟨g1, 1, none⟩ = some (.int .i64 o)) (wd.setCell ⟨g3, 1, none⟩ (.int .i64 r)) := ⟨blkc hZ1 0, blkc hZ1 1⟩
  refine ⟨hSz, ?_⟩
  try simp only [Act.put, List.getElem_toArray, List.getElem_cons_succ, List.getElem_cons_zero, List.setIfInBounds_toArray, List.set_cons_zero, List.set_cons_succ]
  refine tkX 6 (hS := hSz) (h := ?_)
  try simp only [Act.put, List.getElem_toArray, List.getElem_cons_succ, List.getElem_cons_zero, List.setIfInBounds_toArray, List.set_cons_zero, List.set_cons_succ]
  refine wpAnyH_one 7 (by kernel_rfl) ?_
  refine wpOp_skip _ rfl (by kernel_rfl) (exec_storeZw _ _ _ _ _ rfl g3 2 o _ (by kernel_rfl) (by kernel_rfl) (blkc hZ3 2) (blkf hZ3 2)) ?_
  have hU1 := (heap_set_other (wd.setCell ⟨g3, 1, none⟩ (.int .i64 r)) g3 2 (.int .i64 o) g1 HG.out.2.2.2.1).trans hZ1
  have hU2 := (heap_set_other (wd.setCell ⟨g3, 1, none⟩ (.int .i64 r)) g3 2 (.int .i64 o) g2 HG.out.2.2.2.2).trans hZ2
  have hU3 := blk_setk hZ3 2 (.int .i64 o)
  have hbu : Below w.heap.size w ((wd.setCell ⟨g3, 1, none⟩ (.int .i64 r)).setCell ⟨g3, 2, none⟩ (.int .i64 o)) := hbz.setCell (p := ⟨g3, 2, none⟩) HG.out.2.2.1 _
  refine ⟨⟨blkc hU1 0, blkc hU1 1⟩, ?_⟩
  try simp only [Act.put, List.getElem_toArray, List.getElem_cons_succ, List.getElem_cons_zero, List.setIfInBounds_toArray, List.set_cons_zero, List.set_cons_succ]
  refine wpAnyH_done (by kernel_rfl) ?_ _
  have HBu := hidd hbu
  have HU2 := hidd hU2
  have HU3 : Hid (((wd.setCell ⟨g3, 1, none⟩ (.int .i64 r)).setCell ⟨g3, 2, none⟩ (.int .i64 o)).heap[g3]? = some (Obj.cells #[.int .i64 8, .int .i64 r, .int .i64 o, .int .i64 0, .int .i64 m, .int .i64 0, .int .i64 0, .string ⟨#[]⟩, .string ⟨#[]⟩, .slice none 0 0] 45)) := hU3
  clear hbu hU1 hU2 hU3 hZ1 hZ2 hZ3 hbz hSz hY1 hY2 hY3 hSd hX1 hX2 hX3 hbd hbw HB2
  generalize (wd.setCell ⟨g3, 1, none⟩ (.int .i64 r)).setCell ⟨g3, 2, none⟩ (.int .i64 o) = wu at *
  have z0 := blkc HU3.out 0
  have y0 := blkf HU2.out 0
  have c0 := blkc HU2.out 0
  have z1 := blkc HU3.out 1
  have y1 := blkf HU2.out 1
  have c1 := blkc HU2.out 1
  have z2 := blkc HU3.out 2
  have y2 := blkf HU2.out 2
  have c2 := blkc HU2.out 2
  have z3 := blkc HU3.out 3
  have y3 := blkf HU2.out 3
  have c3 := blkc HU2.out 3
  have z4 := blkc HU3.out 4
  have y4 := blkf HU2.out 4
  have c4 := blkc HU2.out 4
  have z5 := blkc HU3.out 5
  have y5 := blkf HU2.out 5
  have c5 := blkc HU2.out 5
  have z6 := blkc HU3.out 6
  have y6 := blkf HU2.out 6
  have c6 := blkc HU2.out 6
  have z7 := blkc HU3.out 7
  have y7 := blkf HU2.out 7
  have c7 := blkc HU2.out 7
  have z8 := blkc HU3.out 8
  have y8 := blkf HU2.out 8
  have c8 := blkc HU2.out 8
  have z9 := blkc HU3.out 9
  have y9 := blkf HU2.out 9
  have c9 := blkc HU2.out 9
  simp only [List.getElem?_toArray, List.getElem?_cons_zero, List.getElem?_cons_succ] at z0 z1 z2 z3 z4 z5 z6 z7 z8 z9 c0 c1 c2 c3 c4 c5 c6 c7 c8 c9
  go_wp2
  have hfin := hidd (set10_at HU2.out (.int .i64 8) (.int .i64 r) (.int .i64 o) (.int .i64 0) (.int .i64 m) (.int .i64 0) (.int .i64 0) (.string ⟨#[]⟩) (.string ⟨#[]⟩) (.slice none 0 0))
  have hbf := hidd (set10_below HBu.out g2 HG.out.2.1 (.int .i64 8) (.int .i64 r) (.int .i64 o) (.int .i64 0) (.int .i64 m) (.int .i64 0) (.int .i64 0) (.string ⟨#[]⟩) (.string ⟨#[]⟩) (.slice none 0 0))
  unfold set10 at hfin hbf
  refine bodyPost_ret (v := .agg #[.int .i64 8, .int .i64 r, .int .i64 o, .int .i64 0, .int .i64 m, .int .i64 0, .int .i64 0, .string ⟨#[]⟩, .string ⟨#[]⟩, .slice none 0 0]) ?_ rfl ⟨rfl, hbf.out⟩
  clear z0 y0 c0 z1 y1 c1 z2 y2 c2 z3 y3 c3 z4 y4 c4 z5 y5 c5 z6 y6 c6 z7 y7 c7 z8 y8 c8 z9 y9 c9 HU2 HU3 HBu HG hbf
  generalize ((((((((((wu.setCell ⟨g2, 0, none⟩ (.int .i64 8)).setCell ⟨g2, 1, none⟩ (.int .i64 r)).setCell ⟨g2, 2, none⟩ (.int .i64 o)).setCell ⟨g2, 3, none⟩ (.int .i64 0)).setCell ⟨g2, 4, none⟩ (.int .i64 m)).setCell ⟨g2, 5, none⟩ (.int .i64 0)).setCell ⟨g2, 6, none⟩ (.int .i64 0)).setCell ⟨g2, 7, none⟩ (.string ⟨#[]⟩)).setCell ⟨g2, 8, none⟩ (.string ⟨#[]⟩)).setCell ⟨g2, 9, none⟩ (.slice none 0 0)) = wf at *
  have z0 := blkc hfin.out 0
  have z1 := blkc hfin.out 1
  have z2 := blkc hfin.out 2
  have z3 := blkc hfin.out 3
  have z4 := blkc hfin.out 4
  have z5 := blkc hfin.out 5
  have z6 := blkc hfin.out 6
  have z7 := blkc hfin.out 7
  have z8 := blkc hfin.out 8
  have z9 := blkc hfin.out 9
  simp only [List.getElem?_toArray, List.getElem?_cons_zero, List.getElem?_cons_succ] at z0 z1 z2 z3 z4 z5 z6 z7 z8 z9
  simp [results, Tryz.results77, go_sem, z0, z1, z2, z3, z4, z5, z6, z7, z8, z9]
end Go.Proofs.YtpdiaddgialanaaGreatDoor
