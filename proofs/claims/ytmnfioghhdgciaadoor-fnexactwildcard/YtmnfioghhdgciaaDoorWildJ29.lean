import Derived.Test.YtmnfioghhdgciaaDoorWildJ28
import Derived.Deep.RegionWith
import Derived.Deep.Cut
namespace Go.Proofs.YtmnfioghhdgciaaDoor
open Go Go.RowKit
set_option linter.unusedVariables false
set_option linter.unusedSimpArgs false
set_option maxRecDepth 100000

/-! (*impl.table).deadEnd. -/
theorem exec_pick (W : World) (ρ : Operand → Value) (o : Oper) (c x y : Operand) (ho : o.op = .pick c x y) (b : Bool) (hc : ρ c = .bool b) (v : Value) (hv : (if b then ρ x else ρ y) = v) : (execOp ρ o).run Tryd.prog W = .ok (.value v) W := by
  unfold execOp
  simp only [ho, hc, asBool, Sem.run_bind, Sem.run_pure, Result.andThen_ok, hv]
theorem exec_call2 (W : World) (a : Act) (o : Oper) (f : FuncId) (x y : Operand) (t u : TypeId) (ho : o.op = .call { callee := .value (.func f), args := #[x, y], argTypes := #[t, u] }) (v z : Value) (hx : a.eval x = v) (hy : a.eval y = z)
    (hf : (callFunc f #[v, z]).run Tryd.prog W = .ok (.enter f #[v, z]) W) : (execOp a.eval o).run Tryd.prog W = .ok (.enter f #[v, z]) W := by
  have hfn : a.eval (.func f) = .func (.func f) #[] #[] := rfl
  unfold execOp
  simp [ho, resolve, invoke, Deferred.ofValue, hfn, hx, hy, hf]
theorem exec_idxB (W : World) (ρ : Operand → Value) (o : Oper) (x y : Operand) (ho : o.op = .indexAddr 36 x y) (g X len c : Nat) (hx : ρ x = .slice (some ⟨g, 0, none⟩) len c) (hy : ρ y = .int .i64 (X : Int)) (h : X < len) :
    (execOp ρ o).run Tryd.prog W = .ok (.value (.pointer (some ⟨g, X, none⟩))) W := by
  have h1 : (0 : Int) ≤ (X : Int) := by omega
  have h2 : (X : Int) < (len : Int) := by omega
  unfold execOp
  simp only [ho, hx, hy, Sem.run_bind, Sem.run_pure, Result.andThen_ok]
  go_simp
theorem exec_idxR (W : World) (ρ : Operand → Value) (o : Oper) (x y : Operand) (ho : o.op = .indexAddr 70 x y) (g X len c : Nat) (hx : ρ x = .slice (some ⟨g, 0, none⟩) len c) (hy : ρ y = .int .i64 (X : Int)) (h : X < len) :
    (execOp ρ o).run Tryd.prog W = .ok (.value (.pointer (some ⟨g, X, none⟩))) W := by
  have h1 : (0 : Int) ≤ (X : Int) := by omega
  have h2 : (X : Int) < (len : Int) := by omega
  unfold execOp
  simp only [ho, hx, hy, Sem.run_bind, Sem.run_pure, Result.andThen_ok]
  go_simp
def deadB (bs : List Bool) (cl : List Int) (rs : List (Nat × Nat)) (a : Nat) : Bool := !(bs.getD a false) && !(rs.any fun s => decide (cl.getD s.2 0 ≠ cl.getD a 0))
set_option maxHeartbeats 4000000 in
theorem deadEnd_any (base tb g3 c3 gv ov nv cv gf cf gr cr gu cu a : Nat) (a0 a1 a2 a3 vpts : Value) (l : List SRow) (bs : List Bool) (cl : List Int) (rs : List (Nat × Nat)) (w : World)
    (hT : TabS w base tb a0 a1 a2 a3 (.slice (some ⟨gr, 0, none⟩) l.length cr) (.slice (some ⟨gf, 0, none⟩) bs.length cf) (.slice (some ⟨g3, 0, none⟩) cl.length c3) vpts l bs cl) (hv : w.cell? ⟨gv, ov, none⟩ = some (.int .i64 (a : Int))) (hnv : 0 < nv) (hla : l[a]? = some (.slice (some ⟨gu, 0, none⟩) rs.length cu, rs)) (hrl : rs.length ≤ 1048576) (hrs : ∀ s ∈ rs, s.2 < cl.length) (hbl : bs.length = l.length) (hcl : cl.length = l.length) :
    Calls Tryd.prog 57 #[.pointer (some ⟨tb, 0, none⟩), .slice (some ⟨gv, ov, none⟩) nv cv] w fun e w' => e = .returned (.bool (deadB bs cl rs a)) ∧ Below w.heap.size w w' := by
  have hal : a < l.length := (List.getElem?_eq_some_iff.1 hla).1
  have halz : (a : Int) < (l.length : Int) := by omega
  have habz : (a : Int) < (bs.length : Int) := by omega
  have hab : a < bs.length := by omega
  have hnz : (0 : Int) < (nv : Int) := by omega
  have f0 := own_cellk hT.fin (p := a) (u := .bool (bs.getD a false)) (by rw [List.getElem?_map, List.getElem?_eq_getElem hab, List.getD_eq_getElem?_getD, List.getElem?_eq_getElem hab]; rfl)
  have r0 := own_cellk hT.rows.row (p := a) (u := .slice (some ⟨gu, 0, none⟩) rs.length cu) (by rw [List.getElem?_map, hla]; rfl)
  have b4 := blkc hT.box 4
  have b5 := blkc hT.box 5
  have hrow := hT.rows.each _ (List.mem_of_getElem? hla)
  simp only at hrow
  have hbA : Below w.heap.size w ((w.alloc (.cells #[.pointer (some ⟨tb, 0, none⟩)] 107)).alloc (.cells #[.int .i64 (a : Int)] 3)) := ((Below.refl _ _).alloc (Nat.le_refl _) _).alloc (by simp) _
  have x0 : ((w.alloc (.cells #[.pointer (some ⟨tb, 0, none⟩)] 107)).alloc (.cells #[.int .i64 (a : Int)] 3)).cell? ⟨w.heap.size, 0, none⟩ = some (.pointer (some ⟨tb, 0, none⟩)) := by
    have h1 : (w.alloc (.cells #[.pointer (some ⟨tb, 0, none⟩)] 107)).heap[w.heap.size]? = some (.cells #[.pointer (some ⟨tb, 0, none⟩)] 107) := heap_alloc_new _ _
    exact blkc (blko h1 ((Below.refl _ _).alloc (Nat.le_refl _) _)) 0
  have x1 : ((w.alloc (.cells #[.pointer (some ⟨tb, 0, none⟩)] 107)).alloc (.cells #[.int .i64 (a : Int)] 3)).cell? ⟨w.heap.size + 1, 0, none⟩ = some (.int .i64 (a : Int)) := by
    have h1 := heap_alloc_new (w.alloc (.cells #[.pointer (some ⟨tb, 0, none⟩)] 107)) (.cells #[.int .i64 (a : Int)] 3)
    rw [World.size_alloc] at h1
    exact blkc h1 0
  have hb1 : Below w.heap.size w (w.alloc (.cells #[.pointer (some ⟨tb, 0, none⟩)] 107)) := (Below.refl _ _).alloc (Nat.le_refl _) _
  have hv1 := (hb1.cell (cell_lt hv)).trans hv
  have f1 := (hbA.cell (cell_lt f0)).trans f0
  have r1 := (hbA.cell (cell_lt r0)).trans r0
  have d4 : ((w.alloc (.cells #[.pointer (some ⟨tb, 0, none⟩)] 107)).alloc (.cells #[.int .i64 (a : Int)] 3)).cell? ⟨tb, 4, none⟩ = some (.slice (some ⟨gr, 0, none⟩) l.length cr) := blkc ((hbA.block tb (Array.getElem?_eq_some_iff.1 hT.box).1).trans hT.box) 4
  have d5 : ((w.alloc (.cells #[.pointer (some ⟨tb, 0, none⟩)] 107)).alloc (.cells #[.int .i64 (a : Int)] 3)).cell? ⟨tb, 5, none⟩ = some (.slice (some ⟨gf, 0, none⟩) bs.length cf) := blkc ((hbA.block tb (Array.getElem?_eq_some_iff.1 hT.box).1).trans hT.box) 5
  have HBA := hidd hbA
  have HC : Hid (∀ W, Below ((w.alloc (.cells #[.pointer (some ⟨tb, 0, none⟩)] 107)).alloc (.cells #[.int .i64 (a : Int)] 3)).heap.size ((w.alloc (.cells #[.pointer (some ⟨tb, 0, none⟩)] 107)).alloc (.cells #[.int .i64 (a : Int)] 3)) W → Calls Tryd.prog 72 #[.slice (some ⟨gu, 0, none⟩) rs.length cu, .func (.func 71) #[] #[.pointer (some ⟨w.heap.size, 0, none⟩), .pointer (some ⟨w.heap.size + 1, 0, none⟩)]] W fun e w' => e = .returned (.bool (rs.any fun s => decide (cl.getD s.2 0 ≠ cl.getD a 0))) ∧ Below W.heap.size W w') := fun W hW => by
    have hwW : Below w.heap.size w W := hbA.trans (hW.mono hbA.size)
    refine strContains_any w.heap.size (w.heap.size + 1) base gu cu _ rs W hrl (own_congr hrow (fun b hk => hwW.block b (Array.getElem?_eq_some_iff.1 (own_blk hrow hk).2.choose_spec).1)) (fun W2 s h2 hs => ?_)
    have hw2 : Below w.heap.size w W2 := hwW.trans (h2.mono hwW.size)
    have h3 := hW.trans (h2.mono hW.size)
    refine deadEnd1_any base tb w.heap.size (w.heap.size + 1) g3 c3 a a0 a1 a2 a3 _ _ vpts l bs cl s W2 (hT.keep (X := fun _ => False) (But.of_below hw2) (fun b hx => hx.elim)) ((h3.cell (cell_lt x0)).trans x0) ((h3.cell (cell_lt x1)).trans x1) (hrs s hs) (by omega)
  have HD : Hid (deadB bs cl rs a = (!(bs.getD a false) && !(rs.any fun s => decide (cl.getD s.2 0 ≠ cl.getD a 0)))) := rfl
  clear hT hbA hb1 hv hrow f0 r0 b4 b5 hla hrs
  generalize (rs.any fun s => decide (cl.getD s.2 0 ≠ cl.getD a 0)) = B at *
  generalize bs.getD a false = F at *
  go_enter Tryd.func57, Tryd.ntmps57
  go_upto_region 3 with fail
  clear hv1
  generalize (w.alloc (.cells #[.pointer (some ⟨tb, 0, none⟩)] 107)).alloc (.cells #[.int .i64 (a : Int)] 3) = W2 at *
  cases F with
  | true =>
    refine wp_region_held (S := fun u => u.cell? ⟨w.heap.size, 0, none⟩ = some (.pointer (some ⟨tb, 0, none⟩)) ∧ u.cell? ⟨w.heap.size + 1, 0, none⟩ = some (.int .i64 (a : Int)) ∧ u.cell? ⟨tb, 4, none⟩ = some (.slice (some ⟨gr, 0, none⟩) l.length cr) ∧ u.cell? ⟨tb, 5, none⟩ = some (.slice (some ⟨gf, 0, none⟩) bs.length cf) ∧ u.cell? ⟨gf, a, none⟩ = some (.bool true) ∧ u.cell? ⟨gr, a, none⟩ = some (.slice (some ⟨gu, 0, none⟩) rs.length cu)) (by kernel_rfl) ?_
    have hbd : Below W2.heap.size W2 ({ heap := W2.heap, tape := W2.tape, drawn := W2.drawn + 1, os := W2.os, output := W2.output } : World) := (Below.refl _ _).drew
    generalize ({ heap := W2.heap, tape := W2.tape, drawn := W2.drawn + 1, os := W2.os, output := W2.output } : World) = Wd at *
    have hSd : (fun u => u.cell? ⟨w.heap.size, 0, none⟩ = some (.pointer (some ⟨tb, 0, none⟩)) ∧ u.cell? ⟨w.heap.size + 1, 0, none⟩ = some (.int .i64 (a : Int)) ∧ u.cell? ⟨tb, 4, none⟩ = some (.slice (some ⟨gr, 0, none⟩) l.length cr) ∧ u.cell? ⟨tb, 5, none⟩ = some (.slice (some ⟨gf, 0, none⟩) bs.length cf) ∧ u.cell? ⟨gf, a, none⟩ = some (.bool true) ∧ u.cell? ⟨gr, a, none⟩ = some (.slice (some ⟨gu, 0, none⟩) rs.length cu)) Wd := ⟨(hbd.cell (cell_lt x0)).trans x0, (hbd.cell (cell_lt x1)).trans x1, (hbd.cell (cell_lt d4)).trans d4, (hbd.cell (cell_lt d5)).trans d5, (hbd.cell (cell_lt f1)).trans f1, (hbd.cell (cell_lt r1)).trans r1⟩
    try simp only [Act.put, List.getElem_toArray, List.getElem_cons_succ, List.getElem_cons_zero, List.setIfInBounds_toArray, List.set_cons_zero, List.set_cons_succ]
    refine tkX 0 (v := .pointer (some ⟨tb, 0, none⟩)) (hS := hSd) (h := ?_)
    try simp only [Act.put, List.getElem_toArray, List.getElem_cons_succ, List.getElem_cons_zero, List.setIfInBounds_toArray, List.set_cons_zero, List.set_cons_succ]
    refine tkX 1 (hS := hSd) (h := ?_)
    try simp only [Act.put, List.getElem_toArray, List.getElem_cons_succ, List.getElem_cons_zero, List.setIfInBounds_toArray, List.set_cons_zero, List.set_cons_succ]
    refine tkX 2 (hS := hSd) (h := ?_)
    try simp only [Act.put, List.getElem_toArray, List.getElem_cons_succ, List.getElem_cons_zero, List.setIfInBounds_toArray, List.set_cons_zero, List.set_cons_succ]
    refine tkX 3 (v := .slice (some ⟨gf, 0, none⟩) bs.length cf) (hS := hSd) (h := ?_)
    try simp only [Act.put, List.getElem_toArray, List.getElem_cons_succ, List.getElem_cons_zero, List.setIfInBounds_toArray, List.set_cons_zero, List.set_cons_succ]
    refine tkX 4 (v := .int .i64 (a : Int)) (hS := hSd) (h := ?_)
    try simp only [Act.put, List.getElem_toArray, List.getElem_cons_succ, List.getElem_cons_zero, List.setIfInBounds_toArray, List.set_cons_zero, List.set_cons_succ]
    refine wpAnyH_take (i := 5) (v := .pointer (some ⟨gf, a, none⟩)) rfl (by kernel_rfl) (by kernel_rfl) (by kernel_rfl) (fun _ _ _ h => h) (Or.inl ⟨by kernel_rfl, fun W hW => exec_idxB W _ _ _ _ rfl gf a bs.length cf (by kernel_rfl) (by kernel_rfl) hab⟩) hSd ?_
    try simp only [Act.put, List.getElem_toArray, List.getElem_cons_succ, List.getElem_cons_zero, List.setIfInBounds_toArray, List.set_cons_zero, List.set_cons_succ]
    refine tkX 6 (v := .bool true) (hS := hSd) (h := ?_)
    try simp only [Act.put, List.getElem_toArray, List.getElem_cons_succ, List.getElem_cons_zero, List.setIfInBounds_toArray, List.set_cons_zero, List.set_cons_succ]
    refine tkX 7 (v := .bool false) (hS := hSd) (h := ?_)
    try simp only [Act.put, List.getElem_toArray, List.getElem_cons_succ, List.getElem_cons_zero, List.setIfInBounds_toArray, List.set_cons_zero, List.set_cons_succ]
    refine tkX 8 (hS := hSd) (h := ?_)
    try simp only [Act.put, List.getElem_toArray, List.getElem_cons_succ, List.getElem_cons_zero, List.setIfInBounds_toArray, List.set_cons_zero, List.set_cons_succ]
    refine tkS 9 (hS := hSd) (h := ?_)
    try simp only [Act.put, List.getElem_toArray, List.getElem_cons_succ, List.getElem_cons_zero, List.setIfInBounds_toArray, List.set_cons_zero, List.set_cons_succ]
    refine tkS 10 (hS := hSd) (h := ?_)
    try simp only [Act.put, List.getElem_toArray, List.getElem_cons_succ, List.getElem_cons_zero, List.setIfInBounds_toArray, List.set_cons_zero, List.set_cons_succ]
    refine tkS 11 (hS := hSd) (h := ?_)
    try simp only [Act.put, List.getElem_toArray, List.getElem_cons_succ, List.getElem_cons_zero, List.setIfInBounds_toArray, List.set_cons_zero, List.set_cons_succ]
    refine tkS 12 (hS := hSd) (h := ?_)
    try simp only [Act.put, List.getElem_toArray, List.getElem_cons_succ, List.getElem_cons_zero, List.setIfInBounds_toArray, List.set_cons_zero, List.set_cons_succ]
    refine tkS 13 (hS := hSd) (h := ?_)
    try simp only [Act.put, List.getElem_toArray, List.getElem_cons_succ, List.getElem_cons_zero, List.setIfInBounds_toArray, List.set_cons_zero, List.set_cons_succ]
    refine tkS 14 (hS := hSd) (h := ?_)
    try simp only [Act.put, List.getElem_toArray, List.getElem_cons_succ, List.getElem_cons_zero, List.setIfInBounds_toArray, List.set_cons_zero, List.set_cons_succ]
    refine tkS 15 (hS := hSd) (h := ?_)
    try simp only [Act.put, List.getElem_toArray, List.getElem_cons_succ, List.getElem_cons_zero, List.setIfInBounds_toArray, List.set_cons_zero, List.set_cons_succ]
    refine tkS 16 (hS := hSd) (h := ?_)
    try simp only [Act.put, List.getElem_toArray, List.getElem_cons_succ, List.getElem_cons_zero, List.setIfInBounds_toArray, List.set_cons_zero, List.set_cons_succ]
    refine tkS 17 (hS := hSd) (h := ?_)
    try simp only [Act.put, List.getElem_toArray, List.getElem_cons_succ, List.getElem_cons_zero, List.setIfInBounds_toArray, List.set_cons_zero, List.set_cons_succ]
    refine tkS 18 (hS := hSd) (h := ?_)
    try simp only [Act.put, List.getElem_toArray, List.getElem_cons_succ, List.getElem_cons_zero, List.setIfInBounds_toArray, List.set_cons_zero, List.set_cons_succ]
    refine wpAnyH_take (i := 19) (v := .bool false) rfl (by kernel_rfl) (by kernel_rfl) (by kernel_rfl) (fun _ _ _ h => h) (Or.inl ⟨by kernel_rfl, fun W hW => exec_pick W _ _ _ _ _ rfl false (by kernel_rfl) _ (by kernel_rfl)⟩) hSd ?_
    try simp only [Act.put, List.getElem_toArray, List.getElem_cons_succ, List.getElem_cons_zero, List.setIfInBounds_toArray, List.set_cons_zero, List.set_cons_succ]
    refine tkX 20 (hS := hSd) (h := ?_)
    try simp only [Act.put, List.getElem_toArray, List.getElem_cons_succ, List.getElem_cons_zero, List.setIfInBounds_toArray, List.set_cons_zero, List.set_cons_succ]
    refine wpAnyH_done (by kernel_rfl) ?_ _
    clear hSd
    go_wp2_with fail
    go_ret
    refine ⟨by rw [HD.out]; rfl, HBA.out.trans (hbd.mono HBA.out.size)⟩
  | false =>
    refine wp_region_held (S := fun u => u.cell? ⟨w.heap.size, 0, none⟩ = some (.pointer (some ⟨tb, 0, none⟩)) ∧ u.cell? ⟨w.heap.size + 1, 0, none⟩ = some (.int .i64 (a : Int)) ∧ u.cell? ⟨tb, 4, none⟩ = some (.slice (some ⟨gr, 0, none⟩) l.length cr) ∧ u.cell? ⟨tb, 5, none⟩ = some (.slice (some ⟨gf, 0, none⟩) bs.length cf) ∧ u.cell? ⟨gf, a, none⟩ = some (.bool false) ∧ u.cell? ⟨gr, a, none⟩ = some (.slice (some ⟨gu, 0, none⟩) rs.length cu)) (by kernel_rfl) ?_
    have hbd : Below W2.heap.size W2 ({ heap := W2.heap, tape := W2.tape, drawn := W2.drawn + 1, os := W2.os, output := W2.output } : World) := (Below.refl _ _).drew
    generalize ({ heap := W2.heap, tape := W2.tape, drawn := W2.drawn + 1, os := W2.os, output := W2.output } : World) = Wd at *
    have hSd : (fun u => u.cell? ⟨w.heap.size, 0, none⟩ = some (.pointer (some ⟨tb, 0, none⟩)) ∧ u.cell? ⟨w.heap.size + 1, 0, none⟩ = some (.int .i64 (a : Int)) ∧ u.cell? ⟨tb, 4, none⟩ = some (.slice (some ⟨gr, 0, none⟩) l.length cr) ∧ u.cell? ⟨tb, 5, none⟩ = some (.slice (some ⟨gf, 0, none⟩) bs.length cf) ∧ u.cell? ⟨gf, a, none⟩ = some (.bool false) ∧ u.cell? ⟨gr, a, none⟩ = some (.slice (some ⟨gu, 0, none⟩) rs.length cu)) Wd := ⟨(hbd.cell (cell_lt x0)).trans x0, (hbd.cell (cell_lt x1)).trans x1, (hbd.cell (cell_lt d4)).trans d4, (hbd.cell (cell_lt d5)).trans d5, (hbd.cell (cell_lt f1)).trans f1, (hbd.cell (cell_lt r1)).trans r1⟩
    try simp only [Act.put, List.getElem_toArray, List.getElem_cons_succ, List.getElem_cons_zero, List.setIfInBounds_toArray, List.set_cons_zero, List.set_cons_succ]
    refine tkX 0 (v := .pointer (some ⟨tb, 0, none⟩)) (hS := hSd) (h := ?_)
    try simp only [Act.put, List.getElem_toArray, List.getElem_cons_succ, List.getElem_cons_zero, List.setIfInBounds_toArray, List.set_cons_zero, List.set_cons_succ]
    refine tkX 1 (hS := hSd) (h := ?_)
    try simp only [Act.put, List.getElem_toArray, List.getElem_cons_succ, List.getElem_cons_zero, List.setIfInBounds_toArray, List.set_cons_zero, List.set_cons_succ]
    refine tkX 2 (hS := hSd) (h := ?_)
    try simp only [Act.put, List.getElem_toArray, List.getElem_cons_succ, List.getElem_cons_zero, List.setIfInBounds_toArray, List.set_cons_zero, List.set_cons_succ]
    refine tkX 3 (v := .slice (some ⟨gf, 0, none⟩) bs.length cf) (hS := hSd) (h := ?_)
    try simp only [Act.put, List.getElem_toArray, List.getElem_cons_succ, List.getElem_cons_zero, List.setIfInBounds_toArray, List.set_cons_zero, List.set_cons_succ]
    refine tkX 4 (v := .int .i64 (a : Int)) (hS := hSd) (h := ?_)
    try simp only [Act.put, List.getElem_toArray, List.getElem_cons_succ, List.getElem_cons_zero, List.setIfInBounds_toArray, List.set_cons_zero, List.set_cons_succ]
    refine wpAnyH_take (i := 5) (v := .pointer (some ⟨gf, a, none⟩)) rfl (by kernel_rfl) (by kernel_rfl) (by kernel_rfl) (fun _ _ _ h => h) (Or.inl ⟨by kernel_rfl, fun W hW => exec_idxB W _ _ _ _ rfl gf a bs.length cf (by kernel_rfl) (by kernel_rfl) hab⟩) hSd ?_
    try simp only [Act.put, List.getElem_toArray, List.getElem_cons_succ, List.getElem_cons_zero, List.setIfInBounds_toArray, List.set_cons_zero, List.set_cons_succ]
    refine tkX 6 (v := .bool false) (hS := hSd) (h := ?_)
    try simp only [Act.put, List.getElem_toArray, List.getElem_cons_succ, List.getElem_cons_zero, List.setIfInBounds_toArray, List.set_cons_zero, List.set_cons_succ]
    refine tkX 7 (v := .bool true) (hS := hSd) (h := ?_)
    try simp only [Act.put, List.getElem_toArray, List.getElem_cons_succ, List.getElem_cons_zero, List.setIfInBounds_toArray, List.set_cons_zero, List.set_cons_succ]
    refine tkX 8 (hS := hSd) (h := ?_)
    try simp only [Act.put, List.getElem_toArray, List.getElem_cons_succ, List.getElem_cons_zero, List.setIfInBounds_toArray, List.set_cons_zero, List.set_cons_succ]
    refine tkX 9 (v := .pointer (some ⟨tb, 0, none⟩)) (hS := hSd) (h := ?_)
    try simp only [Act.put, List.getElem_toArray, List.getElem_cons_succ, List.getElem_cons_zero, List.setIfInBounds_toArray, List.set_cons_zero, List.set_cons_succ]
    refine tkX 10 (hS := hSd) (h := ?_)
    try simp only [Act.put, List.getElem_toArray, List.getElem_cons_succ, List.getElem_cons_zero, List.setIfInBounds_toArray, List.set_cons_zero, List.set_cons_succ]
    refine tkX 11 (hS := hSd) (h := ?_)
    try simp only [Act.put, List.getElem_toArray, List.getElem_cons_succ, List.getElem_cons_zero, List.setIfInBounds_toArray, List.set_cons_zero, List.set_cons_succ]
    refine tkX 12 (v := .slice (some ⟨gr, 0, none⟩) l.length cr) (hS := hSd) (h := ?_)
    try simp only [Act.put, List.getElem_toArray, List.getElem_cons_succ, List.getElem_cons_zero, List.setIfInBounds_toArray, List.set_cons_zero, List.set_cons_succ]
    refine tkX 13 (v := .int .i64 (a : Int)) (hS := hSd) (h := ?_)
    try simp only [Act.put, List.getElem_toArray, List.getElem_cons_succ, List.getElem_cons_zero, List.setIfInBounds_toArray, List.set_cons_zero, List.set_cons_succ]
    refine wpAnyH_take (i := 14) (v := .pointer (some ⟨gr, a, none⟩)) rfl (by kernel_rfl) (by kernel_rfl) (by kernel_rfl) (fun _ _ _ h => h) (Or.inl ⟨by kernel_rfl, fun W hW => exec_idxR W _ _ _ _ rfl gr a l.length cr (by kernel_rfl) (by kernel_rfl) hal⟩) hSd ?_
    try simp only [Act.put, List.getElem_toArray, List.getElem_cons_succ, List.getElem_cons_zero, List.setIfInBounds_toArray, List.set_cons_zero, List.set_cons_succ]
    refine tkX 15 (v := .slice (some ⟨gu, 0, none⟩) rs.length cu) (hS := hSd) (h := ?_)
    try simp only [Act.put, List.getElem_toArray, List.getElem_cons_succ, List.getElem_cons_zero, List.setIfInBounds_toArray, List.set_cons_zero, List.set_cons_succ]
    refine tkX 16 (hS := hSd) (h := ?_)
    try simp only [Act.put, List.getElem_toArray, List.getElem_cons_succ, List.getElem_cons_zero, List.setIfInBounds_toArray, List.set_cons_zero, List.set_cons_succ]
    refine wpAnyH_one 17 (by kernel_rfl) ?_
    refine wpOp_call 72 #[.slice (some ⟨gu, 0, none⟩) rs.length cu, .func (.func 71) #[] #[.pointer (some ⟨w.heap.size, 0, none⟩), .pointer (some ⟨w.heap.size + 1, 0, none⟩)]] rfl (by kernel_rfl) (exec_call2 _ _ _ _ _ _ _ _ rfl _ _ (by kernel_rfl) (by kernel_rfl) (Tryd.call72 _ _)) ?_
    refine (HC.out Wd hbd).mono ?_
    rintro e w3 ⟨rfl, hb3⟩
    have hb23 := hbd.trans (hb3.mono hbd.size)
    have hS3 : (fun u => u.cell? ⟨w.heap.size, 0, none⟩ = some (.pointer (some ⟨tb, 0, none⟩)) ∧ u.cell? ⟨w.heap.size + 1, 0, none⟩ = some (.int .i64 (a : Int)) ∧ u.cell? ⟨tb, 4, none⟩ = some (.slice (some ⟨gr, 0, none⟩) l.length cr) ∧ u.cell? ⟨tb, 5, none⟩ = some (.slice (some ⟨gf, 0, none⟩) bs.length cf) ∧ u.cell? ⟨gf, a, none⟩ = some (.bool false) ∧ u.cell? ⟨gr, a, none⟩ = some (.slice (some ⟨gu, 0, none⟩) rs.length cu)) w3 := ⟨(hb23.cell (cell_lt x0)).trans x0, (hb23.cell (cell_lt x1)).trans x1, (hb23.cell (cell_lt d4)).trans d4, (hb23.cell (cell_lt d5)).trans d5, (hb23.cell (cell_lt f1)).trans f1, (hb23.cell (cell_lt r1)).trans r1⟩
    refine ⟨hS3, ?_⟩
    try simp only [Act.put, List.getElem_toArray, List.getElem_cons_succ, List.getElem_cons_zero, List.setIfInBounds_toArray, List.set_cons_zero, List.set_cons_succ]
    refine tkX 18 (v := .bool (!B)) (hS := hS3) (h := ?_)
    try simp only [Act.put, List.getElem_toArray, List.getElem_cons_succ, List.getElem_cons_zero, List.setIfInBounds_toArray, List.set_cons_zero, List.set_cons_succ]
    refine wpAnyH_take (i := 19) (v := .bool (!B)) rfl (by kernel_rfl) (by kernel_rfl) (by kernel_rfl) (fun _ _ _ h => h) (Or.inl ⟨by kernel_rfl, fun W hW => exec_pick W _ _ _ _ _ rfl true (by kernel_rfl) _ (by kernel_rfl)⟩) hS3 ?_
    try simp only [Act.put, List.getElem_toArray, List.getElem_cons_succ, List.getElem_cons_zero, List.setIfInBounds_toArray, List.set_cons_zero, List.set_cons_succ]
    refine tkX 20 (hS := hS3) (h := ?_)
    try simp only [Act.put, List.getElem_toArray, List.getElem_cons_succ, List.getElem_cons_zero, List.setIfInBounds_toArray, List.set_cons_zero, List.set_cons_succ]
    refine wpAnyH_done (by kernel_rfl) ?_ _
    clear hSd hS3
    go_wp2_with fail
    go_ret
    refine ⟨by rw [HD.out]; cases B <;> rfl, HBA.out.trans (hb23.mono HBA.out.size)⟩
end Go.Proofs.YtmnfioghhdgciaaDoor

namespace Go.Proofs.YtmnfioghhdgciaaDoor
open Go Go.RowKit
set_option linter.unusedVariables false
set_option linter.unusedSimpArgs false
set_option maxRecDepth 100000

/-! slices.IndexFunc over parts, with the method value of deadEnd: the first part of which p holds, by its number, or -1. -/
def PredP (tb : Nat) (p : Nat → Bool) (us : List Value) (wb : World) : Prop :=
  ∀ (W : World) (j : Nat) (u : Value), Below wb.heap.size wb W → us[j]? = some u → Calls Tryd.prog 57 #[.pointer (some ⟨tb, 0, none⟩), u] W fun e w' => e = .returned (.bool (p j)) ∧ Below W.heap.size W w'
/-- What IndexFunc answers over n parts. -/
def IdxOK (p : Nat → Bool) (n : Nat) (z : Int) : Prop := (z = -1 ∧ ∀ j, j < n → p j = false) ∨ ∃ k : Nat, k < n ∧ z = (k : Int) ∧ p k = true ∧ ∀ j, j < k → p j = false
set_option maxHeartbeats 4000000 in
theorem partIndex_any (tb base g cap : Nat) (p : Nat → Bool) (us : List Value) (w : World) (hn : us.length ≤ 1048576) (hrow : w.ownsRow base 30 1 (.slice (some ⟨g, 0, none⟩) us.length cap) us.length us) (hsl : ∀ (j : Nat) (u : Value), us[j]? = some u → ∃ (ad : Option Addr) (m c : Nat), u = Value.slice ad m c) (hP : PredP tb p us w) :
    Calls Tryd.prog 56 #[.slice (some ⟨g, 0, none⟩) us.length cap, .func (.func 57) #[.pointer (some ⟨tb, 0, none⟩)] #[]] w fun e w' => ∃ z : Int, e = .returned (.int .i64 z) ∧ IdxOK p us.length z ∧ Below w.heap.size w w' := by
  have HS := hidd hrow
  have HP := hidd hP
  have HL := hidd hsl
  clear hrow hP hsl
  go_enter Tryd.func56, Tryd.ntmps56
  go_wp2_with fail
  go_loopw [8] (fun i wx => ∃ k : Nat, k ≤ us.length ∧ i = .int .i64 k ∧ (∀ j, j < k → p j = false) ∧ Below w.heap.size w wx) (fun i _ => us.length - (intOf i).toNat)
  case atStart => exact ⟨0, by omega, rfl, fun j hj => absurd hj (by omega), Below.refl _ _⟩
  case round =>
    obtain ⟨k, hk, rfl, hno, hbx⟩ := hrel
    have HN := hidd hno
    have HB := hidd hbx
    clear hno hbx
    by_cases hlt : k < us.length
    · have hltz : (k : Int) < (us.length : Int) := by omega
      obtain ⟨u, hu⟩ : ∃ u, us[k]? = some u := ⟨_, List.getElem?_eq_getElem hlt⟩
      obtain ⟨ad, m, c, rfl⟩ := HL.out k u hu
      have y0 := own_cellk HS.out hu
      have z0 := (HB.out.cell (cell_lt y0)).trans y0
      have HPk := hidd (HP.out wr k _ HB.out hu)
      clear y0 hu
      cases hp : p k with
      | false =>
        have HPn : Hid (∀ j, j < k + 1 → p j = false) := fun j hj => by
          by_cases h : j < k
          · exact HN.out j h
          · have : j = k := by omega
            subst this
            exact hp
        rw [hp] at HPk
        clear hp
        go_wp2_with (go_at_call 57; refine HPk.out.mono ?_; rintro e w2 ⟨rfl, hb2⟩)
        go_roundw
        case rel => exact ⟨k + 1, by omega, by go_num, HPn.out, HB.out.trans (hb2.mono HB.out.size)⟩
        case measure => simp [intOf]; omega
      | true =>
        have HR : Hid (IdxOK p us.length (k : Int)) := Or.inr ⟨k, hlt, rfl, hp, HN.out⟩
        rw [hp] at HPk
        clear hp
        go_wp2_with (go_at_call 57; refine HPk.out.mono ?_; rintro e w2 ⟨rfl, hb2⟩)
        go_ret
        exact ⟨(k : Int), rfl, HR.out, HB.out.trans (hb2.mono HB.out.size)⟩
    · have hltz : ¬ (k : Int) < (us.length : Int) := by omega
      have HR : Hid (IdxOK p us.length (-1)) := Or.inl ⟨rfl, fun j hj => HN.out j (by omega)⟩
      go_wp2_with fail
      go_ret
      exact ⟨-1, rfl, HR.out, HB.out⟩
end Go.Proofs.YtmnfioghhdgciaaDoor
