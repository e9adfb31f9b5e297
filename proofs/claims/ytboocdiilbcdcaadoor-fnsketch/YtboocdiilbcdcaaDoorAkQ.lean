import Derived.Test.YtboocdiilbcdcaaDoorHpA
import Derived.Test.YtboocdiilbcdcaaDoorRgB
import Derived.ChangeKeysEq
import Derived.Deep.WholeRow
import Derived.Laws.OwnMore
namespace Go.Proofs.YtboocdiilbcdcaaDoor
open Go Go.RowKit
set_option linter.unusedVariables false

/-- A block of numbers, as cells and as a value. -/
def quCells (vs : List Int) : List Value := vs.map fun (v : Int) => Value.int .i64 v
def quArr (vs : List Int) : Array Value := (quCells vs).toArray
theorem quCells_length (vs : List Int) : (quCells vs).length = vs.length := by simp [quCells]
theorem quArr_size (vs : List Int) : (quArr vs).size = vs.length := by simp [quArr, quCells]
theorem quArr_toList (vs : List Int) : (quArr vs).toList = quCells vs := by simp [quArr]
theorem quArr_get (vs : List Int) (k : Nat) (h : k < vs.length) : (quArr vs)[k]? = some (.int .i64 (vs.getD k 0)) := by simp [quArr, quCells, h]
theorem quCells_get (vs : List Int) (k : Nat) (h : k < vs.length) : (quCells vs)[k]? = some (.int .i64 (vs.getD k 0)) := by simp [quCells, h]
theorem quCells_set (vs : List Int) (k : Nat) (v : Int) : (quCells vs).set k (.int .i64 v) = quCells (vs.set k v) := by simp [quCells, List.map_set]
theorem quArr_one (vs : List Int) : (quArr vs).all (·.oneCell') = true := by
  rw [Array.all_eq_true_iff_forall_mem]
  intro x hx
  simp only [quArr, List.mem_toArray, quCells, List.mem_map] at hx
  obtain ⟨v, _, rfl⟩ := hx
  rfl
def qzeros : List Int := List.replicate 256 (0 : Int)
theorem qzeros_length : qzeros.length = 256 := List.length_replicate

/-- A variable that holds a block. -/
def qBlk (w : World) (base g : Nat) (vs : List Int) : Prop := w.ownsRow base 68 1 (.slice (some ⟨g, 0, none⟩) 256 256) 256 (quCells vs)
theorem qBlk.len {w : World} {base g : Nat} {vs : List Int} (h : qBlk w base g vs) : vs.length = 256 := by have := h.1; rw [quCells_length] at this; omega
theorem qBlk.heap {w : World} {base g : Nat} {vs : List Int} (h : qBlk w base g vs) : w.heap[g]? = some (.cells (quArr vs) 68 (0, 0)) := by
  rcases h.2 with ⟨h', _⟩ | ⟨g', cap, cur, h', _, hg, _, _, hs, ht⟩
  · simp at h'
  · simp only [Value.slice.injEq, Option.some.injEq, Addr.mk.injEq, and_true, true_and] at h'
    obtain ⟨rfl, rfl⟩ := h'
    have : cur = quArr vs := by
      rw [List.take_of_length_le (by rw [Array.length_toList, hs]; omega)] at ht
      rw [quArr, ← ht]
    rw [hg, this]
theorem qBlk.of {w : World} {base g : Nat} {vs : List Int} (hb : base ≤ g) (hl : vs.length = 256) (h : w.heap[g]? = some (.cells (quArr vs) 68 (0, 0))) : qBlk w base g vs :=
  ⟨by rw [quCells_length]; omega, Or.inr ⟨g, 256, quArr vs, rfl, hb, h, Nat.le_refl _, by unfold maxLen; omega, by rw [quArr_size]; omega, by rw [quArr_toList, List.take_of_length_le (by rw [quCells_length]; omega)]⟩⟩
theorem qBlk.new {w : World} {base : Nat} {vs : List Int} (hb : base ≤ w.heap.size) (hl : vs.length = 256) : qBlk (w.alloc (.cells (quArr vs) 68)) base w.heap.size vs :=
  qBlk.of hb hl (heap_alloc_new _ _)
theorem qBlk.alloc {w : World} {base g : Nat} {vs : List Int} (h : qBlk w base g vs) (o : Obj) : qBlk (w.alloc o) base g vs := World.ownsRow.alloc h o
theorem qBlk.lt {w : World} {base g : Nat} {vs : List Int} (h : qBlk w base g vs) : base ≤ g ∧ g < w.heap.size := World.ownsRow.lt h g rfl
theorem qBlk.kept {w w' : World} {base g : Nat} {vs : List Int} {row : Option Nat} (h : qBlk w base g vs) (hg : w.grownBy w' row) (hne : row ≠ some g) : qBlk w' base g vs :=
  World.ownsRow.kept h hg (Or.inr fun e => hne e.symm)
theorem qBlk.below {w w' : World} {base g : Nat} {vs : List Int} (h : qBlk w base g vs) (hb : Below w.heap.size w w') : qBlk w' base g vs := own_below h hb
theorem qBlk.drew {w : World} {base g : Nat} {vs : List Int} (h : qBlk w base g vs) (m : Nat) : qBlk (w.drewN m) base g vs := own_drewN h m
theorem qBlk.mono {w : World} {base base' g : Nat} {vs : List Int} (h : qBlk w base g vs) (hb : base' ≤ base) : qBlk w base' g vs := own_mono h hb
theorem qBlk.cell {w : World} {base g : Nat} {vs : List Int} (h : qBlk w base g vs) (k : Nat) (hk : k < 256) : w.cell? ⟨g, k, none⟩ = some (.int .i64 (vs.getD k 0)) := by
  have hl := h.len
  rw [World.ownsRow.cellAt h k (by omega), quCells_get vs k (by omega)]
theorem qBlk.frozen {w : World} {base g : Nat} {vs : List Int} (h : qBlk w base g vs) (k : Nat) : w.frozen? ⟨g, k, none⟩ = false := World.ownsRow.frozenAt h k
theorem qBlk.set {w : World} {base g : Nat} {vs : List Int} (h : qBlk w base g vs) (k : Nat) (v : Int) : qBlk (w.setCell ⟨g, k, none⟩ (.int .i64 v)) base g (vs.set k v) ∧ w.grownBy (w.setCell ⟨g, k, none⟩ (.int .i64 v)) (some g) := by
  have := World.ownsRow.stored h k (.int .i64 v)
  rw [quCells_set] at this
  exact this

theorem qblockInfo : (Tryd.prog.info? 68).map (fun i => (i.zero, i.size)) = some (some (.agg (quArr qzeros)), 256) := by kernel_rfl
theorem qblockSize : (Tryd.prog.info? 68).map (·.size) = some 256 := by kernel_rfl

section
variable {ops : Array Oper} {rest : List Oper} {o : Oper} {a : Act} {w : World} {Q : Exit → Act → World → Prop}
theorem qwpB_load (hgd : o.guard = none) (x : Operand) (ho : o.op = .load 68 x) (base g : Nat) (vs : List Int) (hx : a.eval x = .pointer (some ⟨g, 0, none⟩)) (hB : qBlk w base g vs)
    (h : wpList Tryd.prog ops Q rest (a.put o.dst (.agg (quArr vs))) w) : wpList Tryd.prog ops Q (o :: rest) a w := by
  have hl := hB.len
  have hr := run_loadVar_row (P := Tryd.prog) w g 68 68 (quArr vs) (0, 0) _ hB.heap Tryd.underlying68 rfl (by rw [quArr_size, hl]; exact qblockSize)
  refine wpList_plain hgd fun K hK => ?_
  unfold Oper.wp execOp
  simp only [ho, Instr.loadAt, Instr.sureAddr, hx, Sem.run_bind, Sem.run_pure, Result.andThen_ok, hr]
  exact hK _ _ h
theorem qwpB_box (hgd : o.guard = none) (x : Operand) (ho : o.op = .box 68 x) (vs : List Int) (hx : a.eval x = .agg (quArr vs))
    (h : wpList Tryd.prog ops Q rest (a.put o.dst (.pointer (some ⟨w.heap.size, 0, none⟩))) (w.alloc (.cells (quArr vs) 68))) : wpList Tryd.prog ops Q (o :: rest) a w := by
  refine wpList_plain hgd fun K hK => ?_
  unfold Oper.wp execOp
  simp only [ho, Instr.box, newVar, newRow, Value.cells, hx, Sem.run_bind, Sem.run_pure, Result.andThen_ok, run_newObj]
  exact hK _ _ h
theorem qwpB_alloc (hgd : o.guard = none) (ho : o.op = .alloc 68)
    (h : wpList Tryd.prog ops Q rest (a.put o.dst (.pointer (some ⟨w.heap.size, 0, none⟩))) (w.alloc (.cells (quArr qzeros) 68))) : wpList Tryd.prog ops Q (o :: rest) a w := by
  have hz := (zero_of_info qblockInfo).1 w
  refine wpList_plain hgd fun K hK => ?_
  unfold Oper.wp execOp
  simp only [ho, Instr.alloc, newVar, newRow, Value.cells, hz, Sem.run_bind, Sem.run_pure, Result.andThen_ok, run_newObj]
  exact hK _ _ h
theorem qwpB_store (hgd : o.guard = none) (x y : Operand) (ho : o.op = .store 68 x y) (base g : Nat) (vs us : List Int) (hx : a.eval x = .pointer (some ⟨g, 0, none⟩)) (hy : a.eval y = .agg (quArr us)) (hl : us.length = 256) (hB : qBlk w base g vs)
    (h : ∀ w', qBlk w' base g us → w.grownBy w' (some g) → wpList Tryd.prog ops Q rest (a.put o.dst undef) w') : wpList Tryd.prog ops Q (o :: rest) a w := by
  have hv := hB.len
  have hr := run_storeVar_row (P := Tryd.prog) w g 68 68 (quArr vs) (quArr us) hB.heap (by rw [quArr_size, hl]; exact qblockSize) (by rw [quArr_size, quArr_size]; omega) (quArr_one us)
  have h1 : qBlk (w.setRow g (quArr us)) base g us := qBlk.of hB.lt.1 hl (setRow_heap w g _ _ _ _ hB.heap)
  have h2 : w.grownBy (w.setRow g (quArr us)) (some g) := ⟨rfl, rfl, rfl, by simp [World.setRow], fun i hi hne => by simp only [World.setRow]; rw [Array.getElem?_modify]; have : ¬ g = i := fun e => hne (by rw [e]); simp [this]⟩
  refine wpList_plain hgd fun K hK => ?_
  unfold Oper.wp execOp
  simp only [ho, Instr.storeAt, Instr.sureAddr, hx, hy, Sem.run_bind, Sem.run_pure, Result.andThen_ok, hr]
  exact hK _ _ (h _ h1 h2)
theorem qwpB_index (hgd : o.guard = none) (x y : Operand) (ho : o.op = .index 68 x y) (vs : List Int) (k : Nat) (v : Int) (hl : vs.length = 256) (hk : k < 256) (hvv : vs.getD k 0 = v) (hx : a.eval x = .agg (quArr vs)) (hy : a.eval y = .int .i64 (k : Int))
    (h : wpList Tryd.prog ops Q rest (a.put o.dst (.int .i64 v)) w) : wpList Tryd.prog ops Q (o :: rest) a w := by
  have hg : (quArr vs)[k]? = some (.int .i64 v) := by rw [← hvv]; exact quArr_get vs k (by omega)
  have hr : (Instr.index 68 (.agg (quArr vs)) (.int .i64 (k : Int))).run Tryd.prog w = .ok (.int .i64 v) w := by
    generalize quArr vs = cs at hg
    have h0 : (0 : Int) ≤ (k : Int) ∧ (k : Int) < ((256 : Nat) : Int) := ⟨by omega, by omega⟩
    simp [Instr.index, asIntOf, part, hg, hk]
  refine wpList_plain hgd fun K hK => ?_
  unfold Oper.wp execOp
  simp only [ho, hx, hy, Sem.run_bind, Sem.run_pure, Result.andThen_ok, hr]
  exact hK _ _ h
end
theorem qeqItems (w : World) (d : Nat) (xs ys : List Int) : ∀ (is : List Nat), (∀ i ∈ is, i < xs.length ∧ i < ys.length) →
    (Op.eqItems (d + 1) 3 1 (quArr xs) (quArr ys) is).run Tryd.prog w = .ok (is.all fun i => xs.getD i 0 == ys.getD i 0) w
  | [], _ => by simp [Op.eqItems]
  | i :: is, h => by
    have hk : Tryd.prog.plainKey 3 = true := by kernel_rfl
    have h1 := run_part_plain (P := Tryd.prog) w hk (quArr_get xs i (h i (by simp)).1)
    have h2 := run_part_plain (P := Tryd.prog) w hk (quArr_get ys i (h i (by simp)).2)
    have ih := qeqItems w d xs ys is (fun j hj => h j (by simp [hj]))
    generalize hxi : xs.getD i 0 = x at *
    generalize hyi : ys.getD i 0 = y at *
    have h3 : (Op.equalIn (d + 1) 3 (.int .i64 x) (.int .i64 y)).run Tryd.prog w = .ok (x == y) w := by
      simp only [Op.equalIn, Sem.run_bind, Tryd.runUnderlying3, Result.andThen_ok]
      by_cases hxy : x = y
      · subst hxy; simp
      · have : (x == y) = false := by simp [hxy]
        simp [this]
    simp only [Op.eqItems, Nat.mul_one, Sem.run_bind, h1, h2, h3, Result.andThen_ok, List.all_cons, hxi, hyi]
    by_cases hxy : x = y
    · subst hxy
      simp [ih]
    · have h4 : (x == y) = false := by simp [hxy]
      simp [h4]
theorem qall_range (xs ys : List Int) (n : Nat) (hx : xs.length = n) (hy : ys.length = n) : ((List.range n).all fun i => xs.getD i 0 == ys.getD i 0) = decide (xs = ys) := by
  by_cases h : xs = ys
  · subst h; simp
  · rw [decide_eq_false h]
    cases hh : ((List.range n).all fun i => xs.getD i 0 == ys.getD i 0) with
    | false => rfl
    | true =>
      exfalso
      apply h
      rw [List.all_eq_true] at hh
      apply List.ext_getElem (by omega)
      intro i h1 h2
      have := hh i (by simp; omega)
      simpa [h1, h2] using this
theorem qequal (w : World) (xs ys : List Int) (hx : xs.length = 256) (hy : ys.length = 256) :
    (Op.equal 68 (.agg (quArr xs)) (.agg (quArr ys))).run Tryd.prog w = .ok (decide (xs = ys)) w := by
  obtain ⟨i, hi⟩ := info_of_underlying (P := Tryd.prog) Tryd.underlying3
  have hc : Tryd.prog.cellsOf 3 = 1 := by kernel_rfl
  unfold Op.equal
  have hm : Op.maxDepth = 9998 + 1 + 1 := rfl
  rw [hm, run_equalIn_array (P := Tryd.prog) w (9998 + 1) (quArr xs) (quArr ys) Tryd.underlying68 hi, hc, qeqItems w 9998 xs ys (List.range 256) (fun j hj => by simp at hj; omega), qall_range xs ys 256 hx hy]
theorem qexec_eql (w : World) (ρ : Operand → Value) (o : Oper) (x y : Operand) (ty : TypeId) (ho : o.op = .binOp .eql 68 x y ty) (xs ys : List Int) (hx : xs.length = 256) (hy : ys.length = 256) (hxv : ρ x = .agg (quArr xs)) (hyv : ρ y = .agg (quArr ys)) :
    (execOp ρ o).run Tryd.prog w = .ok (.value (.bool (decide (xs = ys)))) w := by
  have he := qequal w xs ys hx hy
  have hg : (eqGuard .eql 68 x y (.agg (quArr xs)) (.agg (quArr ys))).run Tryd.prog w = .ok () w := by
    simp [eqGuard]
  unfold execOp
  simp only [ho, hxv, hyv, binOp, Sem.run_bind, Sem.run_pure, hg, he, Result.andThen_ok]
theorem qexec_load (W : World) (ρ : Operand → Value) (o : Oper) (x : Operand) (ho : o.op = .load 68 x) (base g : Nat) (vs : List Int) (hx : ρ x = .pointer (some ⟨g, 0, none⟩)) (h : qBlk W base g vs) :
    (execOp ρ o).run Tryd.prog W = .ok (.value (.agg (quArr vs))) W := by
  have hl := h.len
  have hr := run_loadVar_row (P := Tryd.prog) W g 68 68 (quArr vs) (0, 0) _ h.heap Tryd.underlying68 rfl (by rw [quArr_size, hl]; exact qblockSize)
  unfold execOp
  simp only [ho, Instr.loadAt, Instr.sureAddr, hx, Sem.run_bind, Sem.run_pure, Result.andThen_ok, hr]
end Go.Proofs.YtboocdiilbcdcaaDoor
