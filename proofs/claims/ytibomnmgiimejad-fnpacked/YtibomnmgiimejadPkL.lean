import Derived.Test.YtibomnmgiimejadPkM
import Derived.Test.YtibomnmgiimejadPkR
import Derived.Deep.WholeRow
import Derived.Laws.OwnMore
namespace Go.Proofs.Ytibomnmgiimejad
open Go Go.RowKit
set_option linter.unusedVariables false

/-- A block of numbers, as cells and as a value. -/
def uCells (vs : List Nat) : List Value := vs.map fun (v : Nat) => Value.int .u64 (v : Int)
def uArr (vs : List Nat) : Array Value := (uCells vs).toArray
theorem uCells_length (vs : List Nat) : (uCells vs).length = vs.length := by simp [uCells]
theorem uArr_size (vs : List Nat) : (uArr vs).size = vs.length := by simp [uArr, uCells]
theorem uArr_toList (vs : List Nat) : (uArr vs).toList = uCells vs := by simp [uArr]
theorem uArr_get (vs : List Nat) (k : Nat) (h : k < vs.length) : (uArr vs)[k]? = some (.int .u64 ((vs.getD k 0 : Nat) : Int)) := by simp [uArr, uCells, h]
theorem uCells_get (vs : List Nat) (k : Nat) (h : k < vs.length) : (uCells vs)[k]? = some (.int .u64 ((vs.getD k 0 : Nat) : Int)) := by simp [uCells, h]
theorem uCells_set (vs : List Nat) (k v : Nat) : (uCells vs).set k (.int .u64 (v : Int)) = uCells (vs.set k v) := by simp [uCells, List.map_set]
theorem uArr_one (vs : List Nat) : (uArr vs).all (·.oneCell') = true := by
  rw [Array.all_eq_true_iff_forall_mem]
  intro x hx
  simp only [uArr, List.mem_toArray, uCells, List.mem_map] at hx
  obtain ⟨v, _, rfl⟩ := hx
  rfl
theorem uCells_inj : ∀ (a b : List Nat), uCells a = uCells b → a = b := by
  intro a b h
  have := congrArg (List.map fun | Value.int _ z => z.toNat | _ => 0) h
  simpa [uCells, List.map_map, Function.comp_def] using this
def zeros : List Nat := List.replicate 128 0
theorem zeros_length : zeros.length = 128 := by simp [zeros]

/-- A variable that holds a block. -/
def Blk (w : World) (base g : Nat) (vs : List Nat) : Prop := w.ownsRow base 112 1 (.slice (some ⟨g, 0, none⟩) 128 128) 128 (uCells vs)
theorem Blk.len {w : World} {base g : Nat} {vs : List Nat} (h : Blk w base g vs) : vs.length = 128 := by have := h.1; rw [uCells_length] at this; omega
theorem Blk.heap {w : World} {base g : Nat} {vs : List Nat} (h : Blk w base g vs) : w.heap[g]? = some (.cells (uArr vs) 112 (0, 0)) := by
  rcases h.2 with ⟨h', _⟩ | ⟨g', cap, cur, h', _, hg, _, _, hs, ht⟩
  · simp at h'
  · simp only [Value.slice.injEq, Option.some.injEq, Addr.mk.injEq, and_true, true_and] at h'
    obtain ⟨rfl, rfl⟩ := h'
    have : cur = uArr vs := by
      rw [List.take_of_length_le (by rw [Array.length_toList, hs]; omega)] at ht
      rw [uArr, ← ht]
    rw [hg, this]
theorem Blk.of {w : World} {base g : Nat} {vs : List Nat} (hb : base ≤ g) (hl : vs.length = 128) (h : w.heap[g]? = some (.cells (uArr vs) 112 (0, 0))) : Blk w base g vs :=
  ⟨by rw [uCells_length]; omega, Or.inr ⟨g, 128, uArr vs, rfl, hb, h, Nat.le_refl _, by unfold maxLen; omega, by rw [uArr_size]; omega, by rw [uArr_toList, List.take_of_length_le (by rw [uCells_length]; omega)]⟩⟩
theorem Blk.new {w : World} {base : Nat} {vs : List Nat} (hb : base ≤ w.heap.size) (hl : vs.length = 128) : Blk (w.alloc (.cells (uArr vs) 112)) base w.heap.size vs :=
  Blk.of hb hl (heap_alloc_last _ _)
theorem Blk.alloc {w : World} {base g : Nat} {vs : List Nat} (h : Blk w base g vs) (o : Obj) : Blk (w.alloc o) base g vs := World.ownsRow.alloc h o
theorem Blk.lt {w : World} {base g : Nat} {vs : List Nat} (h : Blk w base g vs) : base ≤ g ∧ g < w.heap.size := World.ownsRow.lt h g rfl
theorem Blk.kept {w w' : World} {base g : Nat} {vs : List Nat} {row : Option Nat} (h : Blk w base g vs) (hg : w.grownBy w' row) (hne : row ≠ some g) : Blk w' base g vs :=
  World.ownsRow.kept h hg (Or.inr fun e => hne e.symm)
theorem Blk.below {w w' : World} {base g : Nat} {vs : List Nat} (h : Blk w base g vs) (hb : Below w.heap.size w w') : Blk w' base g vs := own_below h hb
theorem Blk.drew {w : World} {base g : Nat} {vs : List Nat} (h : Blk w base g vs) (m : Nat) : Blk (w.drewN m) base g vs := own_drewN h m
theorem Blk.mono {w : World} {base base' g : Nat} {vs : List Nat} (h : Blk w base g vs) (hb : base' ≤ base) : Blk w base' g vs := own_mono h hb
theorem Blk.cell {w : World} {base g : Nat} {vs : List Nat} (h : Blk w base g vs) (k : Nat) (hk : k < 128) : w.cell? ⟨g, k, none⟩ = some (.int .u64 ((vs.getD k 0 : Nat) : Int)) := by
  have hl := h.len
  rw [World.ownsRow.cellAt h k (by omega), uCells_get vs k (by omega)]
theorem Blk.frozen {w : World} {base g : Nat} {vs : List Nat} (h : Blk w base g vs) (k : Nat) : w.frozen? ⟨g, k, none⟩ = false := World.ownsRow.frozenAt h k
theorem Blk.set {w : World} {base g : Nat} {vs : List Nat} (h : Blk w base g vs) (k v : Nat) : Blk (w.setCell ⟨g, k, none⟩ (.int .u64 (v : Int))) base g (vs.set k v) ∧ w.grownBy (w.setCell ⟨g, k, none⟩ (.int .u64 (v : Int))) (some g) := by
  have := World.ownsRow.stored h k (.int .u64 (v : Int))
  rw [uCells_set] at this
  exact this

theorem blockInfo : (Try.prog.info? 112).map (fun i => (i.zero, i.size)) = some (some (.agg (uArr zeros)), 128) := by kernel_rfl
theorem blockSize : (Try.prog.info? 112).map (·.size) = some 128 := by kernel_rfl

section
variable {ops : Array Oper} {rest : List Oper} {o : Oper} {a : Act} {w : World} {Q : Exit → Act → World → Prop}
theorem wpB_load (hgd : o.guard = none) (x : Operand) (ho : o.op = .load 112 x) (base g : Nat) (vs : List Nat) (hx : a.eval x = .pointer (some ⟨g, 0, none⟩)) (hB : Blk w base g vs)
    (h : wpList Try.prog ops Q rest (a.put o.dst (.agg (uArr vs))) w) : wpList Try.prog ops Q (o :: rest) a w := by
  have hl := hB.len
  have hr := run_loadVar_row (P := Try.prog) w g 112 112 (uArr vs) (0, 0) _ hB.heap Try.underlying112 rfl (by rw [uArr_size, hl]; exact blockSize)
  refine wpList_plain hgd fun K hK => ?_
  unfold Oper.wp execOp
  simp only [ho, Instr.loadAt, Instr.sureAddr, hx, Sem.run_bind, Sem.run_pure, Result.andThen_ok, hr]
  exact hK _ _ h
theorem wpB_box (hgd : o.guard = none) (x : Operand) (ho : o.op = .box 112 x) (vs : List Nat) (hx : a.eval x = .agg (uArr vs))
    (h : wpList Try.prog ops Q rest (a.put o.dst (.pointer (some ⟨w.heap.size, 0, none⟩))) (w.alloc (.cells (uArr vs) 112))) : wpList Try.prog ops Q (o :: rest) a w := by
  refine wpList_plain hgd fun K hK => ?_
  unfold Oper.wp execOp
  simp only [ho, Instr.box, newVar, newRow, Value.cells, hx, Sem.run_bind, Sem.run_pure, Result.andThen_ok, run_newObj]
  exact hK _ _ h
theorem wpB_alloc (hgd : o.guard = none) (ho : o.op = .alloc 112)
    (h : wpList Try.prog ops Q rest (a.put o.dst (.pointer (some ⟨w.heap.size, 0, none⟩))) (w.alloc (.cells (uArr zeros) 112))) : wpList Try.prog ops Q (o :: rest) a w := by
  have hz := (zero_of_info blockInfo).1 w
  refine wpList_plain hgd fun K hK => ?_
  unfold Oper.wp execOp
  simp only [ho, Instr.alloc, newVar, newRow, Value.cells, hz, Sem.run_bind, Sem.run_pure, Result.andThen_ok, run_newObj]
  exact hK _ _ h
theorem wpB_store (hgd : o.guard = none) (x y : Operand) (ho : o.op = .store 112 x y) (base g : Nat) (vs us : List Nat) (hx : a.eval x = .pointer (some ⟨g, 0, none⟩)) (hy : a.eval y = .agg (uArr us)) (hl : us.length = 128) (hB : Blk w base g vs)
    (h : ∀ w', Blk w' base g us → w.grownBy w' (some g) → wpList Try.prog ops Q rest (a.put o.dst undef) w') : wpList Try.prog ops Q (o :: rest) a w := by
  have hv := hB.len
  have hr := run_storeVar_row (P := Try.prog) w g 112 112 (uArr vs) (uArr us) hB.heap (by rw [uArr_size, hl]; exact blockSize) (by rw [uArr_size, uArr_size]; omega) (uArr_one us)
  have h1 : Blk (w.setRow g (uArr us)) base g us := Blk.of hB.lt.1 hl (setRow_heap w g _ _ _ _ hB.heap)
  have h2 : w.grownBy (w.setRow g (uArr us)) (some g) := ⟨rfl, rfl, rfl, by simp [World.setRow], fun i hi hne => by simp only [World.setRow]; rw [Array.getElem?_modify]; have : ¬ g = i := fun e => hne (by rw [e]); simp [this]⟩
  refine wpList_plain hgd fun K hK => ?_
  unfold Oper.wp execOp
  simp only [ho, Instr.storeAt, Instr.sureAddr, hx, hy, Sem.run_bind, Sem.run_pure, Result.andThen_ok, hr]
  exact hK _ _ (h _ h1 h2)
theorem wpB_build (hgd : o.guard = none) (ho : o.op = .build 112 #[])
    (h : wpList Try.prog ops Q rest (a.put o.dst (.agg (uArr zeros))) w) : wpList Try.prog ops Q (o :: rest) a w := by
  have hz := (zero_of_info blockInfo).1 w
  refine wpList_plain hgd fun K hK => ?_
  unfold Oper.wp execOp
  simp only [ho, Instr.build, Instr.fill, Value.cells, hz, Sem.run_bind, Sem.run_pure, Result.andThen_ok, Try.runUnderlying112, Try.sizeOf67, List.map_toArray, List.map_nil]
  exact hK _ _ h
theorem wpB_index (hgd : o.guard = none) (x y : Operand) (ho : o.op = .index 112 x y) (vs : List Nat) (k v : Nat) (hl : vs.length = 128) (hk : k < 128) (hvv : vs.getD k 0 = v) (hx : a.eval x = .agg (uArr vs)) (hy : a.eval y = .int .i64 (k : Int))
    (h : wpList Try.prog ops Q rest (a.put o.dst (.int .u64 (v : Int))) w) : wpList Try.prog ops Q (o :: rest) a w := by
  have hg : (uArr vs)[k]? = some (.int .u64 (v : Int)) := by rw [← hvv]; exact uArr_get vs k (by omega)
  have hr : (Instr.index 112 (.agg (uArr vs)) (.int .i64 (k : Int))).run Try.prog w = .ok (.int .u64 (v : Int)) w := by
    generalize uArr vs = cs at hg
    have h0 : (0 : Int) ≤ (k : Int) ∧ (k : Int) < ((128 : Nat) : Int) := ⟨by omega, by omega⟩
    simp [Instr.index, asIntOf, part, hg, hk]
  refine wpList_plain hgd fun K hK => ?_
  unfold Oper.wp execOp
  simp only [ho, hx, hy, Sem.run_bind, Sem.run_pure, Result.andThen_ok, hr]
  exact hK _ _ h
end
end Go.Proofs.Ytibomnmgiimejad
