import Derived.Test.YtboocdiilbcdcaaDoorHpA
import Derived.Test.YtboocdiilbcdcaaDoorRgB
import Derived.ChangeKeysEq
import Derived.Deep.WholeRow
import Derived.Laws.OwnMore
namespace Go.Proofs.YtboocdiilbcdcaaDoor
open Go Go.RowKit
set_option linter.unusedVariables false

/-- A block of numbers, as cells and as a value. -/
def ruCells (vs : List Int) : List Value := vs.map fun (v : Int) => Value.int .u8 v
def ruArr (vs : List Int) : Array Value := (ruCells vs).toArray
theorem ruCells_length (vs : List Int) : (ruCells vs).length = vs.length := by simp [ruCells]
theorem ruArr_size (vs : List Int) : (ruArr vs).size = vs.length := by simp [ruArr, ruCells]
theorem ruArr_toList (vs : List Int) : (ruArr vs).toList = ruCells vs := by simp [ruArr]
theorem ruArr_get (vs : List Int) (k : Nat) (h : k < vs.length) : (ruArr vs)[k]? = some (.int .u8 (vs.getD k 0)) := by simp [ruArr, ruCells, h]
theorem ruCells_get (vs : List Int) (k : Nat) (h : k < vs.length) : (ruCells vs)[k]? = some (.int .u8 (vs.getD k 0)) := by simp [ruCells, h]
theorem ruCells_set (vs : List Int) (k : Nat) (v : Int) : (ruCells vs).set k (.int .u8 v) = ruCells (vs.set k v) := by simp [ruCells, List.map_set]
theorem ruArr_one (vs : List Int) : (ruArr vs).all (·.oneCell') = true := by
  rw [Array.all_eq_true_iff_forall_mem]
  intro x hx
  simp only [ruArr, List.mem_toArray, ruCells, List.mem_map] at hx
  obtain ⟨v, _, rfl⟩ := hx
  rfl
def rzeros : List Int := List.replicate 256 (0 : Int)
theorem rzeros_length : rzeros.length = 256 := List.length_replicate

/-- A variable that holds a block. -/
def rBlk (w : World) (base g : Nat) (vs : List Int) : Prop := w.ownsRow base 50 1 (.slice (some ⟨g, 0, none⟩) 256 256) 256 (ruCells vs)
theorem rBlk.len {w : World} {base g : Nat} {vs : List Int} (h : rBlk w base g vs) : vs.length = 256 := by have := h.1; rw [ruCells_length] at this; omega
theorem rBlk.heap {w : World} {base g : Nat} {vs : List Int} (h : rBlk w base g vs) : w.heap[g]? = some (.cells (ruArr vs) 50 (0, 0)) := by
  rcases h.2 with ⟨h', _⟩ | ⟨g', cap, cur, h', _, hg, _, _, hs, ht⟩
  · simp at h'
  · simp only [Value.slice.injEq, Option.some.injEq, Addr.mk.injEq, and_true, true_and] at h'
    obtain ⟨rfl, rfl⟩ := h'
    have : cur = ruArr vs := by
      rw [List.take_of_length_le (by rw [Array.length_toList, hs]; omega)] at ht
      rw [ruArr, ← ht]
    rw [hg, this]
theorem rBlk.of {w : World} {base g : Nat} {vs : List Int} (hb : base ≤ g) (hl : vs.length = 256) (h : w.heap[g]? = some (.cells (ruArr vs) 50 (0, 0))) : rBlk w base g vs :=
  ⟨by rw [ruCells_length]; omega, Or.inr ⟨g, 256, ruArr vs, rfl, hb, h, Nat.le_refl _, by unfold maxLen; omega, by rw [ruArr_size]; omega, by rw [ruArr_toList, List.take_of_length_le (by rw [ruCells_length]; omega)]⟩⟩
theorem rBlk.new {w : World} {base : Nat} {vs : List Int} (hb : base ≤ w.heap.size) (hl : vs.length = 256) : rBlk (w.alloc (.cells (ruArr vs) 50)) base w.heap.size vs :=
  rBlk.of hb hl (heap_alloc_new _ _)
theorem rBlk.alloc {w : World} {base g : Nat} {vs : List Int} (h : rBlk w base g vs) (o : Obj) : rBlk (w.alloc o) base g vs := World.ownsRow.alloc h o
theorem rBlk.lt {w : World} {base g : Nat} {vs : List Int} (h : rBlk w base g vs) : base ≤ g ∧ g < w.heap.size := World.ownsRow.lt h g rfl
theorem rBlk.kept {w w' : World} {base g : Nat} {vs : List Int} {row : Option Nat} (h : rBlk w base g vs) (hg : w.grownBy w' row) (hne : row ≠ some g) : rBlk w' base g vs :=
  World.ownsRow.kept h hg (Or.inr fun e => hne e.symm)
theorem rBlk.below {w w' : World} {base g : Nat} {vs : List Int} (h : rBlk w base g vs) (hb : Below w.heap.size w w') : rBlk w' base g vs := own_below h hb
theorem rBlk.drew {w : World} {base g : Nat} {vs : List Int} (h : rBlk w base g vs) (m : Nat) : rBlk (w.drewN m) base g vs := own_drewN h m
theorem rBlk.mono {w : World} {base base' g : Nat} {vs : List Int} (h : rBlk w base g vs) (hb : base' ≤ base) : rBlk w base' g vs := own_mono h hb
theorem rBlk.cell {w : World} {base g : Nat} {vs : List Int} (h : rBlk w base g vs) (k : Nat) (hk : k < 256) : w.cell? ⟨g, k, none⟩ = some (.int .u8 (vs.getD k 0)) := by
  have hl := h.len
  rw [World.ownsRow.cellAt h k (by omega), ruCells_get vs k (by omega)]
theorem rBlk.frozen {w : World} {base g : Nat} {vs : List Int} (h : rBlk w base g vs) (k : Nat) : w.frozen? ⟨g, k, none⟩ = false := World.ownsRow.frozenAt h k
theorem rBlk.set {w : World} {base g : Nat} {vs : List Int} (h : rBlk w base g vs) (k : Nat) (v : Int) : rBlk (w.setCell ⟨g, k, none⟩ (.int .u8 v)) base g (vs.set k v) ∧ w.grownBy (w.setCell ⟨g, k, none⟩ (.int .u8 v)) (some g) := by
  have := World.ownsRow.stored h k (.int .u8 v)
  rw [ruCells_set] at this
  exact this

theorem rblockInfo : (Tryd.prog.info? 50).map (fun i => (i.zero, i.size)) = some (some (.agg (ruArr rzeros)), 256) := by kernel_rfl
theorem rblockSize : (Tryd.prog.info? 50).map (·.size) = some 256 := by kernel_rfl

section
variable {ops : Array Oper} {rest : List Oper} {o : Oper} {a : Act} {w : World} {Q : Exit → Act → World → Prop}
theorem rwpB_load (hgd : o.guard = none) (x : Operand) (ho : o.op = .load 50 x) (base g : Nat) (vs : List Int) (hx : a.eval x = .pointer (some ⟨g, 0, none⟩)) (hB : rBlk w base g vs)
    (h : wpList Tryd.prog ops Q rest (a.put o.dst (.agg (ruArr vs))) w) : wpList Tryd.prog ops Q (o :: rest) a w := by
  have hl := hB.len
  have hr := run_loadVar_row (P := Tryd.prog) w g 50 50 (ruArr vs) (0, 0) _ hB.heap Tryd.underlying50 rfl (by rw [ruArr_size, hl]; exact rblockSize)
  refine wpList_plain hgd fun K hK => ?_
  unfold Oper.wp execOp
  simp only [ho, Instr.loadAt, Instr.sureAddr, hx, Sem.run_bind, Sem.run_pure, Result.andThen_ok, hr]
  exact hK _ _ h
theorem rwpB_box (hgd : o.guard = none) (x : Operand) (ho : o.op = .box 50 x) (vs : List Int) (hx : a.eval x = .agg (ruArr vs))
    (h : wpList Tryd.prog ops Q rest (a.put o.dst (.pointer (some ⟨w.heap.size, 0, none⟩))) (w.alloc (.cells (ruArr vs) 50))) : wpList Tryd.prog ops Q (o :: rest) a w := by
  refine wpList_plain hgd fun K hK => ?_
  unfold Oper.wp execOp
  simp only [ho, Instr.box, newVar, newRow, Value.cells, hx, Sem.run_bind, Sem.run_pure, Result.andThen_ok, run_newObj]
  exact hK _ _ h
theorem rwpB_alloc (hgd : o.guard = none) (ho : o.op = .alloc 50)
    (h : wpList Tryd.prog ops Q rest (a.put o.dst (.pointer (some ⟨w.heap.size, 0, none⟩))) (w.alloc (.cells (ruArr rzeros) 50))) : wpList Tryd.prog ops Q (o :: rest) a w := by
  have hz := (zero_of_info rblockInfo).1 w
  refine wpList_plain hgd fun K hK => ?_
  unfold Oper.wp execOp
  simp only [ho, Instr.alloc, newVar, newRow, Value.cells, hz, Sem.run_bind, Sem.run_pure, Result.andThen_ok, run_newObj]
  exact hK _ _ h
theorem rwpB_store (hgd : o.guard = none) (x y : Operand) (ho : o.op = .store 50 x y) (base g : Nat) (vs us : List Int) (hx : a.eval x = .pointer (some ⟨g, 0, none⟩)) (hy : a.eval y = .agg (ruArr us)) (hl : us.length = 256) (hB : rBlk w base g vs)
    (h : ∀ w', rBlk w' base g us → w.grownBy w' (some g) → wpList Tryd.prog ops Q rest (a.put o.dst undef) w') : wpList Tryd.prog ops Q (o :: rest) a w := by
  have hv := hB.len
  have hr := run_storeVar_row (P := Tryd.prog) w g 50 50 (ruArr vs) (ruArr us) hB.heap (by rw [ruArr_size, hl]; exact rblockSize) (by rw [ruArr_size, ruArr_size]; omega) (ruArr_one us)
  have h1 : rBlk (w.setRow g (ruArr us)) base g us := rBlk.of hB.lt.1 hl (setRow_heap w g _ _ _ _ hB.heap)
  have h2 : w.grownBy (w.setRow g (ruArr us)) (some g) := ⟨rfl, rfl, rfl, by simp [World.setRow], fun i hi hne => by simp only [World.setRow]; rw [Array.getElem?_modify]; have : ¬ g = i := fun e => hne (by rw [e]); simp [this]⟩
  refine wpList_plain hgd fun K hK => ?_
  unfold Oper.wp execOp
  simp only [ho, Instr.storeAt, Instr.sureAddr, hx, hy, Sem.run_bind, Sem.run_pure, Result.andThen_ok, hr]
  exact hK _ _ (h _ h1 h2)
theorem rwpB_index (hgd : o.guard = none) (x y : Operand) (ho : o.op = .index 50 x y) (vs : List Int) (k : Nat) (v : Int) (hl : vs.length = 256) (hk : k < 256) (hvv : vs.getD k 0 = v) (hx : a.eval x = .agg (ruArr vs)) (hy : a.eval y = .int .i64 (k : Int))
    (h : wpList Tryd.prog ops Q rest (a.put o.dst (.int .u8 v)) w) : wpList Tryd.prog ops Q (o :: rest) a w := by
  have hg : (ruArr vs)[k]? = some (.int .u8 v) := by rw [← hvv]; exact ruArr_get vs k (by omega)
  have hr : (Instr.index 50 (.agg (ruArr vs)) (.int .i64 (k : Int))).run Tryd.prog w = .ok (.int .u8 v) w := by
    generalize ruArr vs = cs at hg
    have h0 : (0 : Int) ≤ (k : Int) ∧ (k : Int) < ((256 : Nat) : Int) := ⟨by omega, by omega⟩
    simp [Instr.index, asIntOf, part, hg, hk]
  refine wpList_plain hgd fun K hK => ?_
  unfold Oper.wp execOp
  simp only [ho, hx, hy, Sem.run_bind, Sem.run_pure, Result.andThen_ok, hr]
  exact hK _ _ h
end
theorem reqItems (w : World) (d : Nat) (xs ys : List Int) : ∀ (is : List Nat), (∀ i ∈ is, i < xs.length ∧ i < ys.length) →
    (Op.eqItems (d + 1) 5 1 (ruArr xs) (ruArr ys) is).run Tryd.prog w = .ok (is.all fun i => xs.getD i 0 == ys.getD i 0) w
  | [], _ => by simp [Op.eqItems]
  | i :: is, h => by
    have hk : Tryd.prog.plainKey 5 = true := by kernel_rfl
    have h1 := run_part_plain (P := Tryd.prog) w hk (ruArr_get xs i (h i (by simp)).1)
    have h2 := run_part_plain (P := Tryd.prog) w hk (ruArr_get ys i (h i (by simp)).2)
    have ih := reqItems w d xs ys is (fun j hj => h j (by simp [hj]))
    generalize hxi : xs.getD i 0 = x at *
    generalize hyi : ys.getD i 0 = y at *
    have h3 : (Op.equalIn (d + 1) 5 (.int .u8 x) (.int .u8 y)).run Tryd.prog w = .ok (x == y) w := by
      simp only [Op.equalIn, Sem.run_bind, Tryd.runUnderlying5, Result.andThen_ok]
      by_cases hxy : x = y
      · subst hxy; simp
      · have : (x == y) = false := by simp [hxy]
        simp [this]
    simp only [Op.eqItems, Nat.mul_one, Sem.run_bind, h1, h2, h3, Result.andThen_ok, List.all_cons, hxi, hyi]
    by_cases hxy : x = y
    · subst hxy
      simp [ih]
    · have h4 : (x == y) = false := by simp [hxy]
      simp [h4]
theorem rall_range (xs ys : List Int) (n : Nat) (hx : xs.length = n) (hy : ys.length = n) : ((List.range n).all fun i => xs.getD i 0 == ys.getD i 0) = decide (xs = ys) := by
  by_cases h : xs = ys
  · subst h; simp
  · rw [decide_eq_false h]
    cases hh : ((List.range n).all fun i => xs.getD i 0 == ys.getD i 0) with
    | false => rfl
    | true =>
      exfalso
      apply h
      rw [List.all_eq_true] at hh
      apply List.ext_getElem (by omega)
      intro i h1 h2
      have := hh i (by simp; omega)
      simpa [h1, h2] using this
theorem requal (w : World) (xs ys : List Int) (hx : xs.length = 256) (hy : ys.length = 256) :
    (Op.equal 50 (.agg (ruArr xs)) (.agg (ruArr ys))).run Tryd.prog w = .ok (decide (xs = ys)) w := by
  obtain ⟨i, hi⟩ := info_of_underlying (P := Tryd.prog) Tryd.underlying5
  have hc : Tryd.prog.cellsOf 5 = 1 := by kernel_rfl
  unfold Op.equal
  have hm : Op.maxDepth = 9998 + 1 + 1 := rfl
  rw [hm, run_equalIn_array (P := Tryd.prog) w (9998 + 1) (ruArr xs) (ruArr ys) Tryd.underlying50 hi, hc, reqItems w 9998 xs ys (List.range 256) (fun j hj => by simp at hj; omega), rall_range xs ys 256 hx hy]
theorem rexec_eql (w : World) (ρ : Operand → Value) (o : Oper) (x y : Operand) (ty : TypeId) (ho : o.op = .binOp .eql 50 x y ty) (xs ys : List Int) (hx : xs.length = 256) (hy : ys.length = 256) (hxv : ρ x = .agg (ruArr xs)) (hyv : ρ y = .agg (ruArr ys)) :
    (execOp ρ o).run Tryd.prog w = .ok (.value (.bool (decide (xs = ys)))) w := by
  have he := requal w xs ys hx hy
  have hg : (eqGuard .eql 50 x y (.agg (ruArr xs)) (.agg (ruArr ys))).run Tryd.prog w = .ok () w := by
    simp [eqGuard]
  unfold execOp
  simp only [ho, hxv, hyv, binOp, Sem.run_bind, Sem.run_pure, hg, he, Result.andThen_ok]
theorem rexec_load (W : World) (ρ : Operand → Value) (o : Oper) (x : Operand) (ho : o.op = .load 50 x) (base g : Nat) (vs : List Int) (hx : ρ x = .pointer (some ⟨g, 0, none⟩)) (h : rBlk W base g vs) :
    (execOp ρ o).run Tryd.prog W = .ok (.value (.agg (ruArr vs))) W := by
  have hl := h.len
  have hr := run_loadVar_row (P := Tryd.prog) W g 50 50 (ruArr vs) (0, 0) _ h.heap Tryd.underlying50 rfl (by rw [ruArr_size, hl]; exact rblockSize)
  unfold execOp
  simp only [ho, Instr.loadAt, Instr.sureAddr, hx, Sem.run_bind, Sem.run_pure, Result.andThen_ok, hr]
end Go.Proofs.YtboocdiilbcdcaaDoor
