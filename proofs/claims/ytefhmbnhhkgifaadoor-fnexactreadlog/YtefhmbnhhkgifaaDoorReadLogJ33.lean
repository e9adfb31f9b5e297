import Derived.Test.YtefhmbnhhkgifaaDoorProg
import Derived.OrdersHeld
import Derived.WalkKit
import Derived.ProofKit
import Derived.Test.YtefhmbnhhkgifaaDoorReadLogJ00
import Derived.Test.YtefhmbnhhkgifaaDoorReadLogJ17
namespace Go.Proofs.YtefhmbnhhkgifaaDoor
open Go Go.RowKit
set_option linter.unusedVariables false

section
variable {ops : Array Oper} {Q : Exit → Act → World → Prop} {S : World → Prop} {md : Region.Mode} {fuel : Nat} {listed : Array Bool} {a : Act} {w : World}
/-- An operation that is wanted, taken in a drawn region. -/
theorem tkW (i : Nat) {oi : Oper} {v : Value} (hi : ops[i]? = some oi := by rfl) (hs : Region.noSelect ops = true := by kernel_rfl) (hf : Region.free md ops listed i = true := by kernel_rfl) (hr : (Region.ready md ops listed).contains i = true := by kernel_rfl)
    (hQ : ∀ c a w, Q (.panic c) (a.put oi.dst v) w → Q (.panic c) a w := by exact fun _ _ _ h => h) (hw : Region.wanted oi (yielded ops a.tmps) = true := by kernel_rfl) (hx : ∀ w, S w → (execOp a.eval oi).run Tryd.prog w = .ok (.value v) w)
    (hS : S w := by assumption) (h : wpAnyH Tryd.prog md ops Q S fuel (listed.setIfInBounds i true) (a.put oi.dst v) w) : wpAnyH Tryd.prog md ops Q S (fuel + 1) listed a w :=
  wpAnyH_take hi hs hf hr hQ (Or.inl ⟨hw, hx⟩) hS h
/-- The same, with the value read off. -/
theorem tkX (i : Nat) {oi : Oper} {v : Value} (hi : ops[i]? = some oi := by rfl) (hs : Region.noSelect ops = true := by kernel_rfl) (hf : Region.free md ops listed i = true := by kernel_rfl) (hr : (Region.ready md ops listed).contains i = true := by kernel_rfl)
    (hQ : ∀ c a w, Q (.panic c) (a.put oi.dst v) w → Q (.panic c) a w := by exact fun _ _ _ h => h) (hw : Region.wanted oi (yielded ops a.tmps) = true := by kernel_rfl) (hx : ∀ w, S w → (execOp a.eval oi).run Tryd.prog w = .ok (.value v) w := by (intro w hSw; (try dsimp only at hSw); go_simp <;> with_reducible rfl))
    (hS : S w := by assumption) (h : wpAnyH Tryd.prog md ops Q S fuel (listed.setIfInBounds i true) (a.put oi.dst v) w) : wpAnyH Tryd.prog md ops Q S (fuel + 1) listed a w :=
  wpAnyH_take hi hs hf hr hQ (Or.inl ⟨hw, hx⟩) hS h
/-- One that is not wanted. -/
theorem tkS (i : Nat) {oi : Oper} (hi : ops[i]? = some oi := by rfl) (hs : Region.noSelect ops = true := by kernel_rfl) (hf : Region.free md ops listed i = true := by kernel_rfl) (hr : (Region.ready md ops listed).contains i = true := by kernel_rfl)
    (hQ : ∀ c a w, Q (.panic c) (a.put oi.dst undef) w → Q (.panic c) a w := by exact fun _ _ _ h => h) (hw : Region.wanted oi (yielded ops a.tmps) = false := by kernel_rfl)
    (hS : S w := by assumption) (h : wpAnyH Tryd.prog md ops Q S fuel (listed.setIfInBounds i true) (a.put oi.dst undef) w) : wpAnyH Tryd.prog md ops Q S (fuel + 1) listed a w :=
  wpAnyH_take hi hs hf hr hQ (Or.inr ⟨hw, rfl⟩) hS h
end
end Go.Proofs.YtefhmbnhhkgifaaDoor

namespace Go.Proofs.YtefhmbnhhkgifaaDoor
open Go Go.RowKit
set_option linter.unusedVariables false

/-! The operations of a drawn region, one by one. -/
section
variable {ops : Array Oper} {Q : Exit → Act → World → Prop} {S : World → Prop} {md : Region.Mode} {a : Act} {w : World}
theorem wpAnyH_one (i : Nat) {fuel : Nat} {listed : Array Bool} (hr : Region.ready md ops listed = [i])
    (h : wpOp Tryd.prog ops Q i (fun a' w' => S w' ∧ wpAnyH Tryd.prog md ops Q S fuel (listed.setIfInBounds i true) a' w') a w) : wpAnyH Tryd.prog md ops Q S (fuel + 1) listed a w :=
  wpAnyH_all hr (by simp) (fun j hj => by
    have e : j = i := by simpa using hj
    subst e
    exact h)
theorem wpAnyH_two (i j : Nat) {fuel : Nat} {listed : Array Bool} (hr : Region.ready md ops listed = [i, j])
    (h1 : wpOp Tryd.prog ops Q i (fun a' w' => S w' ∧ wpAnyH Tryd.prog md ops Q S fuel (listed.setIfInBounds i true) a' w') a w)
    (h2 : wpOp Tryd.prog ops Q j (fun a' w' => S w' ∧ wpAnyH Tryd.prog md ops Q S fuel (listed.setIfInBounds j true) a' w') a w) : wpAnyH Tryd.prog md ops Q S (fuel + 1) listed a w :=
  wpAnyH_all hr (by simp) (fun k hk => by
    have e : k = i ∨ k = j := by simpa using hk
    rcases e with rfl | rfl
    · exact h1
    · exact h2)
theorem wpOp_val {K : Act → World → Prop} {i : Nat} {o : Oper} (v : Value) (w' : World) (hi : ops[i]? = some o) (hw : Region.wanted o (yielded ops a.tmps) = true) (ho : (execOp a.eval o).run Tryd.prog w = .ok (.value v) w')
    (h : K (a.put o.dst v) w') : wpOp Tryd.prog ops Q i K a w := by
  unfold wpOp
  simp only [hi, hw, if_true, Oper.wp, ho, Oper.upon]
  exact .inl h
theorem wpOp_skip {K : Act → World → Prop} {i : Nat} {o : Oper} (w' : World) (hi : ops[i]? = some o) (hw : Region.wanted o (yielded ops a.tmps) = true) (ho : (execOp a.eval o).run Tryd.prog w = .ok .skip w')
    (h : K (a.put o.dst undef) w') : wpOp Tryd.prog ops Q i K a w := by
  unfold wpOp
  simp only [hi, hw, if_true, Oper.wp, ho, Oper.upon]
  exact .inl h
theorem wpOp_wp {K : Act → World → Prop} {i : Nat} {o : Oper} (hi : ops[i]? = some o) (hw : Region.wanted o (yielded ops a.tmps) = true) (h : o.wp Tryd.prog a w K Q) : wpOp Tryd.prog ops Q i K a w := by
  unfold wpOp
  simp only [hi, hw, if_true]
  exact .inl h
end
end Go.Proofs.YtefhmbnhhkgifaaDoor

namespace Go.Proofs.YtefhmbnhhkgifaaDoor
open Go Go.RowKit
set_option linter.unusedVariables false
set_option linter.unusedSimpArgs false
set_option maxRecDepth 100000

/-! The operations of the regions that draw, by hand. -/
theorem rbx_loadI (W : World) (ρ : Operand → Value) (o : Oper) (x : Operand) (ho : o.op = .load 3 x) (b off : Nat) (n : Int) (hx : ρ x = .pointer (some ⟨b, off, none⟩)) (h0 : W.cell? ⟨b, off, none⟩ = some (.int .i64 n)) : (execOp ρ o).run Tryd.prog W = .ok (.value (.int .i64 n)) W := by
  unfold execOp
  simp only [ho, Instr.loadAt, Instr.sureAddr, hx, Sem.run_bind, Sem.run_pure, Result.andThen_ok]
  go_simp
theorem rbx_conv (W : World) (ρ : Operand → Value) (o : Oper) (x : Operand) (ho : o.op = .convert 3 5 x) (n : Int) (hw : IntKind.u8.wrap n = n) (hx : ρ x = .int .i64 n) : (execOp ρ o).run Tryd.prog W = .ok (.value (.int .u8 n)) W := by
  unfold execOp
  simp only [ho, hx, Sem.run_bind, Sem.run_pure, Result.andThen_ok]
  go_simp
theorem rbx_build (W : World) (ρ : Operand → Value) (o : Oper) (x : Operand) (ho : o.op = .buildSlice 22 1 #[(0, x)]) (n : Int) (hx : ρ x = .int .u8 n) :
    (execOp ρ o).run Tryd.prog W = .ok (.value (.slice (some ⟨W.heap.size, 0, none⟩) 1 1)) (W.alloc (.cells #[.int .u8 n] 5)) := by
  unfold execOp
  simp only [ho, hx, Sem.run_bind, Sem.run_pure, Result.andThen_ok]
  go_simp
theorem rbx_assign (W : World) (ρ : Operand → Value) (o : Oper) (x : Operand) (ho : o.op = .assign x) (v : Value) (hx : ρ x = v) : (execOp ρ o).run Tryd.prog W = .ok (.value v) W := by
  unfold execOp
  simp only [ho, Sem.run_pure, hx]
theorem rbx_call1 (W : World) (a : Act) (o : Oper) (f : FuncId) (x : Operand) (t : TypeId) (ho : o.op = .call { callee := .value (.func f), args := #[x], argTypes := #[t] }) (v : Value) (hx : a.eval x = v)
    (hf : (callFunc f #[v]).run Tryd.prog W = .ok (.enter f #[v]) W) : (execOp a.eval o).run Tryd.prog W = .ok (.enter f #[v]) W := by
  have hfn : a.eval (.func f) = .func (.func f) #[] #[] := rfl
  unfold execOp
  simp [ho, resolve, invoke, Deferred.ofValue, hfn, hx, hf]
theorem rbx_call2 (W : World) (a : Act) (o : Oper) (f : FuncId) (x y : Operand) (t u : TypeId) (ho : o.op = .call { callee := .value (.func f), args := #[x, y], argTypes := #[t, u] }) (v z : Value) (hx : a.eval x = v) (hy : a.eval y = z)
    (hf : (callFunc f #[v, z]).run Tryd.prog W = .ok (.enter f #[v, z]) W) : (execOp a.eval o).run Tryd.prog W = .ok (.enter f #[v, z]) W := by
  have hfn : a.eval (.func f) = .func (.func f) #[] #[] := rfl
  unfold execOp
  simp [ho, resolve, invoke, Deferred.ofValue, hfn, hx, hy, hf]
section
variable {ops : Array Oper} {Q : Exit → Act → World → Prop} {K : Act → World → Prop} {a : Act} {w : World}
theorem wpOp_call {i : Nat} {o : Oper} (f : FuncId) (args : Array Value) (hi : ops[i]? = some o) (hw : Region.wanted o (yielded ops a.tmps) = true) (ho : (execOp a.eval o).run Tryd.prog w = .ok (.enter f args) w)
    (h : Calls Tryd.prog f args w fun e w' => match e, w' with
      | .returned v, w'' => K (a.put o.dst v) w''
      | .panicked c, w'' => Q (.panic c) a w''
      | .outgrown, _ => LetsOut Q) : wpOp Tryd.prog ops Q i K a w := by
  unfold wpOp
  simp only [hi, hw, if_true, Oper.wp, ho, Oper.upon]
  exact .inl h
end
theorem own_one (w : World) (z : Int) : (w.alloc (.cells #[.int .u8 z] 5)).ownsRow w.heap.size 5 1 (.slice (some ⟨w.heap.size, 0, none⟩) 1 1) 1 [.int .u8 z] := by
  have := World.ownsRow_lit (base := w.heap.size) (e := 5) (size := 1) w #[.int .u8 z] 1 (Nat.le_refl _) (by unfold maxLen; omega) (by simp)
  simpa using this
end Go.Proofs.YtefhmbnhhkgifaaDoor

namespace Go.Proofs.YtefhmbnhhkgifaaDoor
open Go Go.RowKit
set_option linter.unusedVariables false
set_option linter.unusedSimpArgs false
set_option maxRecDepth 100000

/-! Records loaded and stored whole. -/
theorem exec_loadRec (W : World) (ρ : Operand → Value) (o : Oper) (x : Operand) (ho : o.op = .load 36 x) (b : Nat) (u0 u1 u2 u3 u4 : Value) (hx : ρ x = .pointer (some ⟨b, 0, none⟩))
    (h : W.heap[b]? = some (.cells #[u0, u1, u2, u3, u4] 36)) : (execOp ρ o).run Tryd.prog W = .ok (.value (.agg #[u0, u1, u2, u3, u4])) W := by
  have c0 : W.cell? ⟨b, 0, none⟩ = some u0 := blkc h 0
  have c1 : W.cell? ⟨b, 1, none⟩ = some u1 := blkc h 1
  have c2 : W.cell? ⟨b, 2, none⟩ = some u2 := blkc h 2
  have c3 : W.cell? ⟨b, 3, none⟩ = some u3 := blkc h 3
  have c4 : W.cell? ⟨b, 4, none⟩ = some u4 := blkc h 4
  clear h
  unfold execOp
  simp only [ho, Instr.loadAt, Instr.sureAddr, hx, Sem.run_bind, Sem.run_pure, Result.andThen_ok]
  go_simp
/-- A record stored whole. -/
def setRec (W : World) (b : Nat) (kd sq : Int) (id did : List UInt8) (a : Option Addr) (n c : Nat) : World := ((((W.setCell ⟨b, 0, none⟩ (.int .i64 kd)).setCell ⟨b, 1, none⟩ (.int .i64 sq)).setCell ⟨b, 2, none⟩ (.string ⟨id.toArray⟩)).setCell ⟨b, 3, none⟩ (.string ⟨did.toArray⟩)).setCell ⟨b, 4, none⟩ (.slice a n c)
theorem exec_storeRec (W : World) (ρ : Operand → Value) (o : Oper) (x y : Operand) (ho : o.op = .store 36 x y) (b : Nat) (r0 r1 r2 r3 r4 : Value) (kd sq : Int) (id did : List UInt8) (a : Option Addr) (n c : Nat) (hx : ρ x = .pointer (some ⟨b, 0, none⟩)) (hy : ρ y = .agg #[.int .i64 kd, .int .i64 sq, .string ⟨id.toArray⟩, .string ⟨did.toArray⟩, .slice a n c])
    (h : W.heap[b]? = some (.cells #[r0, r1, r2, r3, r4] 36)) : (execOp ρ o).run Tryd.prog W = .ok .skip (setRec W b kd sq id did a n c) := by
  have c0' : W.cell? ⟨b, 0, none⟩ = some r0 := blkc h 0
  have f0 := blkf h 0
  have c1' : W.cell? ⟨b, 1, none⟩ = some r1 := blkc h 1
  have f1 := blkf h 1
  have c2' : W.cell? ⟨b, 2, none⟩ = some r2 := blkc h 2
  have f2 := blkf h 2
  have c3' : W.cell? ⟨b, 3, none⟩ = some r3 := blkc h 3
  have f3 := blkf h 3
  have c4' : W.cell? ⟨b, 4, none⟩ = some r4 := blkc h 4
  have f4 := blkf h 4
  clear h
  unfold setRec
  unfold execOp
  simp only [ho, hx, hy, Sem.run_bind, Sem.run_pure, Result.andThen_ok]
  go_simp
theorem setRec_oth (W : World) (b : Nat) (kd sq : Int) (id did : List UInt8) (a : Option Addr) (n c x : Nat) (hx : x ≠ b) : (setRec W b kd sq id did a n c).heap[x]? = W.heap[x]? := by
  unfold setRec
  iterate 5 rw [heap_set_other _ _ _ _ _ hx]
theorem setRec_at {W : World} {b : Nat} {r0 r1 r2 r3 r4 : Value} {ty : TypeId} (h : W.heap[b]? = some (.cells #[r0, r1, r2, r3, r4] ty)) (kd sq : Int) (id did : List UInt8) (a : Option Addr) (n c : Nat) : (setRec W b kd sq id did a n c).heap[b]? = some (.cells #[.int .i64 kd, .int .i64 sq, .string ⟨id.toArray⟩, .string ⟨did.toArray⟩, .slice a n c] ty) := by
  have h0 := blk_setk h 0 (.int .i64 kd)
  have h1 := blk_setk h0 1 (.int .i64 sq)
  have h2 := blk_setk h1 2 (.string ⟨id.toArray⟩)
  have h3 := blk_setk h2 3 (.string ⟨did.toArray⟩)
  have h4 := blk_setk h3 4 (.slice a n c)
  unfold setRec
  rw [h4]
  simp
theorem setRec_size (W : World) (b : Nat) (kd sq : Int) (id did : List UInt8) (a : Option Addr) (n c : Nat) : (setRec W b kd sq id did a n c).heap.size = W.heap.size := by
  unfold setRec; simp
theorem setRec_below {W0 W : World} {B b : Nat} (h : Below B W0 W) (hb : B ≤ b) (kd sq : Int) (id did : List UInt8) (a : Option Addr) (n c : Nat) : Below B W0 (setRec W b kd sq id did a n c) := by
  unfold setRec
  iterate 5 refine Below.setCell ?_ (by dsimp only; exact hb) _
  exact h
end Go.Proofs.YtefhmbnhhkgifaaDoor
