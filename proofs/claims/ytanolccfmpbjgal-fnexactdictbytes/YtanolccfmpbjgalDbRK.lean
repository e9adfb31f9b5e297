import Derived.Test.YtanolccfmpbjgalDictOKJ02
import Derived.Test.YtanolccfmpbjgalDbPK
namespace Go.Proofs.Ytanolccfmpbjgal
open Go Go.RowKit
set_option linter.unusedVariables false
set_option linter.unusedSimpArgs false
set_option maxRecDepth 100000

/-! The operations of one region of impl.DictBytes, by hand. -/
theorem dbx_field0 (W : World) (ρ : Operand → Value) (o : Oper) (x : Operand) (ho : o.op = .fieldAddr 66 x 0) (b : Nat) (hx : ρ x = .pointer (some ⟨b, 0, none⟩)) : (execOp ρ o).run Try.prog W = .ok (.value (.pointer (some ⟨b, 0, none⟩))) W := by
  unfold execOp
  simp only [ho, hx, Sem.run_bind, Sem.run_pure, Result.andThen_ok]
  go_simp
theorem dbx_field1 (W : World) (ρ : Operand → Value) (o : Oper) (x : Operand) (ho : o.op = .fieldAddr 66 x 1) (b : Nat) (hx : ρ x = .pointer (some ⟨b, 0, none⟩)) : (execOp ρ o).run Try.prog W = .ok (.value (.pointer (some ⟨b, 1, none⟩))) W := by
  unfold execOp
  simp only [ho, hx, Sem.run_bind, Sem.run_pure, Result.andThen_ok]
  go_simp
theorem dbx_loadI (W : World) (ρ : Operand → Value) (o : Oper) (x : Operand) (ho : o.op = .load 3 x) (b off : Nat) (n : Int) (hx : ρ x = .pointer (some ⟨b, off, none⟩)) (h0 : W.cell? ⟨b, off, none⟩ = some (.int .i64 n)) : (execOp ρ o).run Try.prog W = .ok (.value (.int .i64 n)) W := by
  unfold execOp
  simp only [ho, Instr.loadAt, Instr.sureAddr, hx, Sem.run_bind, Sem.run_pure, Result.andThen_ok]
  go_simp
theorem dbx_conv (W : World) (ρ : Operand → Value) (o : Oper) (x : Operand) (ho : o.op = .convert 3 5 x) (n : Int) (hw : IntKind.u8.wrap n = n) (hx : ρ x = .int .i64 n) : (execOp ρ o).run Try.prog W = .ok (.value (.int .u8 n)) W := by
  unfold execOp
  simp only [ho, hx, Sem.run_bind, Sem.run_pure, Result.andThen_ok]
  go_simp
theorem dbx_build (W : World) (ρ : Operand → Value) (o : Oper) (x : Operand) (ho : o.op = .buildSlice 41 1 #[(0, x)]) (n : Int) (hx : ρ x = .int .u8 n) :
    (execOp ρ o).run Try.prog W = .ok (.value (.slice (some ⟨W.heap.size, 0, none⟩) 1 1)) (W.alloc (.cells #[.int .u8 n] 5)) := by
  unfold execOp
  simp only [ho, hx, Sem.run_bind, Sem.run_pure, Result.andThen_ok]
  go_simp
theorem dbx_assign (W : World) (ρ : Operand → Value) (o : Oper) (x : Operand) (ho : o.op = .assign x) (v : Value) (hx : ρ x = v) : (execOp ρ o).run Try.prog W = .ok (.value v) W := by
  unfold execOp
  simp only [ho, Sem.run_pure, hx]
theorem dbx_call2 (W : World) (a : Act) (o : Oper) (f : FuncId) (x y : Operand) (t u : TypeId) (ho : o.op = .call { callee := .value (.func f), args := #[x, y], argTypes := #[t, u] }) (v z : Value) (hx : a.eval x = v) (hy : a.eval y = z)
    (hf : (callFunc f #[v, z]).run Try.prog W = .ok (.enter f #[v, z]) W) : (execOp a.eval o).run Try.prog W = .ok (.enter f #[v, z]) W := by
  have hfn : a.eval (.func f) = .func (.func f) #[] #[] := rfl
  unfold execOp
  simp [ho, resolve, invoke, Deferred.ofValue, hfn, hx, hy, hf]
section
variable {ops : Array Oper} {Q : Exit → Act → World → Prop} {K : Act → World → Prop} {a : Act} {w : World}
theorem mkOp_call {i : Nat} {o : Oper} (f : FuncId) (args : Array Value) (hi : ops[i]? = some o) (hw : Region.wanted o (yielded ops a.tmps) = true) (ho : (execOp a.eval o).run Try.prog w = .ok (.enter f args) w)
    (h : Calls Try.prog f args w fun e w' => match e, w' with
      | .returned v, w'' => K (a.put o.dst v) w''
      | .panicked c, w'' => Q (.panic c) a w''
      | .outgrown, _ => LetsOut Q) : wpOp Try.prog ops Q i K a w := by
  unfold wpOp
  simp only [hi, hw, if_true, Oper.wp, ho, Oper.upon]
  exact .inl h
end
end Go.Proofs.Ytanolccfmpbjgal
