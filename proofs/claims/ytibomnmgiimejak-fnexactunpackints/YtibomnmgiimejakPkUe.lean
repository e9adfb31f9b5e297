import Derived.Test.YtibomnmgiimejakPkX
import Derived.Test.YtibomnmgiimejakPkUa
namespace Go.Proofs.Ytibomnmgiimejak
open Go Go.RowKit
set_option linter.unusedVariables false

set_option maxRecDepth 1000000 in
theorem exec_cut (W : World) (ρ : Operand → Value) (o : Oper) (x y z : Operand) (ho : o.op = .slice 23 x (some y) (some z) none) (ad : Addr) (n cap k : Nat) (hx : ρ x = .slice (some ad) n cap) (hy : ρ y = .int .i64 0) (hz : ρ z = .int .i64 (k : Int)) (hk : k ≤ cap) :
    (execOp ρ o).run Try.prog W = .ok (.value (.slice (some ad) k cap)) W := by
  have hr := run_slice_lh (P := Try.prog) W 23 (some ad) n cap Try.underlying23 .i64 .i64 0 (k : Int) (by omega) (by omega) (by omega)
  have hsz : (sizeOf (Try.prog.elem 23)).run Try.prog W = .ok 1 W := Try.sizeOf5 W
  rw [hsz] at hr
  have e : sliced (some ad) (0 : Int).toNat (k : Int).toNat cap 1 = .slice (some ad) k cap := by
    simp [sliced, Addr.add]
  simp only [Result.andThen_ok, e] at hr
  have hrr := run_sliceAt_slice (P := Try.prog) W 23 (.slice (some ad) n cap) (some (.int .i64 0)) (some (.int .i64 (k : Int))) none Try.underlying23
  unfold execOp
  simp only [ho, Option.map_some, Option.map_none, hx, hy, hz, Sem.run_bind, Sem.run_pure, Result.andThen_ok, hrr, hr]
theorem exec_str (W : World) (ρ : Operand → Value) (o : Oper) (x : Operand) (ho : o.op = .convert 23 9 x) (g off cap : Nat) (l : List UInt8) (n : Nat) (hn : l.length = n) (hx : ρ x = .slice (some ⟨g, off, none⟩) n cap) (hc : BytesAt W g off l) :
    (execOp ρ o).run Try.prog W = .ok (.value (.string ⟨l.toArray⟩)) W := by
  subst hn
  have hcv : (convert 23 9 (.slice (some ⟨g, off, none⟩) l.length cap)).run Try.prog W = .ok (.string ⟨l.toArray⟩) W := by
    refine run_convert_bytes_back W 23 9 5 ⟨g, off, none⟩ cap l Try.underlying23 Try.underlying5 Try.underlying9 fun j hj => ?_
    have := hc j hj
    rw [show (⟨g, off, none⟩ : Addr).add j = ⟨g, off + j, none⟩ from by simp only [Addr.add]; split <;> simp_all]
    simpa [hj] using this
  unfold execOp
  simp only [ho, hx, Sem.run_bind, Sem.run_pure, Result.andThen_ok, hcv]
theorem exec_neqStr (W : World) (ρ : Operand → Value) (o : Oper) (x y : Operand) (ty : TypeId) (ho : o.op = .binOp .neq 9 x y ty) (a b : List UInt8) (hx : ρ x = .string ⟨a.toArray⟩) (hy : ρ y = .string ⟨b.toArray⟩) :
    (execOp ρ o).run Try.prog W = .ok (.value (.bool (!(a == b)))) W := by
  have e : ∀ l : List UInt8, (⟨l.toArray⟩ : ByteArray).toList = l := fun l => by rw [Lib.toList_data]
  unfold execOp
  simp [ho, hx, hy, eqGuard, binOp, Op.stringOp, go_sem, e]
section
variable {ops : Array Oper} {Q : Exit → Act → World → Prop} {K : Act → World → Prop} {a : Act} {w : World}
theorem wpOp_val {i : Nat} {o : Oper} (v : Value) (hi : ops[i]? = some o) (hw : Region.wanted o (yielded ops a.tmps) = true) (ho : (execOp a.eval o).run Try.prog w = .ok (.value v) w)
    (h : K (a.put o.dst v) w) : wpOp Try.prog ops Q i K a w := by
  unfold wpOp
  simp only [hi, hw, if_true, Oper.wp, ho, Oper.upon]
  exact .inl h
end
end Go.Proofs.Ytibomnmgiimejak
