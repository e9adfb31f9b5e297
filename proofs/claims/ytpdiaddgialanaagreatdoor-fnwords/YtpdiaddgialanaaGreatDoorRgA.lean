import Derived.Test.YtpdiaddgialanaaGreatDoorTkW
import Derived.Test.YtpdiaddgialanaaGreatDoorHpA
namespace Go.Proofs.YtpdiaddgialanaaGreatDoor
open Go Go.RowKit
set_option linter.unusedVariables false

/-! The operations of a drawn region, one by one. -/
section
variable {ops : Array Oper} {Q : Exit → Act → World → Prop} {S : World → Prop} {md : Region.Mode} {a : Act} {w : World}
theorem wpAnyH_one (i : Nat) {fuel : Nat} {listed : Array Bool} (hr : Region.ready md ops listed = [i])
    (h : wpOp Tryz.prog ops Q i (fun a' w' => S w' ∧ wpAnyH Tryz.prog md ops Q S fuel (listed.setIfInBounds i true) a' w') a w) : wpAnyH Tryz.prog md ops Q S (fuel + 1) listed a w :=
  wpAnyH_all hr (by simp) (fun j hj => by
    have e : j = i := by simpa using hj
    subst e
    exact h)
theorem wpAnyH_two (i j : Nat) {fuel : Nat} {listed : Array Bool} (hr : Region.ready md ops listed = [i, j])
    (h1 : wpOp Tryz.prog ops Q i (fun a' w' => S w' ∧ wpAnyH Tryz.prog md ops Q S fuel (listed.setIfInBounds i true) a' w') a w)
    (h2 : wpOp Tryz.prog ops Q j (fun a' w' => S w' ∧ wpAnyH Tryz.prog md ops Q S fuel (listed.setIfInBounds j true) a' w') a w) : wpAnyH Tryz.prog md ops Q S (fuel + 1) listed a w :=
  wpAnyH_all hr (by simp) (fun k hk => by
    have e : k = i ∨ k = j := by simpa using hk
    rcases e with rfl | rfl
    · exact h1
    · exact h2)
theorem wpOp_val {K : Act → World → Prop} {i : Nat} {o : Oper} (v : Value) (w' : World) (hi : ops[i]? = some o) (hw : Region.wanted o (yielded ops a.tmps) = true) (ho : (execOp a.eval o).run Tryz.prog w = .ok (.value v) w')
    (h : K (a.put o.dst v) w') : wpOp Tryz.prog ops Q i K a w := by
  unfold wpOp
  simp only [hi, hw, if_true, Oper.wp, ho, Oper.upon]
  exact .inl h
theorem wpOp_skip {K : Act → World → Prop} {i : Nat} {o : Oper} (w' : World) (hi : ops[i]? = some o) (hw : Region.wanted o (yielded ops a.tmps) = true) (ho : (execOp a.eval o).run Tryz.prog w = .ok .skip w')
    (h : K (a.put o.dst undef) w') : wpOp Tryz.prog ops Q i K a w := by
  unfold wpOp
  simp only [hi, hw, if_true, Oper.wp, ho, Oper.upon]
  exact .inl h
theorem wpOp_wp {K : Act → World → Prop} {i : Nat} {o : Oper} (hi : ops[i]? = some o) (hw : Region.wanted o (yielded ops a.tmps) = true) (h : o.wp Tryz.prog a w K Q) : wpOp Tryz.prog ops Q i K a w := by
  unfold wpOp
  simp only [hi, hw, if_true]
  exact .inl h
end
end Go.Proofs.YtpdiaddgialanaaGreatDoor
