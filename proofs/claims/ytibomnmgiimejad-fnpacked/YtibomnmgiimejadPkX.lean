import Derived.Test.YtibomnmgiimejadPkU
import Derived.ChangeKeysEq
import Derived.OrdersHeld
namespace Go.Proofs.Ytibomnmgiimejad
open Go Go.RowKit
set_option linter.unusedVariables false

theorem eqItems_u (w : World) (d : Nat) (xs ys : List Nat) : ∀ (is : List Nat), (∀ i ∈ is, i < xs.length ∧ i < ys.length) →
    (Op.eqItems (d + 1) 67 1 (uArr xs) (uArr ys) is).run Try.prog w = .ok (is.all fun i => xs.getD i 0 == ys.getD i 0) w
  | [], _ => by simp [Op.eqItems]
  | i :: is, h => by
    have hk : Try.prog.plainKey 67 = true := by kernel_rfl
    have h1 := run_part_plain (P := Try.prog) w hk (uArr_get xs i (h i (by simp)).1)
    have h2 := run_part_plain (P := Try.prog) w hk (uArr_get ys i (h i (by simp)).2)
    have ih := eqItems_u w d xs ys is (fun j hj => h j (by simp [hj]))
    generalize hxi : xs.getD i 0 = x at *
    generalize hyi : ys.getD i 0 = y at *
    have h3 : (Op.equalIn (d + 1) 67 (.int .u64 (x : Int)) (.int .u64 (y : Int))).run Try.prog w = .ok (x == y) w := by
      simp only [Op.equalIn, Sem.run_bind, Try.runUnderlying67, Result.andThen_ok]
      by_cases hxy : x = y
      · subst hxy; simp
      · have : ((x : Int) == (y : Int)) = false := by simp; omega
        have h4 : (x == y) = false := by simp [hxy]
        simp [this, h4]
    simp only [Op.eqItems, Nat.mul_one, Sem.run_bind, h1, h2, h3, Result.andThen_ok, List.all_cons, hxi, hyi]
    by_cases hxy : x = y
    · subst hxy
      simp [ih]
    · have h4 : (x == y) = false := by simp [hxy]
      simp [h4]
theorem all_range_eq (xs ys : List Nat) (n : Nat) (hx : xs.length = n) (hy : ys.length = n) : ((List.range n).all fun i => xs.getD i 0 == ys.getD i 0) = decide (xs = ys) := by
  by_cases h : xs = ys
  · subst h; simp
  · rw [decide_eq_false h]
    cases hh : ((List.range n).all fun i => xs.getD i 0 == ys.getD i 0) with
    | false => rfl
    | true =>
      exfalso
      apply h
      rw [List.all_eq_true] at hh
      apply List.ext_getElem (by omega)
      intro i h1 h2
      have := hh i (by simp; omega)
      simpa [h1, h2] using this
theorem equal_u (w : World) (xs ys : List Nat) (hx : xs.length = 128) (hy : ys.length = 128) :
    (Op.equal 112 (.agg (uArr xs)) (.agg (uArr ys))).run Try.prog w = .ok (decide (xs = ys)) w := by
  obtain ⟨i, hi⟩ := info_of_underlying (P := Try.prog) Try.underlying67
  have hc : Try.prog.cellsOf 67 = 1 := by kernel_rfl
  unfold Op.equal
  have hm : Op.maxDepth = 9998 + 1 + 1 := rfl
  rw [hm, run_equalIn_array (P := Try.prog) w (9998 + 1) (uArr xs) (uArr ys) Try.underlying112 hi, hc, eqItems_u w 9998 xs ys (List.range 128) (fun j hj => by simp at hj; omega), all_range_eq xs ys 128 hx hy]
theorem words_inj (n M N a b : Nat) (hn : n = 128) (hM : M < 2 ^ a) (hN : N < 2 ^ b) (ha : a ≤ 64 * n) (hb : b ≤ 64 * n) (h : wordsL M = wordsL N) : M = N :=
  wordAt_ext M N n (Nat.lt_of_lt_of_le hM (Nat.pow_le_pow_right (by omega) ha)) (Nat.lt_of_lt_of_le hN (Nat.pow_le_pow_right (by omega) hb)) (fun k hk => by
    rw [← wordsL_at M k (by omega), ← wordsL_at N k (by omega), h])
theorem exec_neq (w : World) (ρ : Operand → Value) (o : Oper) (x y : Operand) (ty : TypeId) (ho : o.op = .binOp .neq 112 x y ty) (xs ys : List Nat) (hx : xs.length = 128) (hy : ys.length = 128) (hxv : ρ x = .agg (uArr xs)) (hyv : ρ y = .agg (uArr ys)) :
    (execOp ρ o).run Try.prog w = .ok (.value (.bool (!decide (xs = ys)))) w := by
  have he := equal_u w xs ys hx hy
  have hg : (eqGuard .neq 112 x y (.agg (uArr xs)) (.agg (uArr ys))).run Try.prog w = .ok () w := by
    simp [eqGuard]
  unfold execOp
  simp only [ho, hxv, hyv, binOp, Sem.run_bind, Sem.run_pure, hg, he, Result.andThen_ok]
theorem exec_load (W : World) (ρ : Operand → Value) (o : Oper) (x : Operand) (ho : o.op = .load 112 x) (base g : Nat) (vs : List Nat) (hx : ρ x = .pointer (some ⟨g, 0, none⟩)) (h : Blk W base g vs) :
    (execOp ρ o).run Try.prog W = .ok (.value (.agg (uArr vs))) W := by
  have hr := blk_load h
  unfold execOp
  simp only [ho, Instr.loadAt, Instr.sureAddr, hx, Sem.run_bind, Sem.run_pure, Result.andThen_ok, hr]
theorem exec_move (W : World) (ρ : Operand → Value) (o : Oper) (x : Operand) (ho : o.op = .move x) (v : Value) (hx : ρ x = v) : (execOp ρ o).run Try.prog W = .ok (.value v) W := by
  unfold execOp
  simp only [ho, Sem.run_pure, hx]
theorem exec_neqInt (W : World) (ρ : Operand → Value) (o : Oper) (x y : Operand) (t ty : TypeId) (ho : o.op = .binOp .neq t x y ty) (a b : Int) (hx : ρ x = .int .i64 a) (hy : ρ y = .int .i64 b) :
    (execOp ρ o).run Try.prog W = .ok (.value (.bool (a != b))) W := by
  unfold execOp
  simp [ho, hx, hy, eqGuard, binOp, Op.intCmp]
theorem exec_pick (W : World) (ρ : Operand → Value) (o : Oper) (c x y : Operand) (ho : o.op = .pick c x y) (b : Bool) (hc : ρ c = .bool b) (v : Value) (hv : (if b then ρ x else ρ y) = v) : (execOp ρ o).run Try.prog W = .ok (.value v) W := by
  unfold execOp
  simp only [ho, hc, asBool, Sem.run_bind, Sem.run_pure, Result.andThen_ok, hv]
theorem exec_call1 (W : World) (a : Act) (o : Oper) (f : FuncId) (x : Operand) (t : TypeId) (ho : o.op = .call { callee := .value (.func f), args := #[x], argTypes := #[t] }) (v : Value) (hx : a.eval x = v)
    (hf : (callFunc f #[v]).run Try.prog W = .ok (.enter f #[v]) W) : (execOp a.eval o).run Try.prog W = .ok (.enter f #[v]) W := by
  have hfn : a.eval (.func f) = .func (.func f) #[] #[] := rfl
  unfold execOp
  simp [ho, resolve, invoke, Deferred.ofValue, hfn, hx, hf]
theorem exec_call2 (W : World) (a : Act) (o : Oper) (f : FuncId) (x y : Operand) (t u : TypeId) (ho : o.op = .call { callee := .value (.func f), args := #[x, y], argTypes := #[t, u] }) (v z : Value) (hx : a.eval x = v) (hy : a.eval y = z)
    (hf : (callFunc f #[v, z]).run Try.prog W = .ok (.enter f #[v, z]) W) : (execOp a.eval o).run Try.prog W = .ok (.enter f #[v, z]) W := by
  have hfn : a.eval (.func f) = .func (.func f) #[] #[] := rfl
  unfold execOp
  simp [ho, resolve, invoke, Deferred.ofValue, hfn, hx, hy, hf]
section
variable {ops : Array Oper} {Q : Exit → Act → World → Prop} {K : Act → World → Prop} {a : Act} {w : World}
theorem wpOp_call {i : Nat} {o : Oper} (f : FuncId) (args : Array Value) (hi : ops[i]? = some o) (hw : Region.wanted o (yielded ops a.tmps) = true) (ho : (execOp a.eval o).run Try.prog w = .ok (.enter f args) w)
    (h : Calls Try.prog f args w fun e w' => match e, w' with
      | .returned v, w'' => K (a.put o.dst v) w''
      | .panicked c, w'' => Q (.panic c) a w''
      | .outgrown, _ => LetsOut Q) : wpOp Try.prog ops Q i K a w := by
  unfold wpOp
  simp only [hi, hw, if_true, Oper.wp, ho, Oper.upon]
  exact .inl h
theorem wpAnyH_one {md : Region.Mode} {S : World → Prop} (i : Nat) {fuel : Nat} {listed : Array Bool} (hr : Region.ready md ops listed = [i])
    (h : wpOp Try.prog ops Q i (fun a' w' => S w' ∧ wpAnyH Try.prog md ops Q S fuel (listed.setIfInBounds i true) a' w') a w) : wpAnyH Try.prog md ops Q S (fuel + 1) listed a w :=
  wpAnyH_all hr (by simp) (fun j hj => by
    have e : j = i := by simpa using hj
    subst e
    exact h)
end
end Go.Proofs.Ytibomnmgiimejad
