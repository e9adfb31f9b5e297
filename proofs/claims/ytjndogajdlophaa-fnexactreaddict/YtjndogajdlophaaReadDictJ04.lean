import Derived.Test.YtjndogajdlophaaProg
import Derived.Test.YtjndogajdlophaaReadDictJ00
import Derived.Maps.AppendAt
import Derived.Lib.BufferWrite
import Derived.WalkLawsBesides
import Derived.Laws.BitsAllLaws
import Derived.BigQuiet
import Derived.Deep.QuietTactic
import Derived.Test.YtjndogajdlophaaReadDictJ03
import Derived.OrdersHeld
import Derived.WalkKit
namespace Go.Proofs.Ytjndogajdlophaa
open Go Go.RowKit
set_option linter.unusedVariables false
theorem Try.infoByte : (Try.prog.info? 5).map (fun i => (i.zero, i.size, i.bytes)) = some (some (.int .u8 0), 1, 1) := by kernel_rfl

/-- A row of one's own that has grown: what lay elsewhere lies as it lay; the row lies in the old block or in a new one. -/
def Grew (w w' : World) (v v' : Value) : Prop := w.grownBy w' v.ownBlock ∧ (v'.ownBlock = v.ownBlock ∨ ∃ k, v'.ownBlock = some k ∧ w.heap.size ≤ k)
theorem Grew.refl (w : World) (v : Value) : Grew w w v v := ⟨grown_refl _ _, Or.inl rfl⟩
theorem Grew.trans {a b c : World} {u v x : Value} (h : Grew a b u v) (k : Grew b c v x) : Grew a c u x := by
  obtain ⟨h1, h2⟩ := h
  obtain ⟨k1, k2⟩ := k
  refine ⟨⟨k1.os.trans h1.os, k1.tape.trans h1.tape, k1.output.trans h1.output, Nat.le_trans h1.size k1.size, fun i hi hne => ?_⟩, ?_⟩
  · refine (k1.block i (Nat.lt_of_lt_of_le hi h1.size) ?_).trans (h1.block i hi hne)
    rcases h2 with e | ⟨k, e, hk⟩
    · rw [e]; exact hne
    · rw [e]; intro e2; cases e2; omega
  · rcases k2 with e | ⟨k, e, hk⟩
    · rw [e]
      rcases h2 with e2 | ⟨k', e2, hk'⟩
      · exact Or.inl e2
      · exact Or.inr ⟨k', e2, hk'⟩
    · exact Or.inr ⟨k, e, Nat.le_trans h1.size hk⟩
theorem Grew.alloc {a b : World} {u v : Value} (h : Grew a b u v) (o : Obj) : Grew a (b.alloc o) u v :=
  ⟨⟨h.1.os, h.1.tape, h.1.output, by have := h.1.size; simp; omega, fun i hi hne => by rw [Below.heap_alloc _ _ _ (Nat.lt_of_lt_of_le hi h.1.size)]; exact h.1.block i hi hne⟩, h.2⟩
theorem Grew.below {a b : World} {u v : Value} {base e n : Nat} {xs : List Value} (h : Grew a b u v) (hb : base ≤ a.heap.size) (ho : a.ownsRow base e 1 u n xs) : Below base a b :=
  (Below.refl _ _).grown h.1 hb (own_block ho)
theorem Grew.of {w w1 w' : World} {v v' : Value} (h1 : Grew w w1 v v) (hg : w1.grownBy w' v.ownBlock) (ha : v'.ownBlock = v.ownBlock ∨ v'.ownBlock = some w1.heap.size) : Grew w w' v v' := by
  refine h1.trans ⟨hg, ?_⟩
  rcases ha with e | e
  · exact Or.inl e
  · exact Or.inr ⟨_, e, Nat.le_refl _⟩
theorem byte_cell1 (x : Nat) (h : x < 256) : Lib.byteCells [UInt8.ofNat x] = [Value.int .u8 (x : Int)] := by
  simp [Lib.byteCells]; omega
theorem byteCells_at (l : List UInt8) (j : Nat) (h : j < l.length) : (Lib.byteCells l)[j]? = some (.int .u8 ((l.getD j 0).toNat : Int)) := by
  simp [Lib.byteCells, h]

/-- A slice of bytes as it lies in a world. -/
def BytesAt (w : World) (b off : Nat) (bs : List UInt8) : Prop := ∀ t, t < bs.length → w.cell? ⟨b, off + t, none⟩ = some (.int .u8 ((bs.getD t 0).toNat : Int))
theorem BytesAt.below {w w' : World} {b off : Nat} {bs : List UInt8} (h : BytesAt w b off bs) (hb : Below w.heap.size w w') : BytesAt w' b off bs :=
  fun t ht => (hb.cell (p := ⟨b, off + t, none⟩) (cell_lt (h t ht))).trans (h t ht)
theorem own_bytes {w : World} {base e g n cap : Nat} {l : List UInt8} (h : w.ownsRow base e 1 (.slice (some ⟨g, 0, none⟩) n cap) n (Lib.byteCells l)) (hl : l.length = n) : BytesAt w g 0 l := by
  intro t ht
  rw [Nat.zero_add, h.cellAt t (by omega)]
  exact byteCells_at l t ht

end Go.Proofs.Ytjndogajdlophaa

namespace Go.Proofs.Ytjndogajdlophaa
open Go Go.RowKit
set_option linter.unusedVariables false

/-! The terms of states that were counted. -/
def rkOf (ρ : Nat → Nat) (n i : Nat) : Nat := (List.range n).countP fun j => decide (ρ j < ρ i)
theorem rkOf_le (ρ : Nat → Nat) (n i : Nat) : rkOf ρ n i ≤ n := by
  have := List.countP_le_length (p := fun j => decide (ρ j < ρ i)) (l := List.range n)
  rw [List.length_range] at this
  exact this
theorem countP_lt {p q : Nat → Bool} (h : ∀ x, p x = true → q x = true) : ∀ (l : List Nat) (x : Nat), x ∈ l → p x = false → q x = true → l.countP p < l.countP q
  | [], x, hx, _, _ => by simp at hx
  | a :: t, x, hx, h1, h2 => by
    have hle : ∀ l : List Nat, l.countP p ≤ l.countP q := fun l => List.countP_mono_left fun y _ => h y
    rw [List.countP_cons, List.countP_cons]
    rcases List.mem_cons.1 hx with rfl | hx
    · have := hle t
      simp [h1, h2]
      omega
    · have := countP_lt h t x hx h1 h2
      cases hp : p a with
      | true => simp [h a hp]; omega
      | false => cases hq : q a <;> simp <;> omega
theorem CntOK.rank {S : List St} {D : List Int} {ρ : Nat → Nat} {M : Nat} (h : CntOK S D ρ M) : CntOK S D (rkOf ρ S.length) (S.length + 1) := by
  refine ⟨h.len, h.dom, h.few, fun i hi hp a ha => ?_, h.num, fun i _ _ => by have := rkOf_le ρ S.length i; omega⟩
  obtain ⟨h1, h2, h3⟩ := h.arcs i hi hp a ha
  refine ⟨h1, h2, ?_⟩
  refine countP_lt (fun x hx => ?_) _ a.2.1.toNat (by simpa using h1.2.2.2) (by simp) (by simpa using h3)
  simp at hx ⊢
  omega
section
variable {S : List St} {D : List Int} {ρ : Nat → Nat} {M : Nat}
theorem CntOK.lang (h : CntOK S D ρ M) : ∀ (f f' i : Nat), i < S.length → 0 < valD D i → ρ i < f → ρ i < f' → langF S f i = langF S f' i
  | 0, f', i, _, _, h1, _ => absurd h1 (by omega)
  | f + 1, 0, i, _, _, _, h2 => absurd h2 (by omega)
  | f + 1, f' + 1, i, hi, hp, h1, h2 => by
    rw [langF_succ, langF_succ]
    congr 1
    refine List.map_congr_left fun a ha => ?_
    obtain ⟨h3, h4, h5⟩ := h.arcs i hi hp a ha
    rw [CntOK.lang h f f' a.2.1.toNat h3.2.2.2 h4 (by omega) (by omega)]
theorem sumD_ge : ∀ {l : List Ar}, (∀ a ∈ l, 0 < valD D a.2.1.toNat) → ∀ a ∈ l, valD D a.2.1.toNat ≤ sumD D l
  | [], _, a, ha => by simp at ha
  | b :: t, hl, a, ha => by
    have h1 := sumD_nonneg (D := D) (l := t) (fun x hx => hl x (by simp [hx]))
    have h2 := hl b (by simp)
    simp only [sumD, List.map_cons, List.sum_cons] at h1 ⊢
    rcases List.mem_cons.1 ha with rfl | ha
    · omega
    · have := sumD_ge (l := t) (fun x hx => hl x (by simp [hx])) a ha
      simp only [sumD] at this
      omega
theorem sumD_len : ∀ {l : List Ar} {g : Nat → Nat}, (∀ a ∈ l, valD D a.2.1.toNat = ((g a.2.1.toNat : Nat) : Int)) → sumD D l = (((l.map fun a => g a.2.1.toNat).sum : Nat) : Int)
  | [], g, _ => rfl
  | b :: t, g, hl => by
    have := sumD_len (l := t) (g := g) (fun x hx => hl x (by simp [hx]))
    have h2 := hl b (by simp)
    simp only [sumD, List.map_cons, List.sum_cons] at this ⊢
    rw [this, h2]
    omega
theorem CntOK.count_len (h : CntOK S D ρ M) : ∀ (f i : Nat), i < S.length → 0 < valD D i → valD D i ≤ 4096 → ρ i < f → (((langF S f i).length : Nat) : Int) = valD D i
  | 0, i, _, _, _, h1 => absurd h1 (by omega)
  | f + 1, i, hi, hp, hl, h1 => by
    have hn := h.num i hi hp
    have hpos : ∀ a ∈ arcsAt S i, 0 < valD D a.2.1.toNat := fun a ha => (h.arcs i hi hp a ha).2.1
    have hs := sumD_nonneg (D := D) hpos
    have hv : valD D i = (if finAt S i then 1 else 0) + sumD D (arcsAt S i) := by omega
    have hrec : ∀ a ∈ arcsAt S i, valD D a.2.1.toNat = (((langF S f a.2.1.toNat).length : Nat) : Int) := fun a ha => by
      obtain ⟨h3, h4, h5⟩ := h.arcs i hi hp a ha
      have h6 := sumD_ge (D := D) hpos a ha
      have h7 : (0 : Int) ≤ (if finAt S i then 1 else 0) := by split <;> omega
      exact (CntOK.count_len h f a.2.1.toNat h3.2.2.2 h4 (by omega) (by omega)).symm
    rw [langF_succ, joinT_length, hv, sumD_len (g := fun j => (langF S f j).length) hrec, rowF, List.map_map]
    simp only [Function.comp_def]
    split <;> omega
end
/-- What was told of a state, behind k of its arcs. -/
def toldT (S : List St) (f i k : Nat) : List Tx := joinT (finAt S i) ((rowF S f i).take k)
theorem toldT_all (S : List St) (f i : Nat) : toldT S f i (arcsAt S i).length = langF S (f + 1) i := by
  rw [toldT, langF_succ, List.take_of_length_le (by simp [rowF])]
theorem toldT_zero (S : List St) (f i : Nat) : toldT S f i 0 = if finAt S i then [[]] else [] := by simp [toldT, joinT]
theorem toldT_step (S : List St) (f i : Nat) {k : Nat} (h : k < (arcsAt S i).length) : toldT S f i (k + 1) = toldT S f i k ++ (langF S f ((arcsAt S i).getD k ar0).2.1.toNat).map fun t => UInt8.ofNat ((arcsAt S i).getD k ar0).1.toNat :: t := by
  have hk : (rowF S f i)[k]? = some (((arcsAt S i).getD k ar0).1.toNat, langF S f ((arcsAt S i).getD k ar0).2.1.toNat) := by
    rw [rowF, List.getElem?_map, List.getElem?_eq_getElem h]
    simp [h]
  rw [toldT, toldT, List.take_add_one, hk]
  simp only [joinT, Option.toList_some, List.flatMap_append, List.flatMap_cons, List.flatMap_nil, List.append_nil, List.append_assoc]
theorem toldT_len (S : List St) (f i k : Nat) : (toldT S f i k).length ≤ (langF S (f + 1) i).length := by
  rw [toldT, langF_succ, joinT_length, joinT_length]
  have : ∀ (l : List (Nat × List Tx)) (k : Nat), ((l.take k).map fun p => p.2.length).sum ≤ (l.map fun p => p.2.length).sum := by
    intro l
    induction l with
    | nil => simp
    | cons a t ih =>
      intro k
      cases k with
      | zero => simp
      | succ k => have := ih k; simp only [List.take_succ_cons, List.map_cons, List.sum_cons]; omega
  have := this (rowF S f i) k
  omega
end Go.Proofs.Ytjndogajdlophaa

namespace Go.Proofs.Ytjndogajdlophaa
open Go Go.RowKit
set_option linter.unusedVariables false
set_option linter.unusedSimpArgs false

/-! The operations of a region by hand. -/
theorem exec_move (W : World) (ρ : Operand → Value) (o : Oper) (x : Operand) (ho : o.op = .move x) (v : Value) (hx : ρ x = v) : (execOp ρ o).run Try.prog W = .ok (.value v) W := by
  unfold execOp
  simp only [ho, Sem.run_pure, hx]
theorem exec_assign (W : World) (ρ : Operand → Value) (o : Oper) (x : Operand) (ho : o.op = .assign x) (v : Value) (hx : ρ x = v) : (execOp ρ o).run Try.prog W = .ok (.value v) W := by
  unfold execOp
  simp only [ho, Sem.run_pure, hx]
theorem exec_pick (W : World) (ρ : Operand → Value) (o : Oper) (c x y : Operand) (ho : o.op = .pick c x y) (b : Bool) (hc : ρ c = .bool b) (v : Value) (hv : (if b then ρ x else ρ y) = v) : (execOp ρ o).run Try.prog W = .ok (.value v) W := by
  unfold execOp
  cases b <;> simp_all [asBool]
theorem exec_field1 (W : World) (ρ : Operand → Value) (o : Oper) (x : Operand) (ho : o.op = .fieldAddr 137 x 1) (b : Nat) (hx : ρ x = .pointer (some ⟨b, 0, none⟩)) : (execOp ρ o).run Try.prog W = .ok (.value (.pointer (some ⟨b, 1, none⟩))) W := by
  unfold execOp
  simp only [ho, hx, Sem.run_bind, Sem.run_pure, Result.andThen_ok]
  go_simp
theorem exec_loadInts (W : World) (ρ : Operand → Value) (o : Oper) (x : Operand) (ho : o.op = .load 71 x) (b off : Nat) (v : Value) (hx : ρ x = .pointer (some ⟨b, off, none⟩)) (h0 : W.cell? ⟨b, off, none⟩ = some v) : (execOp ρ o).run Try.prog W = .ok (.value v) W := by
  unfold execOp
  simp only [ho, Instr.loadAt, Instr.sureAddr, hx, Sem.run_bind, Sem.run_pure, Result.andThen_ok]
  go_simp
theorem exec_call3 (W : World) (a : Act) (o : Oper) (f : FuncId) (x y z : Operand) (t u s : TypeId) (ho : o.op = .call { callee := .value (.func f), args := #[x, y, z], argTypes := #[t, u, s] }) (v1 v2 v3 : Value) (h1 : a.eval x = v1) (h2 : a.eval y = v2) (h3 : a.eval z = v3)
    (hf : (callFunc f #[v1, v2, v3]).run Try.prog W = .ok (.enter f #[v1, v2, v3]) W) : (execOp a.eval o).run Try.prog W = .ok (.enter f #[v1, v2, v3]) W := by
  have hfn : a.eval (.func f) = .func (.func f) #[] #[] := rfl
  unfold execOp
  simp [ho, resolve, invoke, Deferred.ofValue, hfn, h1, h2, h3, hf]
theorem exec_call1 (W : World) (a : Act) (o : Oper) (f : FuncId) (x : Operand) (t : TypeId) (ho : o.op = .call { callee := .value (.func f), args := #[x], argTypes := #[t] }) (v : Value) (hx : a.eval x = v)
    (hf : (callFunc f #[v]).run Try.prog W = .ok (.enter f #[v]) W) : (execOp a.eval o).run Try.prog W = .ok (.enter f #[v]) W := by
  have hfn : a.eval (.func f) = .func (.func f) #[] #[] := rfl
  unfold execOp
  simp [ho, resolve, invoke, Deferred.ofValue, hfn, hx, hf]
section
variable {ops : Array Oper} {Q : Exit → Act → World → Prop} {K : Act → World → Prop} {a : Act} {w : World}
theorem wpOp_call {i : Nat} {o : Oper} (f : FuncId) (args : Array Value) (hi : ops[i]? = some o) (hw : Region.wanted o (yielded ops a.tmps) = true) (ho : (execOp a.eval o).run Try.prog w = .ok (.enter f args) w)
    (h : Calls Try.prog f args w fun e w' => match e, w' with
      | .returned v, w'' => K (a.put o.dst v) w''
      | .panicked c, w'' => Q (.panic c) a w''
      | .outgrown, _ => LetsOut Q) : wpOp Try.prog ops Q i K a w := by
  unfold wpOp
  simp only [hi, hw, if_true, Oper.wp, ho, Oper.upon]
  exact .inl h
theorem wpOp_val {i : Nat} {o : Oper} (v : Value) (w' : World) (hi : ops[i]? = some o) (hw : Region.wanted o (yielded ops a.tmps) = true) (ho : (execOp a.eval o).run Try.prog w = .ok (.value v) w')
    (h : K (a.put o.dst v) w') : wpOp Try.prog ops Q i K a w := by
  unfold wpOp
  simp only [hi, hw, if_true, Oper.wp, ho, Oper.upon]
  exact .inl h
theorem wpOp_wp {i : Nat} {o : Oper} (hi : ops[i]? = some o) (hw : Region.wanted o (yielded ops a.tmps) = true) (h : o.wp Try.prog a w K Q) : wpOp Try.prog ops Q i K a w := by
  unfold wpOp
  simp only [hi, hw, if_true]
  exact .inl h
theorem wpAnyH_one {md : Region.Mode} {S : World → Prop} (i : Nat) {fuel : Nat} {listed : Array Bool} (hr : Region.ready md ops listed = [i])
    (h : wpOp Try.prog ops Q i (fun a' w' => S w' ∧ wpAnyH Try.prog md ops Q S fuel (listed.setIfInBounds i true) a' w') a w) : wpAnyH Try.prog md ops Q S (fuel + 1) listed a w :=
  wpAnyH_all hr (by simp) (fun j hj => by
    have e : j = i := by simpa using hj
    subst e
    exact h)
end
end Go.Proofs.Ytjndogajdlophaa
