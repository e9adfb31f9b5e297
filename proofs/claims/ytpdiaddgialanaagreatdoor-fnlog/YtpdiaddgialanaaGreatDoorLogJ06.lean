import Derived.Test.YtpdiaddgialanaaGreatDoorLogJ05
import Derived.Deep.DeepCutAuto
import Derived.Deep.AppendLies
import Derived.Laws.ResultCell
namespace Go.Proofs.YtpdiaddgialanaaGreatDoor
open Go Go.RowKit
set_option linter.unusedVariables false
set_option linter.unusedSimpArgs false
set_option maxRecDepth 100000

/-! Operations of the drawn regions, one by one. -/
theorem exec_ldS (W : World) (ρ : Operand → Value) (o : Oper) (x : Operand) (ho : o.op = .load 37 x) (b off : Nat) (v : Value) (hv : ∃ a n c, v = .slice a n c) (hx : ρ x = .pointer (some ⟨b, off, none⟩))
    (h0 : W.cell? ⟨b, off, none⟩ = some v) : (execOp ρ o).run Tryz.prog W = .ok (.value v) W := by
  obtain ⟨a, n, c, rfl⟩ := hv
  unfold execOp
  simp only [ho, Instr.loadAt, Instr.sureAddr, hx, Sem.run_bind, Sem.run_pure, Result.andThen_ok]
  go_simp
theorem exec_stS (W : World) (ρ : Operand → Value) (o : Oper) (x y : Operand) (ho : o.op = .store 37 x y) (b off : Nat) (a : Option Addr) (n c : Nat) (u : Value) (hx : ρ x = .pointer (some ⟨b, off, none⟩)) (hy : ρ y = .slice a n c)
    (h0 : W.cell? ⟨b, off, none⟩ = some u) (hf : W.frozen? ⟨b, off, none⟩ = false) : (execOp ρ o).run Tryz.prog W = .ok .skip (W.setCell ⟨b, off, none⟩ (.slice a n c)) := by
  unfold execOp
  simp only [ho, Instr.storeAt, Instr.sureAddr, hx, hy, Sem.run_bind, Sem.run_pure, Result.andThen_ok]
  go_simp
theorem exec_ldZ (W : World) (ρ : Operand → Value) (o : Oper) (x : Operand) (ho : o.op = .load 23 x) (b off : Nat) (v : Value) (hv : ∃ a n c, v = .slice a n c) (hx : ρ x = .pointer (some ⟨b, off, none⟩))
    (h0 : W.cell? ⟨b, off, none⟩ = some v) : (execOp ρ o).run Tryz.prog W = .ok (.value v) W := by
  obtain ⟨a, n, c, rfl⟩ := hv
  unfold execOp
  simp only [ho, Instr.loadAt, Instr.sureAddr, hx, Sem.run_bind, Sem.run_pure, Result.andThen_ok]
  go_simp
theorem exec_stZ (W : World) (ρ : Operand → Value) (o : Oper) (x y : Operand) (ho : o.op = .store 23 x y) (b off : Nat) (a : Option Addr) (n c : Nat) (u : Value) (hx : ρ x = .pointer (some ⟨b, off, none⟩)) (hy : ρ y = .slice a n c)
    (h0 : W.cell? ⟨b, off, none⟩ = some u) (hf : W.frozen? ⟨b, off, none⟩ = false) : (execOp ρ o).run Tryz.prog W = .ok .skip (W.setCell ⟨b, off, none⟩ (.slice a n c)) := by
  unfold execOp
  simp only [ho, Instr.storeAt, Instr.sureAddr, hx, hy, Sem.run_bind, Sem.run_pure, Result.andThen_ok]
  go_simp
theorem exec_ldV (W : World) (ρ : Operand → Value) (o : Oper) (x : Operand) (ho : o.op = .load 24 x) (b off : Nat) (v : Value) (hv : ∃ a n c, v = .slice a n c) (hx : ρ x = .pointer (some ⟨b, off, none⟩))
    (h0 : W.cell? ⟨b, off, none⟩ = some v) : (execOp ρ o).run Tryz.prog W = .ok (.value v) W := by
  obtain ⟨a, n, c, rfl⟩ := hv
  unfold execOp
  simp only [ho, Instr.loadAt, Instr.sureAddr, hx, Sem.run_bind, Sem.run_pure, Result.andThen_ok]
  go_simp
theorem exec_stV (W : World) (ρ : Operand → Value) (o : Oper) (x y : Operand) (ho : o.op = .store 24 x y) (b off : Nat) (a : Option Addr) (n c : Nat) (u : Value) (hx : ρ x = .pointer (some ⟨b, off, none⟩)) (hy : ρ y = .slice a n c)
    (h0 : W.cell? ⟨b, off, none⟩ = some u) (hf : W.frozen? ⟨b, off, none⟩ = false) : (execOp ρ o).run Tryz.prog W = .ok .skip (W.setCell ⟨b, off, none⟩ (.slice a n c)) := by
  unfold execOp
  simp only [ho, Instr.storeAt, Instr.sureAddr, hx, hy, Sem.run_bind, Sem.run_pure, Result.andThen_ok]
  go_simp
theorem exec_bxS (W : World) (ρ : Operand → Value) (o : Oper) (y : Operand) (ho : o.op = .buildSlice 37 1 #[(0, y)]) (t : ByteArray) (hx : ρ y = .string t) :
    (execOp ρ o).run Tryz.prog W = .ok (.value (.slice (some ⟨W.heap.size, 0, none⟩) 1 1)) (W.alloc (.cells #[.string t] 9)) := by
  unfold execOp
  simp only [ho, hx, Sem.run_bind, Sem.run_pure, Result.andThen_ok]
  go_simp
theorem exec_bxZ (W : World) (ρ : Operand → Value) (o : Oper) (y : Operand) (ho : o.op = .buildSlice 23 1 #[(0, y)]) (t : Int) (hx : ρ y = .int .i64 t) :
    (execOp ρ o).run Tryz.prog W = .ok (.value (.slice (some ⟨W.heap.size, 0, none⟩) 1 1)) (W.alloc (.cells #[.int .i64 t] 3)) := by
  unfold execOp
  simp only [ho, hx, Sem.run_bind, Sem.run_pure, Result.andThen_ok]
  go_simp
theorem exec_bx3S (W : World) (ρ : Operand → Value) (o : Oper) (x0 x1 x2 : Operand) (ho : o.op = .buildSlice 37 3 #[(0, x0), (1, x1), (2, x2)]) (t0 t1 t2 : ByteArray) (h0 : ρ x0 = .string t0) (h1 : ρ x1 = .string t1) (h2 : ρ x2 = .string t2) :
    (execOp ρ o).run Tryz.prog W = .ok (.value (.slice (some ⟨W.heap.size, 0, none⟩) 3 3)) (W.alloc (.cells #[.string t0, .string t1, .string t2] 9)) := by
  unfold execOp
  simp only [ho, h0, h1, h2, Sem.run_bind, Sem.run_pure, Result.andThen_ok]
  go_simp
theorem exec_bx4S (W : World) (ρ : Operand → Value) (o : Oper) (x0 x1 x2 x3 : Operand) (ho : o.op = .buildSlice 37 4 #[(0, x0), (1, x1), (2, x2), (3, x3)]) (t0 t1 t2 t3 : ByteArray) (h0 : ρ x0 = .string t0) (h1 : ρ x1 = .string t1) (h2 : ρ x2 = .string t2) (h3 : ρ x3 = .string t3) :
    (execOp ρ o).run Tryz.prog W = .ok (.value (.slice (some ⟨W.heap.size, 0, none⟩) 4 4)) (W.alloc (.cells #[.string t0, .string t1, .string t2, .string t3] 9)) := by
  unfold execOp
  simp only [ho, h0, h1, h2, h3, Sem.run_bind, Sem.run_pure, Result.andThen_ok]
  go_simp
theorem exec_bx5S (W : World) (ρ : Operand → Value) (o : Oper) (x0 x1 x2 x3 x4 : Operand) (ho : o.op = .buildSlice 37 5 #[(0, x0), (1, x1), (2, x2), (3, x3), (4, x4)]) (t0 t1 t2 t3 t4 : ByteArray) (h0 : ρ x0 = .string t0) (h1 : ρ x1 = .string t1) (h2 : ρ x2 = .string t2) (h3 : ρ x3 = .string t3) (h4 : ρ x4 = .string t4) :
    (execOp ρ o).run Tryz.prog W = .ok (.value (.slice (some ⟨W.heap.size, 0, none⟩) 5 5)) (W.alloc (.cells #[.string t0, .string t1, .string t2, .string t3, .string t4] 9)) := by
  unfold execOp
  simp only [ho, h0, h1, h2, h3, h4, Sem.run_bind, Sem.run_pure, Result.andThen_ok]
  go_simp
theorem exec_bx5Z (W : World) (ρ : Operand → Value) (o : Oper) (x0 x1 x2 x3 x4 : Operand) (ho : o.op = .buildSlice 23 5 #[(0, x0), (1, x1), (2, x2), (3, x3), (4, x4)]) (t0 t1 t2 t3 t4 : Int) (h0 : ρ x0 = .int .i64 t0) (h1 : ρ x1 = .int .i64 t1) (h2 : ρ x2 = .int .i64 t2) (h3 : ρ x3 = .int .i64 t3) (h4 : ρ x4 = .int .i64 t4) :
    (execOp ρ o).run Tryz.prog W = .ok (.value (.slice (some ⟨W.heap.size, 0, none⟩) 5 5)) (W.alloc (.cells #[.int .i64 t0, .int .i64 t1, .int .i64 t2, .int .i64 t3, .int .i64 t4] 3)) := by
  unfold execOp
  simp only [ho, h0, h1, h2, h3, h4, Sem.run_bind, Sem.run_pure, Result.andThen_ok]
  go_simp
theorem exec_ixS (W : World) (ρ : Operand → Value) (o : Oper) (x y : Operand) (ho : o.op = .indexAddr 37 x y) (T X N : Nat) (hx : ρ x = .slice (some ⟨T, 0, none⟩) N N) (hy : ρ y = .int .i64 (X : Int)) (h : X < N) (hN : N ≤ 5) :
    (execOp ρ o).run Tryz.prog W = .ok (.value (.pointer (some ⟨T, X, none⟩))) W := by
  have hz : (X : Int) < (N : Int) := by omega
  unfold execOp
  simp only [ho, hx, hy, Sem.run_bind, Sem.run_pure, Result.andThen_ok]
  go_simp
theorem exec_ixZ (W : World) (ρ : Operand → Value) (o : Oper) (x y : Operand) (ho : o.op = .indexAddr 23 x y) (T X N : Nat) (hx : ρ x = .slice (some ⟨T, 0, none⟩) N N) (hy : ρ y = .int .i64 (X : Int)) (h : X < N) (hN : N ≤ 5) :
    (execOp ρ o).run Tryz.prog W = .ok (.value (.pointer (some ⟨T, X, none⟩))) W := by
  have hz : (X : Int) < (N : Int) := by omega
  unfold execOp
  simp only [ho, hx, hy, Sem.run_bind, Sem.run_pure, Result.andThen_ok]
  go_simp
theorem exec_ldStr (W : World) (ρ : Operand → Value) (o : Oper) (x : Operand) (ho : o.op = .load 9 x) (b off : Nat) (t : ByteArray) (hx : ρ x = .pointer (some ⟨b, off, none⟩)) (h0 : W.cell? ⟨b, off, none⟩ = some (.string t)) : (execOp ρ o).run Tryz.prog W = .ok (.value (.string t)) W := by
  unfold execOp
  simp only [ho, Instr.loadAt, Instr.sureAddr, hx, Sem.run_bind, Sem.run_pure, Result.andThen_ok]
  go_simp
theorem exec_ldInt (W : World) (ρ : Operand → Value) (o : Oper) (x : Operand) (ho : o.op = .load 3 x) (b off : Nat) (t : Int) (hx : ρ x = .pointer (some ⟨b, off, none⟩)) (h0 : W.cell? ⟨b, off, none⟩ = some (.int .i64 t)) : (execOp ρ o).run Tryz.prog W = .ok (.value (.int .i64 t)) W := by
  unfold execOp
  simp only [ho, Instr.loadAt, Instr.sureAddr, hx, Sem.run_bind, Sem.run_pure, Result.andThen_ok]
  go_simp
theorem exec_stStr (W : World) (ρ : Operand → Value) (o : Oper) (x y : Operand) (ho : o.op = .store 9 x y) (b off : Nat) (t : ByteArray) (u : Value) (hx : ρ x = .pointer (some ⟨b, off, none⟩)) (hy : ρ y = .string t)
    (h0 : W.cell? ⟨b, off, none⟩ = some u) (hf : W.frozen? ⟨b, off, none⟩ = false) : (execOp ρ o).run Tryz.prog W = .ok .skip (W.setCell ⟨b, off, none⟩ (.string t)) := by
  unfold execOp
  simp only [ho, Instr.storeAt, Instr.sureAddr, hx, hy, Sem.run_bind, Sem.run_pure, Result.andThen_ok]
  go_simp
theorem wpOp_pushS {W : World} {ops : Array Oper} {i : Nat} {o : Oper} {a : Act} {K : Act → World → Prop} {Q : Exit → Act → World → Prop} (hio : ops[i]? = some o) (hw : Region.wanted o (yielded ops a.tmps) = true) (s x : Operand)
    (ho : o.op = .call { callee := .builtin .append, args := #[s, x], argTypes := #[37, 37] })
    (base : Nat) (v : Value) (xs : List (List UInt8)) (hs : a.eval s = v) (hown : W.ownsRow base 9 1 v xs.length (sC xs)) (bx : Nat) (y : List UInt8) (hx : a.eval x = .slice (some ⟨bx, 0, none⟩) 1 1) (hb : W.heap[bx]? = some (.cells #[.string ⟨y.toArray⟩] 9)) (hl : xs.length ≤ 1048576) (hbase : base ≤ W.heap.size)
    (h : ∀ g c w' N, Hid ((xs ++ [y]).length = N) → w'.ownsRow base 9 1 (.slice (some ⟨g, 0, none⟩) N c) N (sC (xs ++ [y])) → W.grownBy w' v.ownBlock → K (a.put o.dst (.slice (some ⟨g, 0, none⟩) N c)) w') :
    wpOp Tryz.prog ops Q i K a W := by
  obtain ⟨i0, hi0, hz0, hz1, hz2⟩ := info_parts Tryz.infoStrL
  refine wpOp_wp hio hw ?_
  obtain ⟨v', w', hr, h2, h3, h4, h5⟩ := run_append_own_at (P := Tryz.prog) W base 37 o.type 9 i0 (.string ⟨#[]⟩) 1 16 Tryz.underlying37 hi0 hz0 hz1 hz2 rfl (by decide) v xs.length (sC xs) hown ⟨bx, 0, none⟩ 1 1 [.string ⟨y.toArray⟩] rfl (fun j u hj => by
    match j, hj with
    | 0, hj =>
      simp at hj
      subst hj
      rw [add_head]
      exact blkc hb 0
    | j + 1, hj => simp at hj) (fun u hu => by rw [List.mem_singleton.1 hu]; rfl) (by unfold maxLen; omega) (by omega) hbase
  rcases h2.2 with ⟨h', _⟩ | ⟨g', cap', cur', h', _⟩
  · exact absurd (h4.1 h').2 (by simp)
  subst h'
  rw [← sC_snoc] at h2
  have e : xs.length + 1 = (xs ++ [y]).length := by simp
  rw [e] at h2
  have hq := h g' cap' w' _ (hidd rfl) h2 h3
  unfold Oper.wp execOp
  simp only [ho, resolve, invoke, builtin, Sem.run_bind, Sem.run_pure, Result.andThen_ok, List.map_toArray, List.map_cons, List.map_nil, hs, hx, hr]
  rw [← e] at hq
  exact hq
theorem wpOp_pushZ {W : World} {ops : Array Oper} {i : Nat} {o : Oper} {a : Act} {K : Act → World → Prop} {Q : Exit → Act → World → Prop} (hio : ops[i]? = some o) (hw : Region.wanted o (yielded ops a.tmps) = true) (s x : Operand)
    (ho : o.op = .call { callee := .builtin .append, args := #[s, x], argTypes := #[23, 23] })
    (base : Nat) (v : Value) (xs : List Int) (hs : a.eval s = v) (hown : W.ownsRow base 3 1 v xs.length (zC xs)) (bx : Nat) (y : Int) (hx : a.eval x = .slice (some ⟨bx, 0, none⟩) 1 1) (hb : W.heap[bx]? = some (.cells #[.int .i64 y] 3)) (hl : xs.length ≤ 1048576) (hbase : base ≤ W.heap.size)
    (h : ∀ g c w' N, Hid ((xs ++ [y]).length = N) → w'.ownsRow base 3 1 (.slice (some ⟨g, 0, none⟩) N c) N (zC (xs ++ [y])) → W.grownBy w' v.ownBlock → K (a.put o.dst (.slice (some ⟨g, 0, none⟩) N c)) w') :
    wpOp Tryz.prog ops Q i K a W := by
  obtain ⟨i0, hi0, hz0, hz1, hz2⟩ := info_parts Tryz.infoIntL
  refine wpOp_wp hio hw ?_
  obtain ⟨v', w', hr, h2, h3, h4, h5⟩ := run_append_own_at (P := Tryz.prog) W base 23 o.type 3 i0 (.int .i64 0) 1 8 Tryz.underlying23 hi0 hz0 hz1 hz2 rfl (by decide) v xs.length (zC xs) hown ⟨bx, 0, none⟩ 1 1 [.int .i64 y] rfl (fun j u hj => by
    match j, hj with
    | 0, hj =>
      simp at hj
      subst hj
      rw [add_head]
      exact blkc hb 0
    | j + 1, hj => simp at hj) (fun u hu => by rw [List.mem_singleton.1 hu]; rfl) (by unfold maxLen; omega) (by omega) hbase
  rcases h2.2 with ⟨h', _⟩ | ⟨g', cap', cur', h', _⟩
  · exact absurd (h4.1 h').2 (by simp)
  subst h'
  rw [← zC_snoc] at h2
  have e : xs.length + 1 = (xs ++ [y]).length := by simp
  rw [e] at h2
  have hq := h g' cap' w' _ (hidd rfl) h2 h3
  unfold Oper.wp execOp
  simp only [ho, resolve, invoke, builtin, Sem.run_bind, Sem.run_pure, Result.andThen_ok, List.map_toArray, List.map_cons, List.map_nil, hs, hx, hr]
  rw [← e] at hq
  exact hq
end Go.Proofs.YtpdiaddgialanaaGreatDoor

namespace Go.Proofs.YtpdiaddgialanaaGreatDoor
open Go Go.RowKit
set_option linter.unusedVariables false
set_option linter.unusedSimpArgs false
set_option maxRecDepth 100000

/-! A document that is being drawn: its rows are its own, no two in one place. -/
/-- Rows of texts, of numbers and of values stay. -/
def KeepD (W W' : World) : Prop := W.heap.size ≤ W'.heap.size ∧ ∀ (g : Nat) (cs : Array Value) (t : TypeId), t = 9 ∨ t = 3 ∨ t = 88 → W.heap[g]? = some (Obj.cells cs t) → W'.heap[g]? = some (Obj.cells cs t)
theorem KeepD.refl (W : World) : KeepD W W := ⟨Nat.le_refl _, fun _ _ _ _ h => h⟩
theorem KeepD.trans {a b c : World} (h : KeepD a b) (k : KeepD b c) : KeepD a c := ⟨Nat.le_trans h.1 k.1, fun g cs t ht hg => k.2 g cs t ht (h.2 g cs t ht hg)⟩
theorem KeepD.below {W W' : World} (h : Below W.heap.size W W') : KeepD W W' := ⟨h.size, fun g cs t _ hg => blko hg h⟩
theorem KeepD.set {W : World} {g k : Nat} {u : Value} {cs : Array Value} {t : TypeId} (h : W.heap[g]? = some (.cells cs t)) (h1 : t ≠ 9) (h2 : t ≠ 3) (h3 : t ≠ 88) : KeepD W (W.setCell ⟨g, k, none⟩ u) :=
  ⟨by simp, fun x cs' t' ht hx => (heap_set_other W g k u x (fun e => by
    subst e
    rw [h] at hx
    injection hx with hx
    injection hx with _ hx
    subst hx
    rcases ht with e | e | e
    · exact h1 e
    · exact h2 e
    · exact h3 e)).trans hx⟩
theorem Sx.keepD {b : Nat} {ao : Option Addr} {n cap : Nat} {A : Int} {W W' : World} (h : Sx b ao n cap W A) (hb : But (fun x => x = b) W W') : KeepD W W' :=
  ⟨hb.size, fun g cs t ht hg => hb.blk hg fun e => by
    subst e
    obtain ⟨_, _, _, _, _, _, h5, _⟩ := h
    unfold SrcAt at h5
    rw [h5] at hg
    injection hg with hg
    injection hg with _ hg
    subst hg
    revert ht
    decide⟩
theorem own_keepD {W W' : World} {base e sz n : Nat} {v : Value} {xs : List Value} (h : W.ownsRow base e sz v n xs) (hk : KeepD W W') (he : e = 9 ∨ e = 3 ∨ e = 88) : W'.ownsRow base e sz v n xs :=
  own_congr h fun x hx => by
    obtain ⟨_, cur, hc⟩ := own_blk h hx
    rw [hc]
    exact hk.2 x cur e he hc
theorem own_low {w : World} {base base' e size n : Nat} {v : Value} {xs : List Value} (h : w.ownsRow base e size v n xs) (hb : base' ≤ base) : w.ownsRow base' e size v n xs := by
  refine ⟨h.1, ?_⟩
  rcases h.2 with h1 | ⟨g, cap, cur, h1, hg, hr⟩
  · exact Or.inl h1
  · exact Or.inr ⟨g, cap, cur, h1, Nat.le_trans hb hg, hr⟩
/-- The cells of a value. -/
def ValL (W : World) (base : Nat) (u0 u1 u2 : Option Value) (x : Vl) : Prop := u0 = some (.string ⟨x.1.toArray⟩) ∧ (∃ v, u1 = some v ∧ W.ownsRow base 9 1 v x.2.1.length (sC x.2.1)) ∧ ∃ v, u2 = some v ∧ W.ownsRow base 3 1 v x.2.2.length (zC x.2.2)
theorem ValL.keep {W W' : World} {base : Nat} {u0 u1 u2 : Option Value} {x : Vl} (h : ValL W base u0 u1 u2 x) (hk : KeepD W W') : ValL W' base u0 u1 u2 x := by
  obtain ⟨h1, ⟨v, h2, h3⟩, v', h4, h5⟩ := h
  exact ⟨h1, ⟨v, h2, own_keepD h3 hk (Or.inl rfl)⟩, v', h4, own_keepD h5 hk (Or.inr (Or.inl rfl))⟩
/-- Not in one place. -/
def Apt (u v : Option Value) : Prop := ∀ a b x, u = some a → v = some b → a.ownBlock = some x → b.ownBlock ≠ some x
structure DocO (W : World) (base : Nat) (dv : Value) (V : List Vl) (ys : List Value) : Prop where
  row : W.ownsRow base 88 3 dv V.length ys
  len : ys.length = V.length * 3
  val : ∀ i, i < V.length → ValL W base ys[i * 3]? ys[i * 3 + 1]? ys[i * 3 + 2]? (V.getD i vl0)
  apt : ∀ i j, i < V.length → j < V.length → i ≠ j → Apt ys[i * 3 + 1]? ys[j * 3 + 1]? ∧ Apt ys[i * 3 + 2]? ys[j * 3 + 2]?
theorem DocO.nil (W : World) (base : Nat) : DocO W base (.slice none 0 0) [] [] := ⟨World.ownsRow_nil _ _ _ _, rfl, fun i hi => absurd hi (by simp), fun i j hi => absurd hi (by simp)⟩
theorem DocO.keep {W W' : World} {base : Nat} {dv : Value} {V : List Vl} {ys : List Value} (h : DocO W base dv V ys) (hk : KeepD W W') : DocO W' base dv V ys :=
  ⟨own_keepD h.row hk (Or.inr (Or.inr rfl)), h.len, fun i hi => (h.val i hi).keep hk, h.apt⟩
theorem DocO.push {W W' : World} {base : Nat} {dv dv' u0 u1 u2 : Value} {V : List Vl} {ys : List Value} {x : Vl} (h : DocO W base dv V ys) (ho : W'.ownsRow base 88 3 dv' (V ++ [x]).length (ys ++ [u0, u1, u2])) (hg : W.grownBy W' dv.ownBlock) (hx : ValL W base (some u0) (some u1) (some u2) x)
    (hd : ∀ i, i < V.length → (Apt ys[i * 3 + 1]? (some u1) ∧ Apt (some u1) ys[i * 3 + 1]?) ∧ Apt ys[i * 3 + 2]? (some u2) ∧ Apt (some u2) ys[i * 3 + 2]?) : DocO W' base dv' (V ++ [x]) (ys ++ [u0, u1, u2]) := by
  have hl := h.len
  have hV : ∀ {a b c : Option Value} {y : Vl}, ValL W base a b c y → ValL W' base a b c y := fun {a b c y} hv => by
    obtain ⟨h1, ⟨v, h2, h3⟩, v', h4, h5⟩ := hv
    exact ⟨h1, ⟨v, h2, own_congr h3 fun z hz => hg.block z (own_ltL h3 hz) (fun e => own_apartL h3 h.row (by decide) hz e.symm)⟩, v', h4, own_congr h5 fun z hz => hg.block z (own_ltL h5 hz) (fun e => own_apartL h5 h.row (by decide) hz e.symm)⟩
  have g1 : ∀ i, i < V.length → (ys ++ [u0, u1, u2])[i * 3]? = ys[i * 3]? ∧ (ys ++ [u0, u1, u2])[i * 3 + 1]? = ys[i * 3 + 1]? ∧ (ys ++ [u0, u1, u2])[i * 3 + 2]? = ys[i * 3 + 2]? := fun i hi => ⟨List.getElem?_append_left (by omega), List.getElem?_append_left (by omega), List.getElem?_append_left (by omega)⟩
  have g2 : (ys ++ [u0, u1, u2])[V.length * 3]? = some u0 ∧ (ys ++ [u0, u1, u2])[V.length * 3 + 1]? = some u1 ∧ (ys ++ [u0, u1, u2])[V.length * 3 + 2]? = some u2 := by
    refine ⟨?_, ?_, ?_⟩
    · rw [List.getElem?_append_right (by omega), show V.length * 3 - ys.length = 0 from by omega]; rfl
    · rw [List.getElem?_append_right (by omega), show V.length * 3 + 1 - ys.length = 1 from by omega]; rfl
    · rw [List.getElem?_append_right (by omega), show V.length * 3 + 2 - ys.length = 2 from by omega]; rfl
  refine ⟨ho, by simp [hl]; omega, fun i hi => ?_, fun i j hi hj hij => ?_⟩
  · by_cases hlt : i < V.length
    · rw [(g1 i hlt).1, (g1 i hlt).2.1, (g1 i hlt).2.2, show (V ++ [x]).getD i vl0 = V.getD i vl0 from by simp [List.getElem?_append_left hlt]]
      exact hV (h.val i hlt)
    · have hi' : i = V.length := by simp at hi; omega
      subst hi'
      rw [g2.1, g2.2.1, g2.2.2, show (V ++ [x]).getD V.length vl0 = x from by simp]
      exact hV hx
  · simp only [List.length_append, List.length_cons, List.length_nil] at hi hj
    by_cases hli : i < V.length
    · by_cases hlj : j < V.length
      · rw [(g1 i hli).2.1, (g1 i hli).2.2, (g1 j hlj).2.1, (g1 j hlj).2.2]
        exact h.apt i j hli hlj hij
      · have hj' : j = V.length := by omega
        subst hj'
        rw [(g1 i hli).2.1, (g1 i hli).2.2, g2.2.1, g2.2.2]
        exact ⟨(hd i hli).1.1, (hd i hli).2.1⟩
    · have hi' : i = V.length := by omega
      subst hi'
      have hlj : j < V.length := by omega
      rw [(g1 j hlj).2.1, (g1 j hlj).2.2, g2.2.1, g2.2.2]
      exact ⟨(hd j hlj).1.2, (hd j hlj).2.2⟩
theorem own_slice {w : World} {base e sz n : Nat} {v : Value} {xs : List Value} (h : w.ownsRow base e sz v n xs) : ∃ a c, v = .slice a n c := by
  rcases h.2 with ⟨h1, h2⟩ | ⟨g, cap, cur, h1, _⟩
  · exact ⟨none, 0, by rw [h1, h2]⟩
  · exact ⟨_, _, h1⟩
theorem own_holdTx {w : World} {base : Nat} {a : Option Addr} {m c : Nat} {l : List (List UInt8)} (h : w.ownsRow base 9 1 (.slice a m c) l.length (sC l)) : HoldTx w a l := by
  rcases h.2 with ⟨h1, h2⟩ | ⟨g, cap, cur, h1, hb, hg, hr⟩
  · exact Or.inl (List.length_eq_zero_iff.1 h2)
  · injection h1 with h1 h3 h4
    refine Or.inr ⟨g, 0, h1, (Array.getElem?_eq_some_iff.1 hg).1, fun i hi => ?_⟩
    subst h1 h3 h4
    rw [Nat.zero_add, h.cellAt i (by omega)]
    simp [sC, hi]
theorem own_holdZ {w : World} {base : Nat} {a : Option Addr} {m c : Nat} {l : List Int} (h : w.ownsRow base 3 1 (.slice a m c) l.length (zC l)) : HoldZ w a l := by
  rcases h.2 with ⟨h1, h2⟩ | ⟨g, cap, cur, h1, hb, hg, hr⟩
  · exact Or.inl (List.length_eq_zero_iff.1 h2)
  · injection h1 with h1 h3 h4
    refine Or.inr ⟨g, 0, h1, (Array.getElem?_eq_some_iff.1 hg).1, fun i hi => ?_⟩
    subst h1 h3 h4
    rw [Nat.zero_add, h.cellAt i (by omega)]
    simp [zC, hi]
/-- What lies so is held. -/
theorem DocO.hold {W : World} {base : Nat} {a : Option Addr} {m c : Nat} {V : List Vl} {ys : List Value} (h : DocO W base (.slice a m c) V ys) : m = V.length ∧ HoldV W a V := by
  have hr := h.row
  rcases hr.2 with ⟨h1, h2⟩ | ⟨g, cap, cur, h1, hb, hg, hr'⟩
  · injection h1 with _ h1
    exact ⟨by omega, Or.inl (List.length_eq_zero_iff.1 h2)⟩
  · injection h1 with h1 h3 h4
    subst h1 h3 h4
    refine ⟨rfl, Or.inr ⟨g, 0, rfl, (Array.getElem?_eq_some_iff.1 hg).1, fun i hi => ?_⟩⟩
    obtain ⟨q0, ⟨v1, q1, q2⟩, v2, q3, q4⟩ := h.val i hi
    obtain ⟨a1, c1, rfl⟩ := own_slice q2
    obtain ⟨a2, c2, rfl⟩ := own_slice q4
    rw [Nat.zero_add, hr.cellAt (i * 3) (by omega), hr.cellAt (i * 3 + 1) (by omega), hr.cellAt (i * 3 + 2) (by omega)]
    exact ⟨q0, ⟨a1, c1, q1, own_holdTx q2⟩, a2, c2, q3, own_holdZ q4⟩
structure DD (w : World) (b : Nat) (ao : Option Addr) (n cap : Nat) (A : Int) (gs g m c g4 g5 : Nat) (did : List UInt8) (dv : Value) (V : List Vl) (ys : List Value) (W : World) : Prop where
  src : Sx b ao n cap W A
  but : But (fun x => x = b) w W
  sbx : W.heap[gs]? = some (.cells #[.slice (some ⟨g, 0, none⟩) m c] 84)
  sch : SchAt W g
  res : W.heap[g4]? = some (.cells #[.string ⟨#[]⟩, .slice none 0 0] 26)
  box : W.heap[g5]? = some (.cells #[.string ⟨did.toArray⟩, dv] 26)
  doc : DocO W w.heap.size dv V ys
  bl : b < w.heap.size
  gl : g < w.heap.size
  gb : g ≠ b
  sl : w.heap.size ≤ gs
  rl : w.heap.size ≤ g4
  xl : w.heap.size ≤ g5
  ne : g4 ≠ g5
  cb : ∀ j, j < n → ∃ blk off, ao = some ⟨blk, off, none⟩ ∧ blk < w.heap.size
section
variable {w W W' : World} {b : Nat} {ao : Option Addr} {n cap : Nat} {A A' : Int} {gs g m c g4 g5 : Nat} {did : List UInt8} {dv : Value} {V : List Vl} {ys : List Value}
theorem DD.draw (h : DD w b ao n cap A gs g m c g4 g5 did dv V ys W) (hs : Sx b ao n cap W' A') (hb : But (fun x => x = b) W W') : DD w b ao n cap A' gs g m c g4 g5 did dv V ys W' := by
  have q : ∀ x, w.heap.size ≤ x → ¬ x = b := fun x hx e => by have := h.bl; omega
  exact ⟨hs, h.but.more hb, hb.blk h.sbx (q _ h.sl), h.sch.but hb h.gb, hb.blk h.res (q _ h.rl), hb.blk h.box (q _ h.xl), h.doc.keep (h.src.keepD hb), h.bl, h.gl, h.gb, h.sl, h.rl, h.xl, h.ne, h.cb⟩
theorem DD.below (h : DD w b ao n cap A gs g m c g4 g5 did dv V ys W) (hb : Below W.heap.size W W') : DD w b ao n cap A gs g m c g4 g5 did dv V ys W' := h.draw (h.src.below hb) (But.of_below hb)
theorem DD.mono (h : DD w b ao n cap A gs g m c g4 g5 did dv V ys W) (hA : A ≤ A') : DD w b ao n cap A' gs g m c g4 g5 did dv V ys W := ⟨h.src.mono hA, h.but, h.sbx, h.sch, h.res, h.box, h.doc, h.bl, h.gl, h.gb, h.sl, h.rl, h.xl, h.ne, h.cb⟩
/-- A cell of the box written anew. -/
theorem DD.setB {id' : List UInt8} {dv' : Value} {V' : List Vl} {ys' : List Value} (h : DD w b ao n cap A gs g m c g4 g5 did dv V ys W) (k : Nat) (u : Value) (he : (#[.string ⟨did.toArray⟩, dv] : Array Value).setIfInBounds k u = #[.string ⟨id'.toArray⟩, dv']) (hd : DocO (W.setCell ⟨g5, k, none⟩ u) w.heap.size dv' V' ys') : DD w b ao n cap A gs g m c g4 g5 id' dv' V' ys' (W.setCell ⟨g5, k, none⟩ u) := by
  have hxl := h.xl
  have hbl := h.bl
  have hgl := h.gl
  have ho : ∀ x, x ≠ g5 → (W.setCell ⟨g5, k, none⟩ u).heap[x]? = W.heap[x]? := fun x hx => heap_set_other _ _ _ _ _ hx
  have hbx := blk_setk h.box k u
  rw [he] at hbx
  refine ⟨h.src.set g5 k _ (by omega) (fun j hj => ?_), h.but.setN g5 k _ hxl, (ho gs (fun e => ?_)).trans h.sbx, h.sch.but ((But.refl (fun x => x = g5) W).set g5 k _ rfl) (by show ¬ g = g5; omega), (ho g4 h.ne).trans h.res, hbx, hd, h.bl, h.gl, h.gb, h.sl, h.rl, h.xl, h.ne, h.cb⟩
  · obtain ⟨blk, off, h1, h2⟩ := h.cb j hj
    exact ⟨blk, off, h1, by omega⟩
  · have h1 := h.sbx
    rw [e, h.box] at h1
    injection h1 with h1
    injection h1 with _ h1
    exact absurd h1 (by decide)
theorem DD.setId (h : DD w b ao n cap A gs g m c g4 g5 did dv V ys W) (id' : List UInt8) : DD w b ao n cap A gs g m c g4 g5 id' dv V ys (W.setCell ⟨g5, 0, none⟩ (.string ⟨id'.toArray⟩)) := h.setB 0 _ rfl (h.doc.keep (KeepD.set h.box (by decide) (by decide) (by decide)))
/-- The row of values grown. -/
theorem DD.grow {dv' : Value} {V' : List Vl} {ys' : List Value} (h : DD w b ao n cap A gs g m c g4 g5 did dv V ys W) (hg : W.grownBy W' dv.ownBlock) (hd : DocO W' w.heap.size dv' V' ys') : DD w b ao n cap A gs g m c g4 g5 did dv' V' ys' (W'.setCell ⟨g5, 1, none⟩ dv') := by
  have hb := but_own hg
  have hgl := h.gl
  have hX : ∀ y, y < w.heap.size → ¬ (dv.ownBlock = some y) := fun y hy e1 => by have := (own_blk h.doc.row e1).1; omega
  have hT : ∀ {y : Nat} {cs : Array Value} {t : TypeId}, W.heap[y]? = some (.cells cs t) → 88 ≠ t → ¬ (dv.ownBlock = some y) := fun hy ht => own_apartB h.doc.row hy ht
  have k5 : W'.heap[g5]? = _ := hb.blk h.box (hT h.box (by decide))
  have k4 : W'.heap[g4]? = _ := hb.blk h.res (hT h.res (by decide))
  have ks : W'.heap[gs]? = _ := hb.blk h.sbx (hT h.sbx (by decide))
  have hs : Sx b ao n cap W' A := h.src.butN hb (hX b h.bl) (fun j hj => by
    obtain ⟨blk, off, h1, h2⟩ := h.cb j hj
    exact ⟨blk, off, h1, Nat.lt_of_lt_of_le h2 h.but.size, hX blk h2⟩)
  have hbw : But (fun x => x = b) w W' := ⟨hb.os.trans h.but.os, hb.tape.trans h.but.tape, hb.output.trans h.but.output, Nat.le_trans h.but.size hb.size, fun i hi hn => (hb.block i (Nat.lt_of_lt_of_le hi h.but.size) (hX i hi)).trans (h.but.block i hi hn)⟩
  have hxl := h.xl
  have hbl := h.bl
  have ho : ∀ x, x ≠ g5 → (W'.setCell ⟨g5, 1, none⟩ dv').heap[x]? = W'.heap[x]? := fun x hx => heap_set_other _ _ _ _ _ hx
  refine ⟨hs.set g5 1 _ (by omega) (fun j hj => ?_), hbw.setN g5 1 _ hxl, (ho gs (fun e => ?_)).trans ks, (h.sch.but hb (hX g hgl)).but ((But.refl (fun x => x = g5) W').set g5 1 _ rfl) (by show ¬ g = g5; omega), (ho g4 h.ne).trans k4, blk_setk k5 1 _, hd.keep (KeepD.set k5 (by decide) (by decide) (by decide)), h.bl, h.gl, h.gb, h.sl, h.rl, h.xl, h.ne, h.cb⟩
  · obtain ⟨blk, off, h1, h2⟩ := h.cb j hj
    exact ⟨blk, off, h1, by omega⟩
  · rw [e, k5] at ks
    injection ks with ks
    injection ks with _ ks
    exact absurd ks (by decide)
end
end Go.Proofs.YtpdiaddgialanaaGreatDoor
