import Derived.Test.YtboocdiilbcdcaaDgI
namespace Go.Proofs.Ytboocdiilbcdcaa
open Go Go.RowKit
set_option linter.unusedVariables false
set_option linter.unusedSimpArgs false
set_option maxRecDepth 100000

/-! DigestRank on both sides. -/
def cntLe (zs : List Int) (v : Int) : Nat := (zs.filter fun x => decide (x ≤ v)).length
theorem cntLe_step (zs : List Int) (v : Int) (k : Nat) (h : k < zs.length) : cntLe (zs.take (k + 1)) v = cntLe (zs.take k) v + (if zs.getD k 0 ≤ v then 1 else 0) := by
  unfold cntLe
  rw [List.take_succ_eq_append_getElem h, List.filter_append, List.length_append]
  have e : zs.getD k 0 = zs[k] := by simp [List.getD_eq_getElem?_getD, List.getElem?_eq_getElem h]
  rw [e]
  by_cases hx : zs[k] ≤ v <;> simp [hx]
theorem cntLe_le (zs : List Int) (v : Int) : cntLe zs v ≤ zs.length := List.length_filter_le _ _
theorem cntLe_edge (zs : List Int) (v : Int) (i : Nat) (hi : i ≤ zs.length) (h1 : ∀ t, t < i → zs.getD t 0 ≤ v) (h2 : ∀ t, i ≤ t → t < zs.length → ¬ zs.getD t 0 ≤ v) : cntLe zs v = i := by
  have key : ∀ j, j ≤ zs.length → cntLe (zs.take j) v = min i j := by
    intro j
    induction j with
    | zero => intro _; simp [cntLe]
    | succ j ih =>
      intro hj
      rw [cntLe_step zs v j (by omega), ih (by omega)]
      by_cases hji : j < i
      · rw [if_pos (h1 j hji)]; omega
      · rw [if_neg (h2 j (by omega) (by omega))]; omega
  have := key zs.length (Nat.le_refl _)
  rw [List.take_length] at this
  omega
theorem pts_mono {zs : List Int} (h : PtS zs) : ∀ d a, a + d < zs.length → zs.getD a 0 ≤ zs.getD (a + d) 0
  | 0, a, _ => by simp
  | d + 1, a, hd => by
    have h1 := pts_mono h d a (by omega)
    have h2 := h (a + d) (by omega)
    have e : a + (d + 1) = a + d + 1 := by omega
    rw [e]; omega
def rkLo (s p k : Nat) : Int := (k : Int) * (s : Int) - ((s : Int) - 1) * ((min p k : Nat) : Int)
def rkHi (s c k : Nat) : Int := min ((k : Int) * (s : Int)) (c : Int)
noncomputable def rkZ (s p c : Int) (zs : List Int) (v : Int) : Int × Int × Int := if dgB s p c zs = true then (rkLo s.toNat p.toNat (cntLe zs v), rkHi s.toNat c.toNat (cntLe zs v), 0) else (0, 0, 1)
theorem rk_nums (s p k : Nat) (hs1 : 1 ≤ s) (hs : s ≤ 4096) (hk : k ≤ 512) : ∃ m1 m2 : Nat, (k : Int) * (s : Int) = (m1 : Int) ∧ ((s : Int) - 1) * ((min p k : Nat) : Int) = (m2 : Int) ∧ m1 ≤ 2097152 ∧ m2 ≤ m1 := by
  refine ⟨k * s, (s - 1) * min p k, by rw [Int.natCast_mul], ?_, ?_, ?_⟩
  · rw [Int.natCast_mul]; congr 1; omega
  · exact Nat.le_trans (Nat.mul_le_mul hk hs) (by omega)
  · rw [Nat.mul_comm k s]; exact Nat.mul_le_mul (by omega) (by omega)
theorem exec_min2 (W : World) (ρ : Operand → Value) (o : Oper) (x y : Operand) (ho : o.op = .call { callee := .builtin .min, args := #[x, y], argTypes := #[3, 3] }) (X Y M : Int) (hx : ρ x = .int .i64 X) (hy : ρ y = .int .i64 Y) (h : min X Y = M) :
    (execOp ρ o).run Try.prog W = .ok (.value (.int .i64 M)) W := by
  have h' : (if Y < X then Y else X) = M := by rw [← h]; split <;> omega
  subst h'
  unfold execOp
  simp only [ho, hx, hy, Sem.run_bind, Sem.run_pure, Result.andThen_ok]
  go_simp
end Go.Proofs.Ytboocdiilbcdcaa
