import Derived.Test.YtoinajfliogcdaaDoorNearJ39
import Derived.Test.YtoinajfliogcdaaDoorNearJ22
import Derived.Test.YtoinajfliogcdaaDoorNearJ19
import Derived.Laws.EntriesVeiled
namespace Go.Proofs.YtoinajfliogcdaaDoor
open Go Go.RowKit
set_option linter.unusedVariables false
set_option linter.unusedSimpArgs false
set_option maxRecDepth 100000

theorem runesFrom_bd (s : ByteArray) : ∀ (f p : Nat) (x : Int), x ∈ runesFrom s f p → 0 ≤ x ∧ x ≤ 1114111
 | 0, p, x, h => by simp [runesFrom] at h
 | f + 1, p, x, h => by
  by_cases hp : p < s.size
  ·rw [runesFrom_step s f p hp] at h
   rcases List.mem_cons.1 h with rfl | h
   ·have := rune_le s p; omega
   ·exact runesFrom_bd s f _ x h
  ·rw [runesFrom_end s _ p hp] at h; simp at h
theorem decList_bd (s : ByteArray) : ∀ x ∈ decList s, 0 ≤ x ∧ x ≤ 1114111 := by
 intro x hx
 unfold decList at hx
 split at hx
 ·simp at hx
 ·unfold decL at hx
  split at hx
  ·exact runesFrom_bd s _ _ x hx
  ·simp at hx
def FiAll (s : ByteArray) (k head : Int) (w : World) (e : Ending) (w' : World) : Prop :=
 (fzCode s k head ≠ 0 ∧ e = .returned (.tuple #[.agg #[.slice none 0 0], .int .i64 (fzCode s k head)]) ∧ Below w.heap.size w w') ∨ (fzCode s k head = 0 ∧ LnPost (decList s) (lettersZ (decList s)) k.toNat head.toNat w e w')
theorem fz_end (w w2 : World) (hb2 : Below (w.alloc (.cells #[.slice none 0 0] 27)).heap.size (w.alloc (.cells #[.slice none 0 0] 27)) w2) : w2.heap[w.heap.size]? = some (.cells #[.slice none 0 0] 27) ∧ w2.cell? ⟨w.heap.size, 0, none⟩ = some (.slice none 0 0) ∧ w2.frozen? ⟨w.heap.size, 0, none⟩ = false ∧ (w2.setCell ⟨w.heap.size, 0, none⟩ (.slice none 0 0)).cell? ⟨w.heap.size, 0, none⟩ = some (.slice none 0 0) ∧ Below w.heap.size w (w2.setCell ⟨w.heap.size, 0, none⟩ (.slice none 0 0)) ∧ Below w.heap.size w w2 := by
 have hres : w2.heap[w.heap.size]? = some (.cells #[.slice none 0 0] 27) := blko (heap_alloc_new _ _) hb2
 have hbw : Below w.heap.size w w2 := ((Below.refl _ _).alloc (Nat.le_refl _) _).trans (hb2.mono (by simp))
 refine ⟨hres, blkc hres 0, blkf hres 0, ?_, ?_, hbw⟩
 ·have := blk_setk hres 0 (.slice none 0 0)
  rw [blkc this 0]; simp
 ·exact hbw.trans (((But.refl (fun b => b = w.heap.size) w2).set (w.heap.size) 0 _ rfl).below hbw.size (fun j hj e => by omega))
set_option maxHeartbeats 8000000 in
theorem implFuzzy_bad (s : ByteArray) (k head : Int) (w : World) (hs : s.size ≤ 1048576) (hT : Tabs w) (hbad : fzCode s k head ≠ 0) :
  Calls Tryd.prog 9 #[.string s, .int .i64 k, .int .i64 head] w fun e w' => e = .returned (.tuple #[.agg #[.slice none 0 0], .int .i64 (fzCode s k head)]) ∧ Below w.heap.size w w' := by
 have HDec := hidd (implDecode_any s (w.alloc (.cells #[.slice none 0 0] 27)) hs (hT.below ((Below.refl _ _).alloc (Nat.le_refl _) _)))
 by_cases hc : decCode s = 0
 ·have hne : ¬ ((decList s).length ≤ 30 ∧ 0 ≤ k ∧ k ≤ 2 ∧ 0 ≤ head ∧ head ≤ (decList s).length) := fun h => hbad (by rw [fzCode, if_pos hc, if_pos h])
  have HE : Hid (fzCode s k head = 12) := by show _ = _; rw [fzCode, if_pos hc, if_neg hne]
  have HC := hidd hc
  clear hbad hc
  go_enter Tryd.func9, Tryd.ntmps9
  go_wp2_with fail
  refine HDec.out.mono ?_
  rintro e w2 ⟨vw, rfl, hown, hb2⟩
  rw [HC.out]
  obtain ⟨aw, cw, rfl⟩ := own_sl1 hown
  obtain ⟨-, e1, e2, e3, e4, -⟩ := fz_end w w2 hb2
  have He3 := hidd e3
  have He4 := hidd e4
  clear hb2 e3 e4 hown HDec
  generalize (decList s).length = n at *
  by_cases h1 : 30 < n
  ·have g1 : (30 : Int) < (n : Int) := by omega
   have d1 : decide ((30 : Int) < (n : Int)) = true := decide_eq_true g1
   go_wp2_with fail
   refine bodyPost_ret (v := .tuple #[.agg #[.slice none 0 0], .int .i64 12]) (by have q := He3.out; simp [results, Tryd.results9, go_sem, q]) rfl ?_
   exact ⟨by rw [HE.out], He4.out⟩
  ·have g1 : ¬ (30 : Int) < (n : Int) := by omega
   have d1 : decide ((30 : Int) < (n : Int)) = false := decide_eq_false g1
   by_cases h2 : 0 ≤ k ∧ k ≤ 2
   ·have h3 : ¬ (0 ≤ head ∧ head ≤ (n : Int)) := fun h => hne ⟨by omega, h2.1, h2.2, h.1, h.2⟩
    have d2 : (decide (0 ≤ k) && decide (k ≤ 2)) = true := by simp [h2]
    have d3 : (decide (0 ≤ head) && decide (head ≤ (n : Int))) = false := by
     rw [Bool.and_eq_false_iff]
     by_cases h4 : 0 ≤ head
     ·exact Or.inr (decide_eq_false (fun h5 => h3 ⟨h4, h5⟩))
     ·exact Or.inl (decide_eq_false h4)
    have HW1 := hidd (within_any k 0 2 w2)
    have HW2 := hidd (within_any head 0 n w2)
    rw [d2] at HW1
    rw [d3] at HW2
    clear hne h2 h3 d2 d3
    go_wp2_with fail
    refine HW1.out.mono ?_
    rintro e w3 ⟨rfl, rfl⟩
    go_wp2_with fail
    refine HW2.out.mono ?_
    rintro e w3 ⟨rfl, rfl⟩
    go_wp2_with fail
    refine bodyPost_ret (v := .tuple #[.agg #[.slice none 0 0], .int .i64 12]) (by have q := He3.out; simp [results, Tryd.results9, go_sem, q]) rfl ?_
    exact ⟨by rw [HE.out], He4.out⟩
   ·have d2 : (decide (0 ≤ k) && decide (k ≤ 2)) = false := by
     rw [Bool.and_eq_false_iff]
     by_cases h4 : 0 ≤ k
     ·exact Or.inr (decide_eq_false (fun h5 => h2 ⟨h4, h5⟩))
     ·exact Or.inl (decide_eq_false h4)
    have HW1 := hidd (within_any k 0 2 w2)
    rw [d2] at HW1
    clear hne h2 d2
    go_wp2_with fail
    refine HW1.out.mono ?_
    rintro e w3 ⟨rfl, rfl⟩
    go_wp2_with fail
    refine bodyPost_ret (v := .tuple #[.agg #[.slice none 0 0], .int .i64 12]) (by have q := He3.out; simp [results, Tryd.results9, go_sem, q]) rfl ?_
    exact ⟨by rw [HE.out], He4.out⟩
 ·have HE : Hid (fzCode s k head = decCode s) := by show _ = _; rw [fzCode, if_neg hc]
  have hcn := hc
  clear hbad
  go_enter Tryd.func9, Tryd.ntmps9
  go_wp2_with fail
  refine HDec.out.mono ?_
  rintro e w2 ⟨vw, rfl, hown, hb2⟩
  obtain ⟨aw, cw, rfl⟩ := own_sl1 hown
  obtain ⟨-, e1, e2, e3, e4, -⟩ := fz_end w w2 hb2
  have He3 := hidd e3
  have He4 := hidd e4
  clear hb2 e3 e4 hown HDec hcn
  generalize decCode s = dc at *
  have hbe : (dc == 0) = false := by simpa using hc
  go_wp2_with fail
  refine bodyPost_ret (v := .tuple #[.agg #[.slice none 0 0], .int .i64 dc]) (by have q := He3.out; simp [results, Tryd.results9, go_sem, q]) rfl ?_
  exact ⟨by rw [HE.out], He4.out⟩
end Go.Proofs.YtoinajfliogcdaaDoor

namespace Go.Proofs.YtoinajfliogcdaaDoor
open Go Go.RowKit
set_option linter.unusedVariables false
set_option linter.unusedSimpArgs false
set_option maxRecDepth 100000

theorem exec_loadFw (W : World) (ρ : Operand → Value) (o : Oper) (x : Operand) (ho : o.op = .load 68 x) (b : Nat) (ad : Option Addr) (n c : Nat) (k h : Int) (hx : ρ x = .pointer (some ⟨b, 0, none⟩)) (h0 : W.cell? ⟨b, 0, none⟩ = some (.slice ad n c)) (h1 : W.cell? ⟨b, 1, none⟩ = some (.int .i64 k)) (h2 : W.cell? ⟨b, 2, none⟩ = some (.int .i64 h)) :
  (execOp ρ o).run Tryd.prog W = .ok (.value (.agg #[.slice ad n c, .int .i64 k, .int .i64 h])) W := by
 unfold execOp
 simp only [ho, Instr.loadAt, Instr.sureAddr, hx, Sem.run_bind, Sem.run_pure, Result.andThen_ok]
 go_simp
theorem exec_loadWk (W : World) (ρ : Operand → Value) (o : Oper) (x : Operand) (ho : o.op = .load 77 x) (b : Nat) (p q r s m : Int) (f g : FuncId) (u v : Value) (hx : ρ x = .pointer (some ⟨b, 0, none⟩))
  (h0 : W.cell? ⟨b, 0, none⟩ = some (.int .u64 p)) (h1 : W.cell? ⟨b, 1, none⟩ = some (.int .u64 q)) (h2 : W.cell? ⟨b, 2, none⟩ = some (.int .u64 r)) (h3 : W.cell? ⟨b, 3, none⟩ = some (.int .i64 s)) (h4 : W.cell? ⟨b, 4, none⟩ = some (.func (.func f) #[u] #[])) (h5 : W.cell? ⟨b, 5, none⟩ = some (.func (.func g) #[v] #[])) (h6 : W.cell? ⟨b, 6, none⟩ = some (.int .i64 m)) :
  (execOp ρ o).run Tryd.prog W = .ok (.value (.agg #[.int .u64 p, .int .u64 q, .int .u64 r, .int .i64 s, .func (.func f) #[u] #[], .func (.func g) #[v] #[], .int .i64 m])) W := by
 unfold execOp
 simp only [ho, Instr.loadAt, Instr.sureAddr, hx, Sem.run_bind, Sem.run_pure, Result.andThen_ok]
 go_simp
theorem exec_buildWk (W : World) (ρ : Operand → Value) (o : Oper) (x y z c : Operand) (ho : o.op = .build 77 #[(0, x), (1, y), (2, z), (3, c)]) (p q r s m : Int) (f g : FuncId) (u v : Value) (hx : ρ x = .agg #[.int .u64 p, .int .u64 q, .int .u64 r, .int .i64 s]) (hy : ρ y = .func (.func f) #[u] #[]) (hz : ρ z = .func (.func g) #[v] #[]) (hc : ρ c = .int .i64 m) :
  (execOp ρ o).run Tryd.prog W = .ok (.value (.agg #[.int .u64 p, .int .u64 q, .int .u64 r, .int .i64 s, .func (.func f) #[u] #[], .func (.func g) #[v] #[], .int .i64 m])) W := by
 unfold execOp
 simp only [ho, hx, hy, hz, hc, Sem.run_bind, Sem.run_pure, Result.andThen_ok]
 go_simp
theorem exec_allocWk (W : World) (ρ : Operand → Value) (o : Oper) (ho : o.op = .alloc 77) :
  (execOp ρ o).run Tryd.prog W = .ok (.value (.pointer (some ⟨W.heap.size, 0, none⟩))) (W.alloc (.cells #[.int .u64 0, .int .u64 0, .int .u64 0, .int .i64 0, .nilFunc, .nilFunc, .int .i64 0] 77)) := by
 unfold execOp
 simp only [ho, Sem.run_bind, Sem.run_pure, Result.andThen_ok]
 go_simp
theorem seven_set {W : World} {b : Nat} {x0 x1 x2 x3 x4 x5 x6 : Value} {t : TypeId} (h : W.heap[b]? = some (.cells #[x0, x1, x2, x3, x4, x5, x6] t)) (y0 y1 y2 y3 y4 y5 y6 : Value) : (((((((W.setCell ⟨b, 0, none⟩ y0).setCell ⟨b, 1, none⟩ y1).setCell ⟨b, 2, none⟩ y2).setCell ⟨b, 3, none⟩ y3).setCell ⟨b, 4, none⟩ y4).setCell ⟨b, 5, none⟩ y5).setCell ⟨b, 6, none⟩ y6).heap[b]? = some (.cells #[y0, y1, y2, y3, y4, y5, y6] t) := by
 have h1 := blk_setk (blk_setk (blk_setk (blk_setk (blk_setk (blk_setk (blk_setk h 0 y0) 1 y1) 2 y2) 3 y3) 4 y4) 5 y5) 6 y6
 simpa using h1
theorem exec_storeWk (W : World) (ρ : Operand → Value) (o : Oper) (x y : Operand) (ho : o.op = .store 77 x y) (b : Nat) (p q r s m : Int) (f g : FuncId) (u v : Value) (x0 x1 x2 x3 x4 x5 x6 : Value) (hx : ρ x = .pointer (some ⟨b, 0, none⟩)) (hy : ρ y = .agg #[.int .u64 p, .int .u64 q, .int .u64 r, .int .i64 s, .func (.func f) #[u] #[], .func (.func g) #[v] #[], .int .i64 m])
  (hb : W.heap[b]? = some (.cells #[x0, x1, x2, x3, x4, x5, x6] 77)) :
  (execOp ρ o).run Tryd.prog W = .ok .skip (((((((W.setCell ⟨b, 0, none⟩ (.int .u64 p)).setCell ⟨b, 1, none⟩ (.int .u64 q)).setCell ⟨b, 2, none⟩ (.int .u64 r)).setCell ⟨b, 3, none⟩ (.int .i64 s)).setCell ⟨b, 4, none⟩ (.func (.func f) #[u] #[])).setCell ⟨b, 5, none⟩ (.func (.func g) #[v] #[])).setCell ⟨b, 6, none⟩ (.int .i64 m)) := by
 have c0 := blkc hb 0
 have c1 := blkc hb 1
 have c2 := blkc hb 2
 have c3 := blkc hb 3
 have c4 := blkc hb 4
 have c5 := blkc hb 5
 have c6 := blkc hb 6
 have fz := fun j => frozen_of_row _ _ j _ _ hb
 unfold execOp
 simp only [ho, hx, hy, Sem.run_bind, Sem.run_pure, Result.andThen_ok]
 go_simp
theorem exec_ext (W : World) (ρ : Operand → Value) (o : Oper) (x : Operand) (j : Nat) (ho : o.op = .extract x j) (a b v : Value) (hx : ρ x = .tuple #[a, b]) (hv : (#[a, b] : Array Value)[j]? = some v) : (execOp ρ o).run Tryd.prog W = .ok (.value v) W := by
 unfold execOp
 simp only [ho, hx, Sem.run_bind, Sem.run_pure, Result.andThen_ok]
 go_simp
end Go.Proofs.YtoinajfliogcdaaDoor
