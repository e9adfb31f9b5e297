import Derived.Test.YtpdiaddgialanaaGreatDoorScN
import Derived.Test.YtpdiaddgialanaaGreatDoorHpA
import Derived.Test.YtpdiaddgialanaaGreatDoorClone
import Derived.Test.YtpdiaddgialanaaGreatDoorTextCode
import Derived.BigRegion
import Derived.Test.YtpdiaddgialanaaGreatDoorRgB
namespace Go.Proofs.YtpdiaddgialanaaGreatDoor
open Go Go.RowKit
set_option linter.unusedVariables false
set_option linter.unusedSimpArgs false
set_option maxRecDepth 100000

/-! The parser of queries: its box, and the signs that it takes. -/
def PsAt (W : World) (b : Nat) (T : ByteArray) (p : Nat) : Prop := W.heap[b]? = some (.cells #[.string T, .int .i64 (p : Int)] 67)
theorem PsAt.cell {W : World} {b : Nat} {T : ByteArray} {p : Nat} (h : PsAt W b T p) : W.cell? ⟨b, 0, none⟩ = some (.string T) ∧ W.cell? ⟨b, 1, none⟩ = some (.int .i64 (p : Int)) ∧ W.frozen? ⟨b, 1, none⟩ = false := ⟨blkc h 0, blkc h 1, blkf h 1⟩
theorem PsAt.set {W : World} {b : Nat} {T : ByteArray} {p : Nat} (h : PsAt W b T p) (q : Nat) : PsAt (W.setCell ⟨b, 1, none⟩ (.int .i64 (q : Int))) b T q := by
  have := blk_setk h 1 (.int .i64 (q : Int))
  simpa [PsAt] using this
theorem PsAt.lt {W : World} {b : Nat} {T : ByteArray} {p : Nat} (h : PsAt W b T p) : b < W.heap.size := (Array.getElem?_eq_some_iff.1 h).1
theorem PsAt.kept {W W' : World} {b : Nat} {T : ByteArray} {p : Nat} {row : Option Nat} (h : PsAt W b T p) (hg : W.grownBy W' row) (hne : some b ≠ row) : PsAt W' b T p := (hg.block b h.lt hne).trans h
theorem PsAt.below {W W' : World} {b : Nat} {T : ByteArray} {p : Nat} (h : PsAt W b T p) (hb : Below W.heap.size W W') : PsAt W' b T p := blko h hb
theorem grown_setP (W : World) (b j : Nat) (u : Value) : W.grownBy (W.setCell ⟨b, j, none⟩ u) (some b) :=
  ⟨rfl, rfl, rfl, by simp, fun k _ hk => heap_setCell_other W ⟨b, j, none⟩ k u (fun e => hk (by simp [e]))⟩
theorem grown_drewP (W : World) (n : Nat) (row : Option Nat) : W.grownBy (W.drewN n) row := ⟨rfl, rfl, rfl, Nat.le_refl _, fun _ _ _ => rfl⟩
theorem grown_belowP {W W' : World} (h : Below W.heap.size W W') (row : Option Nat) : W.grownBy W' row := ⟨h.os, h.tape, h.output, h.size, fun i hi _ => h.block i hi⟩
/-- What a method of the parser does: it tells v, and stands at q. -/
def PsR (W : World) (b : Nat) (T : ByteArray) (v : Value) (q : Nat) (e : Ending) (W' : World) : Prop := e = .returned v ∧ PsAt W' b T q ∧ W.grownBy W' (some b)
theorem byte_in {T : ByteArray} {p : Nat} {c : UInt8} (h : (lst T)[p]? = some c) : ∃ hp : p < T.size, T[p] = c := by
  have hl := lst_len T
  have hp : p < (lst T).length := (List.getElem?_eq_some_iff.1 h).1
  refine ⟨by omega, ?_⟩
  rw [get_listN T p (by omega), List.getD_eq_getElem?_getD, h]; rfl
set_option maxHeartbeats 2000000 in
theorem takes_yes (W : World) (b : Nat) (T : ByteArray) (p : Nat) (c : UInt8) (hs : T.size ≤ 65536) (h : PsAt W b T p) (hc : (lst T)[p]? = some c) :
    Calls Tryz.prog 81 #[.pointer (some ⟨b, 0, none⟩), .int .u8 (c.toNat : Int)] W (PsR W b T (.bool true) (p + 1)) := by
  obtain ⟨hp, hv⟩ := byte_in hc
  obtain ⟨c0, c1, f1⟩ := h.cell
  have H := hidd h
  have hne : ((p : Int) == (T.size : Int)) = false := by simp; omega
  have hpz : (p : Int) < (T.size : Int) := by omega
  clear h hc
  go_enter Tryz.func81, Tryz.ntmps81
  go_wp2
  go_quiet (fail)
  go_wp2
  go_ret
  exact ⟨rfl, PsAt.set (W := W.drewN nq) H.out (p + 1), grown_trans (grown_drewP W nq (some b)) (grown_setP _ _ _ _)⟩
set_option maxHeartbeats 2000000 in
theorem takes_no (W : World) (b : Nat) (T : ByteArray) (p : Nat) (c : UInt8) (hs : T.size ≤ 65536) (h : PsAt W b T p) (hp : p ≤ T.size) (hc : (lst T)[p]? ≠ some c) :
    Calls Tryz.prog 81 #[.pointer (some ⟨b, 0, none⟩), .int .u8 (c.toNat : Int)] W (PsR W b T (.bool false) p) := by
  obtain ⟨c0, c1, f1⟩ := h.cell
  have H := hidd h
  by_cases hlt : p < T.size
  · have hd : (lst T)[p]? = some (T[p]'hlt) := by
      have hl := lst_len T
      rw [get_listN T p hlt, List.getD_eq_getElem?_getD, List.getElem?_eq_getElem (by omega)]; rfl
    have hnec : T[p]'hlt ≠ c := fun e => hc (by rw [hd, e])
    have hnz : (((T[p]'hlt).toNat : Int) != (c.toNat : Int)) = true := by
      rw [bne_iff_ne]
      intro e
      exact hnec (UInt8.toNat_inj.1 (by omega))
    have hne : ((p : Int) == (T.size : Int)) = false := by simp; omega
    have hpz : (p : Int) < (T.size : Int) := by omega
    clear h hc hd hnec
    go_enter Tryz.func81, Tryz.ntmps81
    go_wp2
    go_quiet (fail)
    go_wp2
    go_ret
    exact ⟨rfl, H.out, grown_drewP W nq (some b)⟩
  · obtain rfl : p = T.size := by omega
    have hne : ((T.size : Int) == (T.size : Int)) = true := by simp
    clear h hc
    go_enter Tryz.func81, Tryz.ntmps81
    go_wp2
    go_quiet (fail)
    go_wp2
    go_ret
    exact ⟨rfl, H.out, grown_drewP W nq (some b)⟩
set_option maxHeartbeats 2000000 in
theorem blanks_no (W : World) (b : Nat) (T : ByteArray) (p : Nat) (hs : T.size ≤ 65536) (h : PsAt W b T p) (hp : p ≤ T.size) (hc : (lst T)[p]? ≠ some 32) :
    Calls Tryz.prog 69 #[.pointer (some ⟨b, 0, none⟩)] W (PsR W b T (.bool false) p) := by
  obtain ⟨c0, c1, f1⟩ := h.cell
  have HT := hidd (takes_no W b T p 32 hs h hp hc)
  clear h hc
  go_enter Tryz.func69, Tryz.ntmps69
  go_wp2
  refine wp_loop_rounds 1 ?_
  rw [rounds_succ]
  go_wp2_with fail
  refine HT.out.mono ?_
  rintro e W1 ⟨rfl, h1, hg1⟩
  obtain ⟨d0, d1, g1⟩ := h1.cell
  have H1 := hidd h1
  have HG1 := hidd hg1
  clear h1 hg1 c0 c1 f1
  have hlt : ¬ (p : Int) > (p : Int) := by omega
  go_wp2
  go_ret
  exact ⟨by simp, H1.out, HG1.out⟩
set_option maxHeartbeats 2000000 in
theorem blanks_one (W : World) (b : Nat) (T : ByteArray) (p : Nat) (hs : T.size ≤ 65536) (h : PsAt W b T p) (hc : (lst T)[p]? = some 32) (hc2 : (lst T)[p + 1]? ≠ some 32) :
    Calls Tryz.prog 69 #[.pointer (some ⟨b, 0, none⟩)] W (PsR W b T (.bool true) (p + 1)) := by
  obtain ⟨hp, _⟩ := byte_in hc
  obtain ⟨c0, c1, f1⟩ := h.cell
  have HT := hidd (takes_yes W b T p 32 hs h hc)
  have HT2 : Hid (∀ V, PsAt V b T (p + 1) → Calls Tryz.prog 81 #[.pointer (some ⟨b, 0, none⟩), .int .u8 32] V (PsR V b T (.bool false) (p + 1))) := fun V hV => takes_no V b T (p + 1) 32 hs hV (by omega) hc2
  clear h hc hc2
  go_enter Tryz.func69, Tryz.ntmps69
  go_wp2
  refine wp_loop_rounds 2 ?_
  rw [rounds_succ]
  go_wp2_with fail
  refine HT.out.mono ?_
  rintro e W1 ⟨rfl, h1, hg1⟩
  have H1 := hidd h1
  have HG1 := hidd hg1
  clear h1 hg1 c0 c1 f1
  go_wp2_with fail
  rw [rounds_succ]
  go_wp2_with fail
  refine (HT2.out _ H1.out).mono ?_
  rintro e W2 ⟨rfl, h2, hg2⟩
  obtain ⟨d0, d1, g1⟩ := h2.cell
  have H2 := hidd h2
  have HG2 := hidd (grown_trans HG1.out hg2)
  clear h2 hg2
  have hlt : ((p + 1 : Nat) : Int) > (p : Int) := by omega
  obtain ⟨q, hq⟩ : ∃ q, p + 1 = q := ⟨_, rfl⟩
  rw [hq] at hlt d1 H2
  have HQ := hidd hq
  clear hq
  go_wp2
  go_ret
  rw [HQ.out]
  exact ⟨rfl, H2.out, HG2.out⟩
set_option maxHeartbeats 2000000 in
theorem atEnd_no (W : World) (b : Nat) (T : ByteArray) (p : Nat) (c : UInt8) (hs : T.size ≤ 65536) (h : PsAt W b T p) (hc : (lst T)[p]? = some c) (hne : c ≠ 41) :
    Calls Tryz.prog 70 #[.pointer (some ⟨b, 0, none⟩)] W (PsR W b T (.bool false) p) := by
  obtain ⟨hp, hv⟩ := byte_in hc
  obtain ⟨c0, c1, f1⟩ := h.cell
  have H := hidd h
  have hne1 : ((p : Int) == (T.size : Int)) = false := by simp; omega
  have hpz : (p : Int) < (T.size : Int) := by omega
  have hcz : ((c.toNat : Int) == 41) = false := by
    rw [beq_eq_false_iff_ne]
    intro e
    exact hne (UInt8.toNat_inj.1 (by have : (41 : UInt8).toNat = 41 := rfl; omega))
  clear h hc
  go_enter Tryz.func70, Tryz.ntmps70
  go_wp2
  go_quiet (fail)
  go_wp2
  go_ret
  exact ⟨rfl, H.out, grown_drewP W nq (some b)⟩
set_option maxHeartbeats 2000000 in
theorem atEnd_yes (W : World) (b : Nat) (T : ByteArray) (hs : T.size ≤ 65536) (h : PsAt W b T T.size) :
    Calls Tryz.prog 70 #[.pointer (some ⟨b, 0, none⟩)] W (PsR W b T (.bool true) T.size) := by
  obtain ⟨c0, c1, f1⟩ := h.cell
  have H := hidd h
  have hne1 : ((T.size : Int) == (T.size : Int)) = true := by simp
  clear h
  go_enter Tryz.func70, Tryz.ntmps70
  go_wp2
  go_quiet (fail)
  go_wp2
  go_ret
  exact ⟨rfl, H.out, grown_drewP W nq (some b)⟩
theorem within_tW (r lo hi : Int) (w : World) (h : lo ≤ r ∧ r ≤ hi) : Calls Tryz.prog 36 #[.int .i64 r, .int .i64 lo, .int .i64 hi] w fun e w' => e = .returned (.bool true) ∧ w' = w := by
  refine (within_any r lo hi w).mono ?_
  rintro e w' ⟨rfl, rfl⟩
  exact ⟨by simp [h.1, h.2], rfl⟩
theorem within_fW (r lo hi : Int) (w : World) (h : ¬ (lo ≤ r ∧ r ≤ hi)) : Calls Tryz.prog 36 #[.int .i64 r, .int .i64 lo, .int .i64 hi] w fun e w' => e = .returned (.bool false) ∧ w' = w := by
  refine (within_any r lo hi w).mono ?_
  rintro e w' ⟨rfl, rfl⟩
  refine ⟨?_, rfl⟩
  congr 2
  by_cases h1 : lo ≤ r
  · simp [h1]; omega
  · simp [h1]
theorem exec_strIdx (W : World) (ρ : Operand → Value) (o : Oper) (x y : Operand) (ho : o.op = .index 9 x y) (T : ByteArray) (p : Nat) (c : UInt8) (hp : p < T.size) (hv : T[p] = c) (hx : ρ x = .string T) (hy : ρ y = .int .i64 (p : Int)) :
    (execOp ρ o).run Tryz.prog W = .ok (.value (.int .u8 (c.toNat : Int))) W := by
  have hpz : (p : Int) < (T.size : Int) := by omega
  unfold execOp
  simp only [ho, hx, hy, Sem.run_bind, Sem.run_pure, Result.andThen_ok]
  go_simp
theorem rbx_call3W (W : World) (a : Act) (o : Oper) (f : FuncId) (x y z : Operand) (t u q : TypeId) (ho : o.op = .call { callee := .value (.func f), args := #[x, y, z], argTypes := #[t, u, q] }) (v1 v2 v3 : Value) (hx : a.eval x = v1) (hy : a.eval y = v2) (hz : a.eval z = v3)
    (hf : (callFunc f #[v1, v2, v3]).run Tryz.prog W = .ok (.enter f #[v1, v2, v3]) W) : (execOp a.eval o).run Tryz.prog W = .ok (.enter f #[v1, v2, v3]) W := by
  have hfn : a.eval (.func f) = .func (.func f) #[] #[] := rfl
  unfold execOp
  simp [ho, resolve, invoke, Deferred.ofValue, hfn, hx, hy, hz, hf]
set_option maxHeartbeats 2000000 in
theorem atDigit_yes (W : World) (b : Nat) (T : ByteArray) (p : Nat) (c : UInt8) (hs : T.size ≤ 65536) (h : PsAt W b T p) (hc : (lst T)[p]? = some c) (h1 : 48 ≤ (c.toNat : Int)) (h2 : (c.toNat : Int) ≤ 57) :
    Calls Tryz.prog 101 #[.pointer (some ⟨b, 0, none⟩)] W (PsR W b T (.bool true) p) := by
  obtain ⟨hp, hv⟩ := byte_in hc
  obtain ⟨c0, c1, f1⟩ := h.cell
  have H := hidd h
  have hpz : (p : Int) < (T.size : Int) := by omega
  have hwr : IntKind.i64.wrap (c.toNat : Int) = (c.toNat : Int) := by rw [IntKind.wrap_i64]; have := c.toNat_lt; omega
  have HW : Hid (∀ V, Calls Tryz.prog 36 #[.int .i64 (c.toNat : Int), .int .i64 48, .int .i64 57] V fun e w' => e = .returned (.bool true) ∧ w' = V) := fun V => within_tW _ _ _ V ⟨h1, h2⟩
  clear h hc
  go_enter Tryz.func101, Tryz.ntmps101
  go_wp2
  refine wp_region_held (S := fun u => u.cell? ⟨b, 0, none⟩ = some (.string T) ∧ u.cell? ⟨b, 1, none⟩ = some (.int .i64 (p : Int))) (by kernel_rfl) ?_
  have hbd : W.grownBy ({ heap := W.heap, tape := W.tape, drawn := W.drawn + 1, os := W.os, output := W.output } : World) (some b) := grown_drewP W 1 (some b)
  have hHd : PsAt ({ heap := W.heap, tape := W.tape, drawn := W.drawn + 1, os := W.os, output := W.output } : World) b T p := H.out
  generalize ({ heap := W.heap, tape := W.tape, drawn := W.drawn + 1, os := W.os, output := W.output } : World) = Wd at *
  have hSd : (fun (u : World) => u.cell? ⟨b, 0, none⟩ = some (.string T) ∧ u.cell? ⟨b, 1, none⟩ = some (.int .i64 (p : Int))) Wd := ⟨hHd.cell.1, hHd.cell.2.1⟩
  try simp only [Act.put, List.getElem_toArray, List.getElem_cons_succ, List.getElem_cons_zero, List.setIfInBounds_toArray, List.set_cons_zero, List.set_cons_succ]
  refine tkX 0 (v := .pointer (some ⟨b, 0, none⟩)) (hS := hSd) (h := ?_)
  try simp only [Act.put, List.getElem_toArray, List.getElem_cons_succ, List.getElem_cons_zero, List.setIfInBounds_toArray, List.set_cons_zero, List.set_cons_succ]
  refine tkX 1 (v := .pointer (some ⟨b, 0, none⟩)) (hS := hSd) (h := ?_)
  try simp only [Act.put, List.getElem_toArray, List.getElem_cons_succ, List.getElem_cons_zero, List.setIfInBounds_toArray, List.set_cons_zero, List.set_cons_succ]
  refine tkX 2 (v := .pointer (some ⟨b, 1, none⟩)) (hS := hSd) (h := ?_)
  try simp only [Act.put, List.getElem_toArray, List.getElem_cons_succ, List.getElem_cons_zero, List.setIfInBounds_toArray, List.set_cons_zero, List.set_cons_succ]
  refine tkX 3 (v := .int .i64 (p : Int)) (hS := hSd) (h := ?_)
  try simp only [Act.put, List.getElem_toArray, List.getElem_cons_succ, List.getElem_cons_zero, List.setIfInBounds_toArray, List.set_cons_zero, List.set_cons_succ]
  refine tkX 4 (v := .pointer (some ⟨b, 0, none⟩)) (hS := hSd) (h := ?_)
  try simp only [Act.put, List.getElem_toArray, List.getElem_cons_succ, List.getElem_cons_zero, List.setIfInBounds_toArray, List.set_cons_zero, List.set_cons_succ]
  refine tkX 5 (v := .pointer (some ⟨b, 0, none⟩)) (hS := hSd) (h := ?_)
  try simp only [Act.put, List.getElem_toArray, List.getElem_cons_succ, List.getElem_cons_zero, List.setIfInBounds_toArray, List.set_cons_zero, List.set_cons_succ]
  refine tkX 6 (v := .pointer (some ⟨b, 0, none⟩)) (hS := hSd) (h := ?_)
  try simp only [Act.put, List.getElem_toArray, List.getElem_cons_succ, List.getElem_cons_zero, List.setIfInBounds_toArray, List.set_cons_zero, List.set_cons_succ]
  refine tkX 7 (v := .string T) (hS := hSd) (h := ?_)
  try simp only [Act.put, List.getElem_toArray, List.getElem_cons_succ, List.getElem_cons_zero, List.setIfInBounds_toArray, List.set_cons_zero, List.set_cons_succ]
  refine tkX 8 (v := .int .i64 (T.size : Int)) (hS := hSd) (h := ?_)
  try simp only [Act.put, List.getElem_toArray, List.getElem_cons_succ, List.getElem_cons_zero, List.setIfInBounds_toArray, List.set_cons_zero, List.set_cons_succ]
  refine tkX 9 (v := .bool true) (hS := hSd) (h := ?_)
  try simp only [Act.put, List.getElem_toArray, List.getElem_cons_succ, List.getElem_cons_zero, List.setIfInBounds_toArray, List.set_cons_zero, List.set_cons_succ]
  refine tkX 10 (v := .bool true) (hS := hSd) (h := ?_)
  try simp only [Act.put, List.getElem_toArray, List.getElem_cons_succ, List.getElem_cons_zero, List.setIfInBounds_toArray, List.set_cons_zero, List.set_cons_succ]
  refine tkX 11 (v := .pointer (some ⟨b, 0, none⟩)) (hS := hSd) (h := ?_)
  try simp only [Act.put, List.getElem_toArray, List.getElem_cons_succ, List.getElem_cons_zero, List.setIfInBounds_toArray, List.set_cons_zero, List.set_cons_succ]
  refine tkX 12 (v := .pointer (some ⟨b, 0, none⟩)) (hS := hSd) (h := ?_)
  try simp only [Act.put, List.getElem_toArray, List.getElem_cons_succ, List.getElem_cons_zero, List.setIfInBounds_toArray, List.set_cons_zero, List.set_cons_succ]
  refine tkX 13 (v := .pointer (some ⟨b, 0, none⟩)) (hS := hSd) (h := ?_)
  try simp only [Act.put, List.getElem_toArray, List.getElem_cons_succ, List.getElem_cons_zero, List.setIfInBounds_toArray, List.set_cons_zero, List.set_cons_succ]
  refine tkX 14 (v := .string T) (hS := hSd) (h := ?_)
  try simp only [Act.put, List.getElem_toArray, List.getElem_cons_succ, List.getElem_cons_zero, List.setIfInBounds_toArray, List.set_cons_zero, List.set_cons_succ]
  refine tkX 15 (v := .pointer (some ⟨b, 0, none⟩)) (hS := hSd) (h := ?_)
  try simp only [Act.put, List.getElem_toArray, List.getElem_cons_succ, List.getElem_cons_zero, List.setIfInBounds_toArray, List.set_cons_zero, List.set_cons_succ]
  refine tkX 16 (v := .pointer (some ⟨b, 0, none⟩)) (hS := hSd) (h := ?_)
  try simp only [Act.put, List.getElem_toArray, List.getElem_cons_succ, List.getElem_cons_zero, List.setIfInBounds_toArray, List.set_cons_zero, List.set_cons_succ]
  refine tkX 17 (v := .pointer (some ⟨b, 1, none⟩)) (hS := hSd) (h := ?_)
  try simp only [Act.put, List.getElem_toArray, List.getElem_cons_succ, List.getElem_cons_zero, List.setIfInBounds_toArray, List.set_cons_zero, List.set_cons_succ]
  refine tkX 18 (v := .int .i64 (p : Int)) (hS := hSd) (h := ?_)
  try simp only [Act.put, List.getElem_toArray, List.getElem_cons_succ, List.getElem_cons_zero, List.setIfInBounds_toArray, List.set_cons_zero, List.set_cons_succ]
  refine wpAnyH_take (i := 19) (v := .int .u8 (c.toNat : Int)) rfl (by kernel_rfl) (by kernel_rfl) (by kernel_rfl) (fun _ _ _ h => h) (Or.inl ⟨by kernel_rfl, fun W hW => exec_strIdx W _ _ _ _ rfl T p c hp hv (by kernel_rfl) (by kernel_rfl)⟩) hSd ?_
  try simp only [Act.put, List.getElem_toArray, List.getElem_cons_succ, List.getElem_cons_zero, List.setIfInBounds_toArray, List.set_cons_zero, List.set_cons_succ]
  refine tkX 20 (v := .int .i64 (c.toNat : Int)) (hS := hSd) (h := ?_)
  try simp only [Act.put, List.getElem_toArray, List.getElem_cons_succ, List.getElem_cons_zero, List.setIfInBounds_toArray, List.set_cons_zero, List.set_cons_succ]
  refine wpAnyH_one 21 (by kernel_rfl) ?_
  refine wpOp_call 36 #[.int .i64 (c.toNat : Int), .int .i64 48, .int .i64 57] rfl (by kernel_rfl) (rbx_call3W _ _ _ _ _ _ _ _ _ _ rfl _ _ _ (by kernel_rfl) (by kernel_rfl) (by kernel_rfl) (Tryz.call36 _ _)) ?_
  refine (HW.out _).mono ?_
  rintro e w3 ⟨rfl, hw3⟩
  obtain rfl := hw3.symm
  clear hw3
  refine ⟨hSd, ?_⟩
  try simp only [Act.put, List.getElem_toArray, List.getElem_cons_succ, List.getElem_cons_zero, List.setIfInBounds_toArray, List.set_cons_zero, List.set_cons_succ]
  refine tkX 22 (v := .bool true) (hS := hSd) (h := ?_)
  try simp only [Act.put, List.getElem_toArray, List.getElem_cons_succ, List.getElem_cons_zero, List.setIfInBounds_toArray, List.set_cons_zero, List.set_cons_succ]
  refine tkX 23 (v := .bool true) (hS := hSd) (h := ?_)
  try simp only [Act.put, List.getElem_toArray, List.getElem_cons_succ, List.getElem_cons_zero, List.setIfInBounds_toArray, List.set_cons_zero, List.set_cons_succ]
  refine wpAnyH_done (by kernel_rfl) ?_ _
  have HF := hidd (And.intro hHd hbd)
  clear hSd hHd hbd HW
  go_wp2_with fail
  go_ret
  exact ⟨rfl, HF.out.1, HF.out.2⟩
set_option maxHeartbeats 2000000 in
theorem atDigit_no (W : World) (b : Nat) (T : ByteArray) (p : Nat) (c : UInt8) (hs : T.size ≤ 65536) (h : PsAt W b T p) (hc : (lst T)[p]? = some c) (h1 : ¬ (48 ≤ (c.toNat : Int) ∧ (c.toNat : Int) ≤ 57)) :
    Calls Tryz.prog 101 #[.pointer (some ⟨b, 0, none⟩)] W (PsR W b T (.bool false) p) := by
  obtain ⟨hp, hv⟩ := byte_in hc
  obtain ⟨c0, c1, f1⟩ := h.cell
  have H := hidd h
  have hpz : (p : Int) < (T.size : Int) := by omega
  have hwr : IntKind.i64.wrap (c.toNat : Int) = (c.toNat : Int) := by rw [IntKind.wrap_i64]; have := c.toNat_lt; omega
  have HW : Hid (∀ V, Calls Tryz.prog 36 #[.int .i64 (c.toNat : Int), .int .i64 48, .int .i64 57] V fun e w' => e = .returned (.bool false) ∧ w' = V) := fun V => within_fW _ _ _ V h1
  clear h hc h1
  go_enter Tryz.func101, Tryz.ntmps101
  go_wp2
  refine wp_region_held (S := fun u => u.cell? ⟨b, 0, none⟩ = some (.string T) ∧ u.cell? ⟨b, 1, none⟩ = some (.int .i64 (p : Int))) (by kernel_rfl) ?_
  have hbd : W.grownBy ({ heap := W.heap, tape := W.tape, drawn := W.drawn + 1, os := W.os, output := W.output } : World) (some b) := grown_drewP W 1 (some b)
  have hHd : PsAt ({ heap := W.heap, tape := W.tape, drawn := W.drawn + 1, os := W.os, output := W.output } : World) b T p := H.out
  generalize ({ heap := W.heap, tape := W.tape, drawn := W.drawn + 1, os := W.os, output := W.output } : World) = Wd at *
  have hSd : (fun (u : World) => u.cell? ⟨b, 0, none⟩ = some (.string T) ∧ u.cell? ⟨b, 1, none⟩ = some (.int .i64 (p : Int))) Wd := ⟨hHd.cell.1, hHd.cell.2.1⟩
  try simp only [Act.put, List.getElem_toArray, List.getElem_cons_succ, List.getElem_cons_zero, List.setIfInBounds_toArray, List.set_cons_zero, List.set_cons_succ]
  refine tkX 0 (v := .pointer (some ⟨b, 0, none⟩)) (hS := hSd) (h := ?_)
  try simp only [Act.put, List.getElem_toArray, List.getElem_cons_succ, List.getElem_cons_zero, List.setIfInBounds_toArray, List.set_cons_zero, List.set_cons_succ]
  refine tkX 1 (v := .pointer (some ⟨b, 0, none⟩)) (hS := hSd) (h := ?_)
  try simp only [Act.put, List.getElem_toArray, List.getElem_cons_succ, List.getElem_cons_zero, List.setIfInBounds_toArray, List.set_cons_zero, List.set_cons_succ]
  refine tkX 2 (v := .pointer (some ⟨b, 1, none⟩)) (hS := hSd) (h := ?_)
  try simp only [Act.put, List.getElem_toArray, List.getElem_cons_succ, List.getElem_cons_zero, List.setIfInBounds_toArray, List.set_cons_zero, List.set_cons_succ]
  refine tkX 3 (v := .int .i64 (p : Int)) (hS := hSd) (h := ?_)
  try simp only [Act.put, List.getElem_toArray, List.getElem_cons_succ, List.getElem_cons_zero, List.setIfInBounds_toArray, List.set_cons_zero, List.set_cons_succ]
  refine tkX 4 (v := .pointer (some ⟨b, 0, none⟩)) (hS := hSd) (h := ?_)
  try simp only [Act.put, List.getElem_toArray, List.getElem_cons_succ, List.getElem_cons_zero, List.setIfInBounds_toArray, List.set_cons_zero, List.set_cons_succ]
  refine tkX 5 (v := .pointer (some ⟨b, 0, none⟩)) (hS := hSd) (h := ?_)
  try simp only [Act.put, List.getElem_toArray, List.getElem_cons_succ, List.getElem_cons_zero, List.setIfInBounds_toArray, List.set_cons_zero, List.set_cons_succ]
  refine tkX 6 (v := .pointer (some ⟨b, 0, none⟩)) (hS := hSd) (h := ?_)
  try simp only [Act.put, List.getElem_toArray, List.getElem_cons_succ, List.getElem_cons_zero, List.setIfInBounds_toArray, List.set_cons_zero, List.set_cons_succ]
  refine tkX 7 (v := .string T) (hS := hSd) (h := ?_)
  try simp only [Act.put, List.getElem_toArray, List.getElem_cons_succ, List.getElem_cons_zero, List.setIfInBounds_toArray, List.set_cons_zero, List.set_cons_succ]
  refine tkX 8 (v := .int .i64 (T.size : Int)) (hS := hSd) (h := ?_)
  try simp only [Act.put, List.getElem_toArray, List.getElem_cons_succ, List.getElem_cons_zero, List.setIfInBounds_toArray, List.set_cons_zero, List.set_cons_succ]
  refine tkX 9 (v := .bool true) (hS := hSd) (h := ?_)
  try simp only [Act.put, List.getElem_toArray, List.getElem_cons_succ, List.getElem_cons_zero, List.setIfInBounds_toArray, List.set_cons_zero, List.set_cons_succ]
  refine tkX 10 (v := .bool true) (hS := hSd) (h := ?_)
  try simp only [Act.put, List.getElem_toArray, List.getElem_cons_succ, List.getElem_cons_zero, List.setIfInBounds_toArray, List.set_cons_zero, List.set_cons_succ]
  refine tkX 11 (v := .pointer (some ⟨b, 0, none⟩)) (hS := hSd) (h := ?_)
  try simp only [Act.put, List.getElem_toArray, List.getElem_cons_succ, List.getElem_cons_zero, List.setIfInBounds_toArray, List.set_cons_zero, List.set_cons_succ]
  refine tkX 12 (v := .pointer (some ⟨b, 0, none⟩)) (hS := hSd) (h := ?_)
  try simp only [Act.put, List.getElem_toArray, List.getElem_cons_succ, List.getElem_cons_zero, List.setIfInBounds_toArray, List.set_cons_zero, List.set_cons_succ]
  refine tkX 13 (v := .pointer (some ⟨b, 0, none⟩)) (hS := hSd) (h := ?_)
  try simp only [Act.put, List.getElem_toArray, List.getElem_cons_succ, List.getElem_cons_zero, List.setIfInBounds_toArray, List.set_cons_zero, List.set_cons_succ]
  refine tkX 14 (v := .string T) (hS := hSd) (h := ?_)
  try simp only [Act.put, List.getElem_toArray, List.getElem_cons_succ, List.getElem_cons_zero, List.setIfInBounds_toArray, List.set_cons_zero, List.set_cons_succ]
  refine tkX 15 (v := .pointer (some ⟨b, 0, none⟩)) (hS := hSd) (h := ?_)
  try simp only [Act.put, List.getElem_toArray, List.getElem_cons_succ, List.getElem_cons_zero, List.setIfInBounds_toArray, List.set_cons_zero, List.set_cons_succ]
  refine tkX 16 (v := .pointer (some ⟨b, 0, none⟩)) (hS := hSd) (h := ?_)
  try simp only [Act.put, List.getElem_toArray, List.getElem_cons_succ, List.getElem_cons_zero, List.setIfInBounds_toArray, List.set_cons_zero, List.set_cons_succ]
  refine tkX 17 (v := .pointer (some ⟨b, 1, none⟩)) (hS := hSd) (h := ?_)
  try simp only [Act.put, List.getElem_toArray, List.getElem_cons_succ, List.getElem_cons_zero, List.setIfInBounds_toArray, List.set_cons_zero, List.set_cons_succ]
  refine tkX 18 (v := .int .i64 (p : Int)) (hS := hSd) (h := ?_)
  try simp only [Act.put, List.getElem_toArray, List.getElem_cons_succ, List.getElem_cons_zero, List.setIfInBounds_toArray, List.set_cons_zero, List.set_cons_succ]
  refine wpAnyH_take (i := 19) (v := .int .u8 (c.toNat : Int)) rfl (by kernel_rfl) (by kernel_rfl) (by kernel_rfl) (fun _ _ _ h => h) (Or.inl ⟨by kernel_rfl, fun W hW => exec_strIdx W _ _ _ _ rfl T p c hp hv (by kernel_rfl) (by kernel_rfl)⟩) hSd ?_
  try simp only [Act.put, List.getElem_toArray, List.getElem_cons_succ, List.getElem_cons_zero, List.setIfInBounds_toArray, List.set_cons_zero, List.set_cons_succ]
  refine tkX 20 (v := .int .i64 (c.toNat : Int)) (hS := hSd) (h := ?_)
  try simp only [Act.put, List.getElem_toArray, List.getElem_cons_succ, List.getElem_cons_zero, List.setIfInBounds_toArray, List.set_cons_zero, List.set_cons_succ]
  refine wpAnyH_one 21 (by kernel_rfl) ?_
  refine wpOp_call 36 #[.int .i64 (c.toNat : Int), .int .i64 48, .int .i64 57] rfl (by kernel_rfl) (rbx_call3W _ _ _ _ _ _ _ _ _ _ rfl _ _ _ (by kernel_rfl) (by kernel_rfl) (by kernel_rfl) (Tryz.call36 _ _)) ?_
  refine (HW.out _).mono ?_
  rintro e w3 ⟨rfl, hw3⟩
  obtain rfl := hw3.symm
  clear hw3
  refine ⟨hSd, ?_⟩
  try simp only [Act.put, List.getElem_toArray, List.getElem_cons_succ, List.getElem_cons_zero, List.setIfInBounds_toArray, List.set_cons_zero, List.set_cons_succ]
  refine tkX 22 (v := .bool false) (hS := hSd) (h := ?_)
  try simp only [Act.put, List.getElem_toArray, List.getElem_cons_succ, List.getElem_cons_zero, List.setIfInBounds_toArray, List.set_cons_zero, List.set_cons_succ]
  refine tkX 23 (v := .bool false) (hS := hSd) (h := ?_)
  try simp only [Act.put, List.getElem_toArray, List.getElem_cons_succ, List.getElem_cons_zero, List.setIfInBounds_toArray, List.set_cons_zero, List.set_cons_succ]
  refine wpAnyH_done (by kernel_rfl) ?_ _
  have HF := hidd (And.intro hHd hbd)
  clear hSd hHd hbd HW
  go_wp2_with fail
  go_ret
  exact ⟨rfl, HF.out.1, HF.out.2⟩
end Go.Proofs.YtpdiaddgialanaaGreatDoor
