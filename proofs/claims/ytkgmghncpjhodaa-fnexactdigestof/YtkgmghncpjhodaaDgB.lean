import Derived.Test.YtkgmghncpjhodaaDgK
namespace Go.Proofs.Ytkgmghncpjhodaa
open Go Go.RowKit
set_option linter.unusedVariables false
set_option linter.unusedSimpArgs false
set_option maxRecDepth 100000

/-! What the laws of digests want besides. -/
def szL (left : Int) (n : Nat) : Int := if left < (n : Int) then -1 else left - (n : Int)
theorem szL_ok {left : Int} {n : Nat} (h : ¬ szL left n < 0) : (n : Int) ≤ left := by unfold szL at h; split at h <;> omega
theorem szIntsL_any (ad : Option Addr) (n cap : Nat) (left : Int) (w : World) (h0 : 0 ≤ left) (h1 : left ≤ 1048576) (hn : n ≤ 9223372036854775807) :
    Calls Try.prog 29 #[.slice ad n cap, .int .i64 left] w fun e w' => e = .returned (.int .i64 (szL left n)) ∧ w' = w := by
  by_cases h : left < (n : Int)
  · have HE : Hid (szL left n = -1) := by show _ = _; unfold szL; rw [if_pos h]
    have h1 : left - (n : Int) < 0 := by omega
    go_enter Try.func29, Try.ntmps29
    go_wp2
    go_ret
    rw [HE.out]
    exact ⟨rfl, rfl⟩
  · have HE : Hid (szL left n = left - (n : Int)) := by show _ = _; unfold szL; rw [if_neg h]
    have h1 : ¬ left - (n : Int) < 0 := by omega
    go_enter Try.func29, Try.ntmps29
    go_wp2
    go_ret
    rw [HE.out]
    exact ⟨rfl, rfl⟩
set_option maxHeartbeats 1000000 in
theorem szDigestL_any (s p c : Int) (ad : Option Addr) (n cap : Nat) (left : Int) (w : World) (h0 : 0 ≤ left) (h1 : left ≤ 1048576) (hn : n ≤ 9223372036854775807) :
    Calls Try.prog 9 #[.agg #[.int .i64 s, .int .i64 p, .int .i64 c, .slice ad n cap], .int .i64 left] w fun e w' => e = .returned (.int .i64 (szL left n)) ∧ Below w.heap.size w w' := by
  have HBa : Hid (Below w.heap.size w (w.alloc (.cells #[.int .i64 s, .int .i64 p, .int .i64 c, .slice ad n cap] 24))) := (Below.refl _ _).alloc (Nat.le_refl _) _
  have hge : -1 ≤ szL left n := by unfold szL; split <;> omega
  have HC : Hid (∀ W, Calls Try.prog 29 #[.slice ad n cap, .int .i64 left] W fun e w' => e = .returned (.int .i64 (szL left n)) ∧ w' = W) := fun W => szIntsL_any ad n cap left W h0 h1 hn
  generalize szL left n = X at *
  go_enter Try.func9, Try.ntmps9
  go_wp2_with fail
  refine (HC.out _).mono ?_
  rintro e w1 ⟨rfl, rfl⟩
  by_cases hX : X < 0
  · obtain rfl : X = -1 := by omega
    go_wp2_with fail
    go_ret
    exact ⟨rfl, HBa.out⟩
  · go_wp2_with fail
    go_ret
    exact ⟨rfl, HBa.out⟩
set_option maxHeartbeats 1000000 in
theorem markDigestL_own (s p c : Int) (base n : Nat) (v : Value) (xs : List Value) (k : Int) (w : World) (hn : n ≤ 1048576) (hk0 : 0 ≤ k) (hk1 : k ≤ 1099511627776) (h : w.ownsRow base 3 1 v n xs) :
    Calls Try.prog 20 #[.agg #[.int .i64 s, .int .i64 p, .int .i64 c, v], .int .i64 k] w fun e w' => e = .returned (.int .i64 (k + (n : Int))) ∧ w'.ownsRow base 3 1 v n (marks k n) ∧ w.grownBy w' v.ownBlock := by
  have HC := hidd (markInts_own base n v xs k (w.alloc (.cells #[.int .i64 s, .int .i64 p, .int .i64 c, v] 27)) hn hk0 hk1 (h.alloc _))
  have HG : Hid (w.grownBy (w.alloc (.cells #[.int .i64 s, .int .i64 p, .int .i64 c, v] 27)) v.ownBlock) := ⟨rfl, rfl, rfl, by simp, fun i hi _ => Below.heap_alloc _ _ _ hi⟩
  have hv1 : ∃ a1 c1, v = .slice a1 n c1 := by
    rcases own_cases h with ⟨rfl, h0⟩ | ⟨g, cap, rfl, _, _⟩
    · exact ⟨_, _, by rw [h0]⟩
    · exact ⟨_, _, rfl⟩
  clear h
  obtain ⟨a1, c1, rfl⟩ := hv1
  go_enter Try.func20, Try.ntmps20
  go_wp2_with fail
  refine HC.out.mono ?_
  rintro e w1 ⟨rfl, h1, h2⟩
  have H1 := hidd h1
  have H2 := hidd (grown_trans HG.out h2)
  clear h1 h2
  go_wp2_with fail
  go_ret
  exact ⟨rfl, H1.out, H2.out⟩
theorem own_sl1 {W : World} {base e n : Nat} {v : Value} {xs : List Value} (h : W.ownsRow base e 1 v n xs) : ∃ ad cap, v = .slice ad n cap := by
  rcases h.2 with ⟨h1, h2⟩ | ⟨g, cap, _, h1, _⟩
  · exact ⟨none, 0, by rw [h1, h2]⟩
  · exact ⟨_, cap, h1⟩
theorem exec_allocD (W : World) (ρ : Operand → Value) (o : Oper) (ho : o.op = .alloc 27) : (execOp ρ o).run Try.prog W = .ok (.value (.pointer (some ⟨W.heap.size, 0, none⟩))) (W.alloc (.cells #[.int .i64 0, .int .i64 0, .int .i64 0, .slice none 0 0] 27)) := by
  unfold execOp
  simp only [ho, Sem.run_bind, Sem.run_pure, Result.andThen_ok]
  go_simp
theorem exec_loadL (W : World) (ρ : Operand → Value) (o : Oper) (x : Operand) (ho : o.op = .load 24 x) (b : Nat) (x0 x1 x2 : Int) (a3 : Option Addr) (n3 c3 : Nat) (hx : ρ x = .pointer (some ⟨b, 0, none⟩))
    (h : W.heap[b]? = some (.cells #[.int .i64 x0, .int .i64 x1, .int .i64 x2, .slice a3 n3 c3] 24)) : (execOp ρ o).run Try.prog W = .ok (.value (.agg #[.int .i64 x0, .int .i64 x1, .int .i64 x2, .slice a3 n3 c3])) W := by
  have c0' : W.cell? ⟨b, 0, none⟩ = some (.int .i64 x0) := blkc h 0
  have c1' : W.cell? ⟨b, 1, none⟩ = some (.int .i64 x1) := blkc h 1
  have c2' : W.cell? ⟨b, 2, none⟩ = some (.int .i64 x2) := blkc h 2
  have c3' : W.cell? ⟨b, 3, none⟩ = some (.slice a3 n3 c3) := blkc h 3
  clear h
  unfold execOp
  simp only [ho, hx, Sem.run_bind, Sem.run_pure, Result.andThen_ok]
  go_simp
theorem exec_loadD (W : World) (ρ : Operand → Value) (o : Oper) (x : Operand) (ho : o.op = .load 27 x) (b : Nat) (x0 x1 x2 : Int) (a3 : Option Addr) (n3 c3 : Nat) (hx : ρ x = .pointer (some ⟨b, 0, none⟩))
    (h : W.heap[b]? = some (.cells #[.int .i64 x0, .int .i64 x1, .int .i64 x2, .slice a3 n3 c3] 27)) : (execOp ρ o).run Try.prog W = .ok (.value (.agg #[.int .i64 x0, .int .i64 x1, .int .i64 x2, .slice a3 n3 c3])) W := by
  have c0' : W.cell? ⟨b, 0, none⟩ = some (.int .i64 x0) := blkc h 0
  have c1' : W.cell? ⟨b, 1, none⟩ = some (.int .i64 x1) := blkc h 1
  have c2' : W.cell? ⟨b, 2, none⟩ = some (.int .i64 x2) := blkc h 2
  have c3' : W.cell? ⟨b, 3, none⟩ = some (.slice a3 n3 c3) := blkc h 3
  clear h
  unfold execOp
  simp only [ho, hx, Sem.run_bind, Sem.run_pure, Result.andThen_ok]
  go_simp
/-- A digest in a box, with a row of its own. -/
structure Bx (W : World) (base B : Nat) (js jp jc : Int) (ad : Option Addr) (n cp : Nat) (xs : List Value) : Prop where
  box : W.heap[B]? = some (.cells #[.int .i64 js, .int .i64 jp, .int .i64 jc, .slice ad n cp] 27)
  row : W.ownsRow base 3 1 (.slice ad n cp) n xs
theorem Bx.below {W W' : World} {base B : Nat} {js jp jc : Int} {ad : Option Addr} {n cp : Nat} {xs : List Value} (h : Bx W base B js jp jc ad n cp xs) (hb : Below W.heap.size W W') : Bx W' base B js jp jc ad n cp xs := ⟨blko h.box hb, own_below h.row hb⟩
theorem Bx.grown {W W' : World} {base B g : Nat} {js jp jc : Int} {ad : Option Addr} {n cp : Nat} {xs : List Value} {cur : Array Value} (h : Bx W base B js jp jc ad n cp xs) (hg : W.grownBy W' (some g)) (hgt : W.heap[g]? = some (.cells cur 3)) (hne : ∀ b, (Value.slice ad n cp).ownBlock = some b → b ≠ g) : Bx W' base B js jp jc ad n cp xs :=
  ⟨(hg.block B (Array.getElem?_eq_some_iff.1 h.box).1 (fun e => blk_ne h.box hgt (by decide) (Option.some.inj e))).trans h.box, own_congr h.row (fun b hb => hg.block b (by
      obtain ⟨_, cur', h5⟩ := own_blk h.row hb
      exact (Array.getElem?_eq_some_iff.1 h5).1) (fun e => hne b hb (Option.some.inj e)))⟩
def CutJ (w2 : World) (js jp jc : Int) (jz : List Int) (code : Int) (v c : Value) (wy : World) : Prop :=
  ∃ (B : Nat) (ad : Option Addr) (cp : Nat), v = .pointer (some ⟨B, 0, none⟩) ∧ c = .int .i64 code ∧ Bx wy w2.heap.size B js jp jc ad jz.length cp (zI jz) ∧ Below w2.heap.size w2 wy
end Go.Proofs.Ytkgmghncpjhodaa
