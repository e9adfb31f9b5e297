import Derived.Test.YtpdiaddgialanaaGreatDoorLogJ02
namespace Go.Proofs.YtpdiaddgialanaaGreatDoor
open Go Go.RowKit
set_option linter.unusedVariables false
set_option linter.unusedSimpArgs false
set_option maxRecDepth 100000

theorem w64_of {z : Int} (h1 : -9223372036854775808 ≤ z) (h2 : z ≤ 9223372036854775807) : IntKind.i64.wrap z = z := IntWalk.i64_in _ ⟨by omega, by omega⟩
theorem exec_loadYs (W : World) (ρ : Operand → Value) (o : Oper) (x : Operand) (ho : o.op = .load 112 x) (b off : Nat) (v : Value) (hv : ∃ a n c, v = .slice a n c) (hx : ρ x = .pointer (some ⟨b, off, none⟩))
    (h0 : W.cell? ⟨b, off, none⟩ = some v) : (execOp ρ o).run Tryz.prog W = .ok (.value v) W := by
  obtain ⟨a, n, c, rfl⟩ := hv
  unfold execOp
  simp only [ho, Instr.loadAt, Instr.sureAddr, hx, Sem.run_bind, Sem.run_pure, Result.andThen_ok]
  go_simp
theorem exec_loadY (W : World) (ρ : Operand → Value) (o : Oper) (x : Operand) (ho : o.op = .load 151 x) (b off : Nat) (u0 u1 : Value) (hx : ρ x = .pointer (some ⟨b, off, none⟩))
    (h0 : W.cell? ⟨b, off, none⟩ = some u0) (h1 : W.cell? ⟨b, off + 1, none⟩ = some u1) :
    (execOp ρ o).run Tryz.prog W = .ok (.value (.agg #[u0, u1])) W := by
  unfold execOp
  simp only [ho, Instr.loadAt, Instr.sureAddr, hx, Sem.run_bind, Sem.run_pure, Result.andThen_ok]
  go_simp
theorem exec_indexY (W : World) (ρ : Operand → Value) (o : Oper) (x y : Operand) (ho : o.op = .indexAddr 112 x y) (T X : Nat) (hx : ρ x = .slice (some ⟨T, 0, none⟩) 5 5) (hy : ρ y = .int .i64 (X : Int)) (h : X < 5) :
    (execOp ρ o).run Tryz.prog W = .ok (.value (.pointer (some ⟨T, X * 2, none⟩))) W := by
  unfold execOp
  simp only [ho, hx, hy, Sem.run_bind, Sem.run_pure, Result.andThen_ok]
  match X, h with
  | 0, _ => go_simp
  | 1, _ => go_simp
  | 2, _ => go_simp
  | 3, _ => go_simp
  | 4, _ => go_simp
theorem exec_storeYs (W : World) (ρ : Operand → Value) (o : Oper) (x y : Operand) (ho : o.op = .store 112 x y) (b off : Nat) (a : Option Addr) (n c : Nat) (u : Value) (hx : ρ x = .pointer (some ⟨b, off, none⟩)) (hy : ρ y = .slice a n c)
    (h0 : W.cell? ⟨b, off, none⟩ = some u) (hf : W.frozen? ⟨b, off, none⟩ = false) : (execOp ρ o).run Tryz.prog W = .ok .skip (W.setCell ⟨b, off, none⟩ (.slice a n c)) := by
  unfold execOp
  simp only [ho, Instr.storeAt, Instr.sureAddr, hx, hy, Sem.run_bind, Sem.run_pure, Result.andThen_ok]
  go_simp
theorem exec_storeI (W : World) (ρ : Operand → Value) (o : Oper) (x y : Operand) (ho : o.op = .store 3 x y) (b off : Nat) (z : Int) (u : Value) (hx : ρ x = .pointer (some ⟨b, off, none⟩)) (hy : ρ y = .int .i64 z)
    (h0 : W.cell? ⟨b, off, none⟩ = some u) (hf : W.frozen? ⟨b, off, none⟩ = false) : (execOp ρ o).run Tryz.prog W = .ok .skip (W.setCell ⟨b, off, none⟩ (.int .i64 z)) := by
  unfold execOp
  simp only [ho, Instr.storeAt, Instr.sureAddr, hx, hy, Sem.run_bind, Sem.run_pure, Result.andThen_ok]
  go_simp
theorem exec_buildY (W : World) (ρ : Operand → Value) (o : Oper) (x : Operand) (ho : o.op = .buildSlice 112 1 #[(0, x)]) (u0 u1 : Value) (hx : ρ x = .agg #[u0, u1]) :
    (execOp ρ o).run Tryz.prog W = .ok (.value (.slice (some ⟨W.heap.size, 0, none⟩) 1 1)) (W.alloc (.cells #[u0, u1] 151)) := by
  unfold execOp
  simp only [ho, hx, Sem.run_bind, Sem.run_pure, Result.andThen_ok]
  go_simp
theorem exec_build5 (W : World) (ρ : Operand → Value) (o : Oper) (x0 x1 x2 x3 x4 : Operand) (ho : o.op = .buildSlice 112 5 #[(0, x0), (1, x1), (2, x2), (3, x3), (4, x4)]) (u0 u1 u2 u3 u4 u5 u6 u7 u8 u9 : Value) (h0 : ρ x0 = .agg #[u0, u1]) (h1 : ρ x1 = .agg #[u2, u3]) (h2 : ρ x2 = .agg #[u4, u5]) (h3 : ρ x3 = .agg #[u6, u7]) (h4 : ρ x4 = .agg #[u8, u9]) :
    (execOp ρ o).run Tryz.prog W = .ok (.value (.slice (some ⟨W.heap.size, 0, none⟩) 5 5)) (W.alloc (.cells #[u0, u1, u2, u3, u4, u5, u6, u7, u8, u9] 151)) := by
  unfold execOp
  simp only [ho, h0, h1, h2, h3, h4, Sem.run_bind, Sem.run_pure, Result.andThen_ok]
  go_simp
theorem synTab {W : World} {T : Nat} (h : W.heap[T]? = some (.cells #[.string ⟨#[99, 97, 116]⟩, .string ⟨#[102, 101, 108, 105, 110, 101]⟩, .string ⟨#[114, 117, 110]⟩, .string ⟨#[114, 117, 110, 110, 105, 110, 103]⟩, .string ⟨#[104, 111, 117, 115, 101]⟩, .string ⟨#[104, 111, 109, 101]⟩, .string ⟨#[113, 117, 105, 99, 107]⟩, .string ⟨#[102, 97, 115, 116]⟩, .string ⟨#[114, 117, 110, 110, 105, 110, 103]⟩, .string ⟨#[106, 111, 103]⟩] 151)) (X : Nat) (hX : X < 5) : ∃ y : List UInt8 × List UInt8, W.cell? ⟨T, X * 2, none⟩ = some (.string (bs y.1)) ∧ W.cell? ⟨T, X * 2 + 1, none⟩ = some (.string (bs y.2)) ∧ y.1.length ≤ 16 ∧ y.2.length ≤ 16 := by
  match X, hX with
  | 0, _ => exact ⟨([99, 97, 116], [102, 101, 108, 105, 110, 101]), blkc h 0, blkc h 1, by decide, by decide⟩
  | 1, _ => exact ⟨([114, 117, 110], [114, 117, 110, 110, 105, 110, 103]), blkc h 2, blkc h 3, by decide, by decide⟩
  | 2, _ => exact ⟨([104, 111, 117, 115, 101], [104, 111, 109, 101]), blkc h 4, blkc h 5, by decide, by decide⟩
  | 3, _ => exact ⟨([113, 117, 105, 99, 107], [102, 97, 115, 116]), blkc h 6, blkc h 7, by decide, by decide⟩
  | 4, _ => exact ⟨([114, 117, 110, 110, 105, 110, 103], [106, 111, 103]), blkc h 8, blkc h 9, by decide, by decide⟩
theorem ownSl {w : World} {base e sz n : Nat} {v : Value} {xs : List Value} (h : w.ownsRow base e sz v n xs) : ∃ a m c, v = .slice a m c := by
  rcases h.2 with ⟨rfl, _⟩ | ⟨g, c, cur, rfl, _⟩
  · exact ⟨_, _, _, rfl⟩
  · exact ⟨_, _, _, rfl⟩
theorem DA.more {w W w3 : World} {b : Nat} {ao : Option Addr} {n cap : Nat} {A : Int} {R BX : Nat} {fo st ph : Bool} {aS : Option Addr} {cS : Nat} {stops : List (List UInt8)} {vY : Value} {syns : List (List UInt8 × List UInt8)} {lo hi : Int} (h : DA w W b ao n cap A R BX fo st ph aS cS stops vY syns lo hi)
    (hne : aS = none ∨ stops ≠ []) (hsep : ∀ blk off, aS = some ⟨blk, off, none⟩ → vY.ownBlock ≠ some blk) {y : List UInt8 × List UInt8} {g cp : Nat} (hown : w3.ownsRow (BX + 1) 151 2 (.slice (some ⟨g, 0, none⟩) (syns.length + 1) cp) (syns.length + 1) (yCells syns ++ [.string (bs y.1), .string (bs y.2)]))
    (hg : W.grownBy w3 vY.ownBlock) (hat : vY.ownBlock = some g ∨ g = W.heap.size) :
    DA w (w3.setCell ⟨BX, 4, none⟩ (.slice (some ⟨g, 0, none⟩) (syns.length + 1) cp)) b ao n cap A R BX fo st ph aS cS stops (.slice (some ⟨g, 0, none⟩) (syns.length + 1) cp) (syns ++ [y]) lo hi ∧ ∀ blk off, aS = some ⟨blk, off, none⟩ → (Value.slice (some ⟨g, 0, none⟩) (syns.length + 1) cp).ownBlock ≠ some blk := by
  refine ⟨h.setY ?_ hg hsep, fun blk off e e2 => ?_⟩
  · rw [yCells_snoc, show (syns ++ [y]).length = syns.length + 1 from List.length_append]
    exact hown
  · have e3 : g = blk := Option.some.inj e2
    rcases hat with h1 | h1
    · exact hsep blk off e (by rw [h1, e3])
    · rcases hne with h2 | h2
      · rw [h2] at e; cases e
      · rcases h.stp with h3 | ⟨b', off', e1, e4, _⟩
        · exact h2 h3
        · rw [e] at e1
          cases e1
          omega
theorem arr7 {cs : Array Value} (h : cs.size = 7) : ∃ r0 r1 r2 r3 r4 r5 r6, cs = #[r0, r1, r2, r3, r4, r5, r6] := by
  rcases cs with ⟨l⟩
  match l, h with
  | [a, b, c, d, e, f, g], _ => exact ⟨a, b, c, d, e, f, g, rfl⟩
theorem DA.setR {w W : World} {b : Nat} {ao : Option Addr} {n cap : Nat} {A : Int} {R BX : Nat} {fo st ph : Bool} {aS : Option Addr} {cS : Nat} {stops : List (List UInt8)} {vY : Value} {syns : List (List UInt8 × List UInt8)} {lo hi : Int} (h : DA w W b ao n cap A R BX fo st ph aS cS stops vY syns lo hi) (k : Nat) (u : Value) :
    DA w (W.setCell ⟨R, k, none⟩ u) b ao n cap A R BX fo st ph aS cS stops vY syns lo hi := by
  have h1 := h.bl
  have h2 := h.rl
  have h3 := h.xl
  have hg : ∀ g, g ≠ R → (W.setCell ⟨R, k, none⟩ u).heap[g]? = W.heap[g]? := fun g hne => heap_set_other W R k u g hne
  obtain ⟨cs, hr1, hr2⟩ := h.res
  refine ⟨h.src.set R k u (by omega) (fun j hj => ?_), ⟨h.but.os, h.but.tape, h.but.output, by have := h.but.size; simpa using this, fun i hi hn => (hg i (by omega)).trans (h.but.block i hi hn)⟩, ⟨_, blk_setk hr1 k u, by rw [Array.size_setIfInBounds]; exact hr2⟩, (hg BX (by omega)).trans h.box, holdS_heap h.stp (by simp) (fun blk off e => hg blk (by have := h.stb blk off e; omega)), h.stb, own2_heap h.syn (fun g e => hg g (by have := (own2_base h.syn g e).1; omega)), h1, h2, h3, h.cb⟩
  obtain ⟨blk, off, q1, q2⟩ := h.cb j hj
  exact ⟨blk, off, q1, by omega⟩
/-- An analyser was drawn. -/
def DrawnA (w : World) (b : Nat) (ao : Option Addr) (n cap : Nat) (A : Int) (e : Ending) (w' : World) : Prop :=
  ∃ (fo st ph : Bool) (aS aY : Option Addr) (cS cY : Nat) (stops : List (List UInt8)) (syns : List (List UInt8 × List UInt8)) (lo hi : Int), e = .returned (.agg #[.bool fo, .bool st, .bool ph, .slice aS stops.length cS, .slice aY syns.length cY, .int .i64 lo, .int .i64 hi]) ∧ Sx b ao n cap w' A ∧ But (fun x => x = b) w w' ∧ HoldS w' aS stops ∧ HoldY w' aY syns ∧
    (∀ blk off, aS = some ⟨blk, off, none⟩ → w.heap.size ≤ blk ∧ blk < w'.heap.size) ∧ (∀ blk off, aY = some ⟨blk, off, none⟩ → w.heap.size ≤ blk ∧ blk < w'.heap.size) ∧ stops.length ≤ 100 ∧ syns.length ≤ 100 ∧ szS stops ∧ szY syns ∧ -100 ≤ lo ∧ lo ≤ 100 ∧ -100 ≤ hi ∧ hi ≤ 100 ∧ (aS = none → cS = 0) ∧ (aY = none → cY = 0)
theorem DA.drawn {w W : World} {b : Nat} {ao : Option Addr} {n cap : Nat} {A A' : Int} {R BX : Nat} {fo st ph : Bool} {aS aY : Option Addr} {cS nY cY : Nat} {stops : List (List UInt8)} {syns : List (List UInt8 × List UInt8)} {lo hi : Int} (h : DA w W b ao n cap A R BX fo st ph aS cS stops (.slice aY nY cY) syns lo hi) (hA : A ≤ A')
    (h1 : stops.length ≤ 4) (h2 : ∀ t, t < stops.length → (stops.getD t []).length ≤ 16) (h3 : syns.length ≤ 100) (h4 : ∀ y ∈ syns, y.1.length ≤ 16 ∧ y.2.length ≤ 16) (hne : (aS = none ∧ cS = 0) ∨ stops ≠ []) (h5 : -100 ≤ lo) (h6 : lo ≤ 100) (h7 : -100 ≤ hi) (h8 : hi ≤ 100) :
    DrawnA w b ao n cap A' (.returned (.agg #[.bool fo, .bool st, .bool ph, .slice aS stops.length cS, .slice aY nY cY, .int .i64 lo, .int .i64 hi])) W := by
  have hz := h.but.size
  have e : nY = syns.length ∧ HoldY W aY syns ∧ (∀ blk off, aY = some ⟨blk, off, none⟩ → w.heap.size ≤ blk ∧ blk < W.heap.size) ∧ (aY = none → cY = 0) := by
    have hs := h.syn
    have hl := yCells_len syns
    rcases hs.2 with ⟨e1, e2⟩ | ⟨g, c, cur, e1, e2, e3, e4⟩
    · injection e1 with q1 q2 q3
      subst q1 q2 q3
      have : syns.length = 0 := by omega
      exact ⟨this.symm, Or.inl (List.length_eq_zero_iff.1 this), (fun blk off e => by cases e), fun _ => rfl⟩
    · injection e1 with q1 q2 q3
      subst q1 q2 q3
      refine ⟨rfl, holdY_own hs, fun blk off e => ?_, fun e => by cases e⟩
      cases e
      have := h.rl
      have := h.xl
      have := (Array.getElem?_eq_some_iff.1 e3).1
      exact ⟨by omega, this⟩
  obtain ⟨rfl, e2, e3, e4⟩ := e
  refine ⟨fo, st, ph, aS, aY, cS, cY, stops, syns, lo, hi, rfl, h.src.mono hA, h.but, h.stp, e2, fun blk off e => ?_, e3, by omega, h3, fun t ht => ?_, fun t ht => ?_, h5, h6, h7, h8, fun e => ?_, e4⟩
  · have := h.stb blk off e
    have := h.rl
    have := h.xl
    refine ⟨by omega, ?_⟩
    rcases hne with h' | h'
    · rw [h'.1] at e; cases e
    · rcases h.stp with q | ⟨_, _, q, q2, _⟩
      · exact absurd q h'
      · rw [e] at q; cases q; exact q2
  · rw [bs_size]
    have := h2 t ht
    omega
  · have hm : syns.getD t ([], []) ∈ syns := by
      rw [List.getD_eq_getElem?_getD, List.getElem?_eq_getElem ht, Option.getD_some]
      exact List.getElem_mem _
    have := h4 _ hm
    rw [bs_size, bs_size]
    omega
  · rcases hne with h' | h'
    · exact h'.2
    · rcases h.stp with q | ⟨_, _, q, _⟩
      · exact absurd q h'
      · rw [e] at q; cases q
end Go.Proofs.YtpdiaddgialanaaGreatDoor
