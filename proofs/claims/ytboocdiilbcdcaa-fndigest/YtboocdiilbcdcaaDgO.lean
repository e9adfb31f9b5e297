import Derived.Test.YtboocdiilbcdcaaDgBd
namespace Go.Proofs.Ytboocdiilbcdcaa
open Go Go.RowKit
set_option linter.unusedVariables false
set_option linter.unusedSimpArgs false
set_option maxRecDepth 100000

/-! DigestOf: what both come to, and a row in a box that grows. -/
def evk (s : Nat) (zs : List Int) (k : Nat) : List Int := (List.range k).map fun i => zs.getD (i * s) 0
theorem evk_len (s : Nat) (zs : List Int) (k : Nat) : (evk s zs k).length = k := by simp [evk]
theorem evk_succ (s : Nat) (zs : List Int) (k : Nat) : evk s zs (k + 1) = evk s zs k ++ [zs.getD (k * s) 0] := by simp [evk, List.range_succ]
def cntE (n s : Nat) : Nat := (n + s - 1) / s
theorem cnt_lt {n s : Nat} (hs : 1 ≤ s) (k : Nat) : k < cntE n s ↔ k * s < n := by
  unfold cntE
  rw [Nat.lt_iff_add_one_le, Nat.le_div_iff_mul_le (by omega), Nat.add_mul, Nat.one_mul]
  omega
theorem cntE_le {n s : Nat} (hs : 1 ≤ s) : cntE n s ≤ n := by
  rcases Nat.lt_or_ge n (cntE n s) with h | h
  · have := (cnt_lt hs n).1 h
    have : n * 1 ≤ n * s := Nat.mul_le_mul_left _ hs
    omega
  · exact h
open Classical in
noncomputable def ofZ (zs : List Int) (t : Int) : DgT :=
  if 4096 < zs.length then ((0, 0, 0, []), 2)
  else if (1 ≤ t ∧ t ≤ 4096) ∧ PtN zs then
    (if 512 < cntE zs.length t.toNat then ((0, 0, 0, []), 11) else ((t, 1, (zs.length : Int), evk t.toNat (srtZ zs) (cntE zs.length t.toNat)), 0))
  else ((0, 0, 0, []), 12)
theorem ofZ_long {zs : List Int} {t : Int} (h : 4096 < zs.length) : ofZ zs t = ((0, 0, 0, []), 2) := by unfold ofZ; rw [if_pos h]
theorem ofZ_range {zs : List Int} {t : Int} (h : ¬ 4096 < zs.length) (h2 : ¬ ((1 ≤ t ∧ t ≤ 4096) ∧ PtN zs)) : ofZ zs t = ((0, 0, 0, []), 12) := by unfold ofZ; rw [if_neg h, if_neg h2]
theorem ofZ_many {zs : List Int} {s : Nat} (h : ¬ 4096 < zs.length) (h2 : (1 ≤ (s : Int) ∧ (s : Int) ≤ 4096) ∧ PtN zs) (h3 : 512 < cntE zs.length s) : ofZ zs (s : Int) = ((0, 0, 0, []), 11) := by unfold ofZ; rw [if_neg h, if_pos h2, if_pos (by simpa using h3)]
theorem ofZ_ok {zs : List Int} {s : Nat} (h : ¬ 4096 < zs.length) (h2 : (1 ≤ (s : Int) ∧ (s : Int) ≤ 4096) ∧ PtN zs) (h3 : ¬ 512 < cntE zs.length s) : ofZ zs (s : Int) = (((s : Int), 1, (zs.length : Int), evk s (srtZ zs) (cntE zs.length s)), 0) := by unfold ofZ; rw [if_neg h, if_pos h2, if_neg (by simpa using h3)]; simp
theorem ofZ_len (zs : List Int) (t : Int) : (ofZ zs t).1.2.2.2.length ≤ 1048576 := by
  unfold ofZ
  split
  · simp
  · split
    · split
      · simp
      · rename_i h; simp only [evk_len]; omega
    · simp
/-- A digest that is being made: its box, and its row of points. -/
structure Ev (w4 W : World) (B base : Nat) (s : Int) (n : Int) (v : Value) (pts : List Int) : Prop where
  box : W.heap[B]? = some (.cells #[.int .i64 s, .int .i64 1, .int .i64 n, v] 27)
  row : W.ownsRow base 3 1 v pts.length (zI pts)
  bel : Below w4.heap.size w4 W
theorem Ev.sl {w4 W : World} {B base : Nat} {s n : Int} {v : Value} {pts : List Int} (h : Ev w4 W B base s n v pts) : ∃ ad cap, v = .slice ad pts.length cap := own_sl1 h.row
theorem Ev.below {w4 W W' : World} {B base : Nat} {s n : Int} {v : Value} {pts : List Int} (h : Ev w4 W B base s n v pts) (hb : Below W.heap.size W W') : Ev w4 W' B base s n v pts :=
  ⟨blko h.box hb, own_below h.row hb, h.bel.trans (hb.mono h.bel.size)⟩
/-- One number more behind a row of one's own, perhaps nil: at one operation of a region that draws. -/
theorem wpOp_push1 {W0 W : World} {ops : Array Oper} {i : Nat} {o : Oper} {a : Act} {K : Act → World → Prop} {Q : Exit → Act → World → Prop} (hio : ops[i]? = some o) (hw : Region.wanted o (yielded ops a.tmps) = true) (s x : Operand)
    (ho : o.op = .call { callee := .builtin .append, args := #[s, x], argTypes := #[23, 23] })
    (base : Nat) (v : Value) (xs : List Int) (hs : a.eval s = v) (hown : W.ownsRow base 3 1 v xs.length (zI xs)) (bx : Nat) (y : Int) (hx : a.eval x = .slice (some ⟨bx, 0, none⟩) 1 1) (hb : W.heap[bx]? = some (.cells #[.int .i64 y] 3)) (hl : xs.length ≤ 1048576) (hbase : base ≤ W.heap.size)
    (h : ∀ g c w' N, Hid ((xs ++ [y]).length = N) → w'.ownsRow base 3 1 (.slice (some ⟨g, 0, none⟩) N c) N (zI (xs ++ [y])) → W.grownBy w' v.ownBlock → K (a.put o.dst (.slice (some ⟨g, 0, none⟩) N c)) w') :
    wpOp Try.prog ops Q i K a W := by
  obtain ⟨i0, hi0, hz0, hz1, hz2⟩ := info_parts Try.infoIntL
  refine wpOp_wp hio hw ?_
  obtain ⟨v', w', hr, h2, h3, h4, h5⟩ := run_append_own_at (P := Try.prog) W base 23 o.type 3 i0 (.int .i64 0) 1 8 Try.underlying23 hi0 hz0 hz1 hz2 rfl (by decide) v xs.length (zI xs) hown ⟨bx, 0, none⟩ 1 1 [.int .i64 y] rfl (fun j u hj => by
    match j, hj with
    | 0, hj =>
      simp at hj
      subst hj
      rw [add_head]
      exact blkc hb 0
    | j + 1, hj => simp at hj) (fun u hu => by rw [List.mem_singleton.1 hu]; rfl) (by unfold maxLen; omega) (by omega) hbase
  rcases h2.2 with ⟨h', _⟩ | ⟨g', cap', cur', h', _⟩
  · exact absurd (h4.1 h').2 (by simp)
  subst h'
  rw [← zI_snoc] at h2
  have e : xs.length + 1 = (xs ++ [y]).length := by simp
  rw [e] at h2
  have hq := h g' cap' w' _ (hidd rfl) h2 h3
  unfold Oper.wp execOp
  simp only [ho, resolve, invoke, builtin, Sem.run_bind, Sem.run_pure, Result.andThen_ok, List.map_toArray, List.map_cons, List.map_nil, hs, hx, hr]
  rw [← e] at hq
  exact hq
theorem exec_boxN (W : World) (ρ : Operand → Value) (o : Oper) (y : Operand) (ho : o.op = .buildSlice 23 1 #[(0, y)]) (z : Int) (hx : ρ y = .int .i64 z) :
    (execOp ρ o).run Try.prog W = .ok (.value (.slice (some ⟨W.heap.size, 0, none⟩) 1 1)) (W.alloc (.cells #[.int .i64 z] 3)) := by
  unfold execOp
  simp only [ho, hx, Sem.run_bind, Sem.run_pure, Result.andThen_ok]
  go_simp
theorem exec_storeS (W : World) (ρ : Operand → Value) (o : Oper) (x y : Operand) (ho : o.op = .store 23 x y) (b : Nat) (r0 r1 r2 r3 : Value) (ad : Option Addr) (n c : Nat) (hx : ρ x = .pointer (some ⟨b, 3, none⟩)) (hy : ρ y = .slice ad n c) (h : W.heap[b]? = some (.cells #[r0, r1, r2, r3] 27)) :
    (execOp ρ o).run Try.prog W = .ok .skip (W.setCell ⟨b, 3, none⟩ (.slice ad n c)) := by
  have c3' : W.cell? ⟨b, 3, none⟩ = some r3 := blkc h 3
  have f3 := blkf h 3
  clear h
  unfold execOp
  simp only [ho, hx, hy, Sem.run_bind, Sem.run_pure, Result.andThen_ok]
  go_simp
theorem exec_loadS (W : World) (ρ : Operand → Value) (o : Oper) (x : Operand) (ho : o.op = .load 23 x) (b : Nat) (r0 r1 r2 : Value) (ad : Option Addr) (n c : Nat) (hx : ρ x = .pointer (some ⟨b, 3, none⟩)) (h : W.heap[b]? = some (.cells #[r0, r1, r2, .slice ad n c] 27)) :
    (execOp ρ o).run Try.prog W = .ok (.value (.slice ad n c)) W := by
  have c3' : W.cell? ⟨b, 3, none⟩ = some (.slice ad n c) := blkc h 3
  clear h
  unfold execOp
  simp only [ho, hx, Sem.run_bind, Sem.run_pure, Result.andThen_ok]
  go_simp
/-- The row grown, its box written: one point more. -/
theorem Ev.step {w4 W V V2 : World} {B base : Nat} {s n : Int} {v : Value} {pts : List Int} {y : Int} (h : Ev w4 W B base s n v pts) (hB : w4.heap.size ≤ B) (hBb : B < base) (hbz : base ≤ W.heap.size) (hV : Below W.heap.size W V) (hg : V.grownBy V2 v.ownBlock) {g c N : Nat} (hN : (pts ++ [y]).length = N)
    (ho : V2.ownsRow base 3 1 (.slice (some ⟨g, 0, none⟩) N c) N (zI (pts ++ [y]))) : V2.heap[B]? = some (.cells #[.int .i64 s, .int .i64 1, .int .i64 n, v] 27) ∧ Ev w4 (V2.setCell ⟨B, 3, none⟩ (.slice (some ⟨g, 0, none⟩) N c)) B base s n (.slice (some ⟨g, 0, none⟩) N c) (pts ++ [y]) := by
  have h1 := h.below hV
  have hz : w4.heap.size ≤ V.heap.size := h1.bel.size
  have hbox : V2.heap[B]? = some (.cells #[.int .i64 s, .int .i64 1, .int .i64 n, v] 27) := (hg.block B (Array.getElem?_eq_some_iff.1 h1.box).1 (fun e => by have := (own_blk h1.row e.symm).1; omega)).trans h1.box
  refine ⟨hbox, ?_, ?_, ?_⟩
  · have := blk_setk hbox 3 (.slice (some ⟨g, 0, none⟩) N c)
    simpa using this
  · rw [hN]
    exact own_congr ho (fun b hb => heap_set_other _ _ _ _ _ (by have := (own_blk ho hb).1; omega))
  · refine Below.setCell (p := ⟨B, 3, none⟩) ?_ hB _
    exact h1.bel.grown hg hz (fun k hk => by have := (own_blk h1.row hk).1; omega)
end Go.Proofs.Ytboocdiilbcdcaa
