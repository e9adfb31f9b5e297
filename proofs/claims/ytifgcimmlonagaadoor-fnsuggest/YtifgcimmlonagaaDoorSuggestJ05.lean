import Derived.Test.YtifgcimmlonagaaDoorSuggestJ04
namespace Go.Proofs.YtifgcimmlonagaaDoor
open Go Go.RowKit
set_option linter.unusedVariables false
set_option maxRecDepth 100000
set_option linter.unusedSimpArgs false

/-! Pushing and popping. -/
theorem taNW (w : World) (a : NW) : (Instr.typeAssert (.iface 59 (.agg #[.int .i64 (a.1 : Int), .string (bs a.2)])) 20 59 false).run Tryd.prog w = .ok (.agg #[.int .i64 (a.1 : Int), .string (bs a.2)]) w := by kernel_rfl
theorem HpAt.pushed {w w6 : World} {base p g cap : Nat} {v : Value} {H : List NW} {a : NW} (hH : HpAt w base p v H) (hb : base ≤ p ∨ True) (w5 : World) (h5 : Below w.heap.size w w5)
    (hown : w6.ownsRow base 59 2 (.slice (some ⟨g, 0, none⟩) (H.length + 1) cap) (H.length + 1) (nwCells H ++ [.int .i64 (a.1 : Int), .string (bs a.2)])) (hgr : w5.grownBy w6 v.ownBlock) (hat : v.ownBlock = some g ∨ g = w5.heap.size) :
    w6.heap[p]? = some (.cells #[v, cmpV] 81) ∧
    ∀ q, HpAt ((w6.setCell ⟨p, 0, none⟩ (.slice (some ⟨g, 0, none⟩) (H.length + 1) cap)).drewN q) base p (.slice (some ⟨g, 0, none⟩) (H.length + 1) cap) (H ++ [a]) ∧ Mv p w v ((w6.setCell ⟨p, 0, none⟩ (.slice (some ⟨g, 0, none⟩) (H.length + 1) cap)).drewN q) (.slice (some ⟨g, 0, none⟩) (H.length + 1) cap) := by
  have hpl := hH.lt
  have hz5 := h5.size
  have hbox : w6.heap[p]? = some (.cells #[v, cmpV] 81) := by
    rw [hgr.block p (by omega) (fun e => hH.ne e.symm), h5.block p hpl, hH.box]
  refine ⟨hbox, fun q => ⟨⟨?_, ?_⟩, ?_, ?_⟩⟩
  · have := blk_setk hbox 0 (.slice (some ⟨g, 0, none⟩) (H.length + 1) cap)
    simpa using this
  · have hgp : g ≠ p := by
      intro e
      obtain ⟨_, cur, hc⟩ := own_blk hown (b := g) rfl
      exact blk_ne hc hbox (by decide) e
    rw [nwCells_snoc, List.length_append, List.length_singleton]
    refine own_congr (w := w6) hown fun b e => ?_
    have e2 : g = b := Option.some.inj e
    subst e2
    exact heap_set_other w6 p 0 _ g hgp
  · refine (But.set (a := w) (b := w6) ⟨?_, ?_, ?_, ?_, ?_⟩ p 0 _ (.inl rfl)).drewN q
    · exact hgr.os.trans h5.os
    · exact hgr.tape.trans h5.tape
    · exact hgr.output.trans h5.output
    · exact Nat.le_trans hz5 hgr.size
    · intro b hb hn
      rw [hgr.block b (by omega) (fun e => hn (.inr e.symm)), h5.block b hb]
  · rcases hat with hat | hat
    · exact .inl hat.symm
    · refine .inr fun b e => ?_
      have e2 : g = b := Option.some.inj e
      omega
theorem exec_loadNs (W : World) (ρ : Operand → Value) (o : Oper) (x : Operand) (ho : o.op = .load 49 x) (b off : Nat) (s : Option Addr) (n c : Nat) (hx : ρ x = .pointer (some ⟨b, off, none⟩))
    (h0 : W.cell? ⟨b, off, none⟩ = some (.slice s n c)) : (execOp ρ o).run Tryd.prog W = .ok (.value (.slice s n c)) W := by
  unfold execOp
  simp only [ho, Instr.loadAt, Instr.sureAddr, hx, Sem.run_bind, Sem.run_pure, Result.andThen_ok]
  go_simp
theorem exec_storeNs (W : World) (ρ : Operand → Value) (o : Oper) (x y : Operand) (ho : o.op = .store 49 x y) (b off : Nat) (s : Option Addr) (n c : Nat) (u : Value) (hx : ρ x = .pointer (some ⟨b, off, none⟩)) (hy : ρ y = .slice s n c)
    (h0 : W.cell? ⟨b, off, none⟩ = some u) (hf : W.frozen? ⟨b, off, none⟩ = false) : (execOp ρ o).run Tryd.prog W = .ok .skip (W.setCell ⟨b, off, none⟩ (.slice s n c)) := by
  unfold execOp
  simp only [ho, Instr.storeAt, Instr.sureAddr, hx, hy, Sem.run_bind, Sem.run_pure, Result.andThen_ok]
  go_simp
theorem exec_buildNW (W : World) (ρ : Operand → Value) (o : Oper) (x : Operand) (ho : o.op = .buildSlice 49 1 #[(0, x)]) (z : Int) (t : ByteArray) (hx : ρ x = .agg #[.int .i64 z, .string t]) :
    (execOp ρ o).run Tryd.prog W = .ok (.value (.slice (some ⟨W.heap.size, 0, none⟩) 1 1)) (W.alloc (.cells #[.int .i64 z, .string t] 59)) := by
  unfold execOp
  simp only [ho, hx, Sem.run_bind, Sem.run_pure, Result.andThen_ok]
  go_simp
theorem news_two (W : World) (u0 u1 : Value) (t : TypeId) : ∀ (j : Nat) (u : Value), [u0, u1][j]? = some u → (W.alloc (.cells #[u0, u1] t)).cell? ((⟨W.heap.size, 0, none⟩ : Addr).add j) = some u := by
  intro j u h
  rw [add_head, blkc (heap_alloc_new W _) j]
  simpa using h
set_option maxHeartbeats 4000000 in
theorem hpush_any (w : World) (base p : Nat) (v : Value) (H : List NW) (a : NW) (hl : H.length ≤ 1048576) (hbw : base ≤ w.heap.size) (hH : HpAt w base p v H) :
    Calls Tryd.prog 106 #[.pointer (some ⟨p, 0, none⟩), .iface 59 (.agg #[.int .i64 (a.1 : Int), .string (bs a.2)])] w fun e w' => e = .returned (.tuple #[]) ∧ ∃ v', HpAt w' base p v' (H ++ [a]) ∧ Mv p w v w' v' := by
  obtain ⟨i0, hi, hz0, hz1, hz2⟩ := info_parts Tryd.infoNW
  have c0 : w.cell? ⟨p, 0, none⟩ = some v := blkc hH.box 0
  have HH := hidd hH
  have Hrow := hidd hH.row
  have hv : ∃ s n cap, v = .slice s n cap := by
    rcases hH.row.2 with ⟨h1, h2⟩ | ⟨g, cap, cur, h1, _⟩
    · exact ⟨none, 0, 0, h1⟩
    · exact ⟨_, _, _, h1⟩
  obtain ⟨s, n, cap, rfl⟩ := hv
  have hta := taNW w a
  clear hH
  go_enter Tryd.func106, Tryd.ntmps106
  go_wp2_with fail
  obtain ⟨z, hz⟩ : ∃ z, (a.1 : Int) = z := ⟨_, rfl⟩
  obtain ⟨t, ht⟩ : ∃ t, bs a.2 = t := ⟨_, rfl⟩
  have c5 : (w.drew.alloc (.cells #[.int .i64 z, .string t] 59)).cell? ⟨p, 0, none⟩ = some (.slice s n cap) := by
    rw [← c0]
    exact World.cell?_of_block (Below.heap_alloc w.drew _ p HH.out.lt)
  have HP0 : Hid (∀ g cp w6, w6.ownsRow base 59 2 (.slice (some ⟨g, 0, none⟩) (H.length + 1) cp) (H.length + 1) (nwCells H ++ [.int .i64 z, .string t]) → (w.drew.alloc (.cells #[.int .i64 z, .string t] 59)).grownBy w6 (Value.slice s n cap).ownBlock → ((Value.slice s n cap).ownBlock = some g ∨ g = (w.drew.alloc (.cells #[.int .i64 z, .string t] 59)).heap.size) → _) :=
    fun g cp w6 k1 k2 k3 => HpAt.pushed (a := a) HH.out (.inr trivial) _ ((Below.refl _ _).drew.alloc (Nat.le_refl _) _) (by rw [hz, ht]; exact k1) k2 k3
  rw [hz, ht] at hta
  rw [hz, ht]
  clear hz ht
  refine wp_region_held_drew (S := fun _ => True) (by kernel_rfl) trivial (fun hHeld => ?_)
  refine tkX 0 (h := ?_)
  refine tkX 1 (h := ?_)
  refine tkX 2 (h := ?_)
  refine tkX 3 (h := ?_)
  refine tkX 5 (h := ?_)
  (simp only [Act.put, List.getElem_toArray, List.getElem_cons_succ, List.getElem_cons_zero, List.setIfInBounds_toArray, List.set_cons_zero, List.set_cons_succ])
  refine tkW 6 (v := .agg #[.int .i64 z, .string t]) (hx := fun W _ => ?_) (h := ?_)
  · kernel_rfl
  (simp only [Act.put, List.getElem_toArray, List.getElem_cons_succ, List.getElem_cons_zero, List.setIfInBounds_toArray, List.set_cons_zero, List.set_cons_succ])
  clear hHeld
  refine wpAnyH_two 4 7 (by kernel_rfl) ?_ ?_
  · refine wpOp_val (.slice s n cap) _ rfl (by kernel_rfl) (exec_loadNs _ _ _ _ rfl p 0 s n cap (by kernel_rfl) c0) ?_
    refine ⟨trivial, ?_⟩
    simp only [Act.put, List.getElem_toArray, List.getElem_cons_succ, List.getElem_cons_zero, List.setIfInBounds_toArray, List.set_cons_zero, List.set_cons_succ]
    refine wpAnyH_one 7 (by kernel_rfl) ?_
    refine wpOp_val (.slice (some ⟨w.heap.size, 0, none⟩) 1 1) (w.drew.alloc (.cells #[.int .i64 z, .string t] 59)) rfl (by kernel_rfl) (exec_buildNW _ _ _ _ rfl z t (by kernel_rfl)) ?_
    refine ⟨trivial, ?_⟩
    simp only [Act.put, List.getElem_toArray, List.getElem_cons_succ, List.getElem_cons_zero, List.setIfInBounds_toArray, List.set_cons_zero, List.set_cons_succ]
    refine wpAnyH_one 8 (by kernel_rfl) ?_
    refine wpOp_wp rfl (by kernel_rfl) ?_
    refine wp_append_lies _ (.tmp 8) (.tmp 11) 49 rfl base 59 i0 _ 2 24 Tryd.underlying49 hi hz0 hz1 hz2 rfl (by decide) (.slice s n cap) H.length (nwCells H) (by kernel_rfl) (Hrow.out.drew.alloc _) ⟨w.heap.size, 0, none⟩ 1 1 [.int .i64 z, .string t] (by kernel_rfl) rfl (news_two w.drew _ _ _) (by intro u' hu'; simp at hu'; rcases hu' with rfl | rfl <;> rfl) (by omega) (by unfold maxLen; omega) (by omega) (by simp; omega) _ rfl ?_
    intro g6 cp6 w6 hown6 hgrow6 hat6 hlt6
    have HP := hidd (HP0.out g6 cp6 w6 hown6 hgrow6 hat6)
    clear hown6 hgrow6 hat6 hlt6
    refine ⟨trivial, ?_⟩
    simp only [Act.put, List.getElem_toArray, List.getElem_cons_succ, List.getElem_cons_zero, List.setIfInBounds_toArray, List.set_cons_zero, List.set_cons_succ]
    refine tkX 9 (hS := trivial) (h := ?_)
    refine tkX 10 (hS := trivial) (h := ?_)
    simp only [Act.put, List.getElem_toArray, List.getElem_cons_succ, List.getElem_cons_zero, List.setIfInBounds_toArray, List.set_cons_zero, List.set_cons_succ]
    refine wpAnyH_one 11 (by kernel_rfl) ?_
    refine wpOp_skip (w6.setCell ⟨p, 0, none⟩ (.slice (some ⟨g6, 0, none⟩) (H.length + 1) cp6)) rfl (by kernel_rfl) (exec_storeNs _ _ _ _ _ rfl p 0 _ _ _ (.slice s n cap) (by kernel_rfl) (by kernel_rfl) (blkc HP.out.1 0) (blkf HP.out.1 0)) ?_
    refine ⟨trivial, ?_⟩
    simp only [Act.put, List.getElem_toArray, List.getElem_cons_succ, List.getElem_cons_zero, List.setIfInBounds_toArray, List.set_cons_zero, List.set_cons_succ]
    refine wpAnyH_done (by kernel_rfl) ?_ _
    go_wp2_with fail
    first | go_end0 | refine bodyPost_ret (results_none rfl _ _ _) rfl ?_
    exact ⟨rfl, _, HP.out.2 0⟩
  · refine wpOp_val (.slice (some ⟨w.heap.size, 0, none⟩) 1 1) (w.drew.alloc (.cells #[.int .i64 z, .string t] 59)) rfl (by kernel_rfl) (exec_buildNW _ _ _ _ rfl z t (by kernel_rfl)) ?_
    refine ⟨trivial, ?_⟩
    simp only [Act.put, List.getElem_toArray, List.getElem_cons_succ, List.getElem_cons_zero, List.setIfInBounds_toArray, List.set_cons_zero, List.set_cons_succ]
    refine wpAnyH_one 4 (by kernel_rfl) ?_
    refine wpOp_val (.slice s n cap) _ rfl (by kernel_rfl) (exec_loadNs _ _ _ _ rfl p 0 s n cap (by kernel_rfl) c5) ?_
    refine ⟨trivial, ?_⟩
    simp only [Act.put, List.getElem_toArray, List.getElem_cons_succ, List.getElem_cons_zero, List.setIfInBounds_toArray, List.set_cons_zero, List.set_cons_succ]
    refine wpAnyH_one 8 (by kernel_rfl) ?_
    refine wpOp_wp rfl (by kernel_rfl) ?_
    refine wp_append_lies _ (.tmp 8) (.tmp 11) 49 rfl base 59 i0 _ 2 24 Tryd.underlying49 hi hz0 hz1 hz2 rfl (by decide) (.slice s n cap) H.length (nwCells H) (by kernel_rfl) (Hrow.out.drew.alloc _) ⟨w.heap.size, 0, none⟩ 1 1 [.int .i64 z, .string t] (by kernel_rfl) rfl (news_two w.drew _ _ _) (by intro u' hu'; simp at hu'; rcases hu' with rfl | rfl <;> rfl) (by omega) (by unfold maxLen; omega) (by omega) (by simp; omega) _ rfl ?_
    intro g6 cp6 w6 hown6 hgrow6 hat6 hlt6
    have HP := hidd (HP0.out g6 cp6 w6 hown6 hgrow6 hat6)
    clear hown6 hgrow6 hat6 hlt6
    refine ⟨trivial, ?_⟩
    simp only [Act.put, List.getElem_toArray, List.getElem_cons_succ, List.getElem_cons_zero, List.setIfInBounds_toArray, List.set_cons_zero, List.set_cons_succ]
    refine tkX 9 (hS := trivial) (h := ?_)
    refine tkX 10 (hS := trivial) (h := ?_)
    simp only [Act.put, List.getElem_toArray, List.getElem_cons_succ, List.getElem_cons_zero, List.setIfInBounds_toArray, List.set_cons_zero, List.set_cons_succ]
    refine wpAnyH_one 11 (by kernel_rfl) ?_
    refine wpOp_skip (w6.setCell ⟨p, 0, none⟩ (.slice (some ⟨g6, 0, none⟩) (H.length + 1) cp6)) rfl (by kernel_rfl) (exec_storeNs _ _ _ _ _ rfl p 0 _ _ _ (.slice s n cap) (by kernel_rfl) (by kernel_rfl) (blkc HP.out.1 0) (blkf HP.out.1 0)) ?_
    refine ⟨trivial, ?_⟩
    simp only [Act.put, List.getElem_toArray, List.getElem_cons_succ, List.getElem_cons_zero, List.setIfInBounds_toArray, List.set_cons_zero, List.set_cons_succ]
    refine wpAnyH_done (by kernel_rfl) ?_ _
    go_wp2_with fail
    first | go_end0 | refine bodyPost_ret (results_none rfl _ _ _) rfl ?_
    exact ⟨rfl, _, HP.out.2 0⟩
end Go.Proofs.YtifgcimmlonagaaDoor
