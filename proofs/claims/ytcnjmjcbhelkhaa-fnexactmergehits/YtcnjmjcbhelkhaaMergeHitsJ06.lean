import Derived.Test.YtcnjmjcbhelkhaaMergeHitsJ05
import Derived.Deep.AppendLies
namespace Go.Proofs.Ytcnjmjcbhelkhaa
open Go Go.RowKit
set_option linter.unusedVariables false
set_option maxRecDepth 100000
set_option linter.unusedSimpArgs false

/-! Swapping, pushing and popping. -/
abbrev hpI (p : Nat) : Value := .iface 72 (.pointer (some ⟨p, 0, none⟩))
abbrev ptr (q : Nat) : Value := .pointer (some ⟨q, 0, none⟩)
theorem exec_loadHS (W : World) (ρ : Operand → Value) (o : Oper) (x : Operand) (ho : o.op = .load 75 x) (b off q : Nat) (hx : ρ x = .pointer (some ⟨b, off, none⟩))
    (h0 : W.cell? ⟨b, off, none⟩ = some (ptr q)) : (execOp ρ o).run Try.prog W = .ok (.value (ptr q)) W := by
  unfold execOp
  simp only [ho, Instr.loadAt, Instr.sureAddr, hx, Sem.run_bind, Sem.run_pure, Result.andThen_ok]
  go_simp
theorem exec_storeHS (W : World) (ρ : Operand → Value) (o : Oper) (x y : Operand) (ho : o.op = .store 75 x y) (b off q : Nat) (u : Value) (hx : ρ x = .pointer (some ⟨b, off, none⟩)) (hy : ρ y = ptr q)
    (h0 : W.cell? ⟨b, off, none⟩ = some u) (f0 : W.frozen? ⟨b, off, none⟩ = false) : (execOp ρ o).run Try.prog W = .ok .skip (W.setCell ⟨b, off, none⟩ (ptr q)) := by
  unfold execOp
  simp only [ho, Instr.storeAt, Instr.sureAddr, hx, hy, Sem.run_bind, Sem.run_pure, Result.andThen_ok]
  go_simp
theorem map_setP (E : MEnv) (H : List Nat) (k a : Nat) : (H.map E.pv).set k (E.pv a) = (H.set k a).map E.pv := by rw [List.map_set]
set_option maxHeartbeats 4000000 in
theorem hswap_any (E : MEnv) (w : World) (p : Nat) (v : Value) (H : List Nat) (i j : Nat) (hi : i < H.length) (hj : j < H.length) (hl : H.length ≤ 1048576) (hH : HpAt E w p v H) :
    Calls Try.prog 87 #[.pointer (some ⟨p, 0, none⟩), .int .i64 (i : Int), .int .i64 (j : Int)] w fun e w' => e = .returned (.tuple #[]) ∧ HpAt E w' p v (swp 0 H i j) ∧ Mv p w v w' v := by
  obtain ⟨g, cap, rfl, hg1, hg2, hg3⟩ := own1_form hH.row (by omega)
  have c0 : w.cell? ⟨p, 0, none⟩ = some (.slice (some ⟨g, 0, none⟩) H.length cap) := blkc hH.box 0
  have x0 := row_at hH.row i hi
  have y0 := row_at hH.row j hj
  have fz : ∀ k, w.frozen? ⟨g, k, none⟩ = false := own1_frozen hH.row
  have hiz : (i : Int) < (H.length : Int) := by omega
  have hjz : (j : Int) < (H.length : Int) := by omega
  have hpg : ¬ p = g := fun e => hH.ne (by rw [e]; rfl)
  obtain ⟨x, hx⟩ : ∃ x, H.getD i 0 = x := ⟨_, rfl⟩
  obtain ⟨y, hy⟩ : ∃ y, H.getD j 0 = y := ⟨_, rfl⟩
  have HE : Hid (∀ W, (W = ((w.setCell ⟨g, i, none⟩ (E.pv y)).setCell ⟨g, j, none⟩ (E.pv x)) ∨ W = ((w.setCell ⟨g, j, none⟩ (E.pv x)).setCell ⟨g, i, none⟩ (E.pv y))) → ∀ q, HpAt E (W.drewN q) p (.slice (some ⟨g, 0, none⟩) H.length cap) (swp 0 H i j) ∧ Mv p w (.slice (some ⟨g, 0, none⟩) H.length cap) (W.drewN q) (.slice (some ⟨g, 0, none⟩) H.length cap)) := by
    intro W hW q
    have hrow : W.ownsRow E.w0.heap.size 75 1 (.slice (some ⟨g, 0, none⟩) H.length cap) H.length ((swp 0 H i j).map E.pv) := by
      rcases hW with rfl | rfl
      · have h2 := own1_set (own1_set hH.row i (E.pv y)) j (E.pv x)
        rw [map_setP, map_setP] at h2
        rw [swp, hx, hy]
        exact h2
      · have h2 := own1_set (own1_set hH.row j (E.pv x)) i (E.pv y)
        rw [map_setP, map_setP] at h2
        rw [swp_comm 0 H i j hi hj, swp, hx, hy]
        exact h2
    have hbut0 : But (fun b => b = g) w W := by
      rcases hW with rfl | rfl
      · exact ((But.refl (fun b => b = g) w).set g _ _ rfl).set g _ _ rfl
      · exact ((But.refl (fun b => b = g) w).set g _ _ rfl).set g _ _ rfl
    have hbut : But (fun b => b = p ∨ (Value.slice (some ⟨g, 0, none⟩) H.length cap).ownBlock = some b) w W := hbut0.mono fun b _ e => .inr (by rw [e]; rfl)
    refine ⟨⟨hH.ok, below_drewN (hH.bel.trans (hbut0.below hH.bel.size (fun b hb e => by omega))) q, hH.pge, (hbut0.block p hH.lt hpg).trans hH.box, ?_, fun t ht htd => ?_⟩, ⟨hbut.drewN q, .inl rfl⟩⟩
    · rw [swp_len]
      exact hrow
    · have ht2 : t ∈ H := (swp_perm 0 H i j hi hj).mem_iff.1 ht
      refine (hH.src t ht2 htd).keep (hbut0.block _ (hH.src t ht2 htd).lt fun e => hH.apart ht2 htd (.inr (by rw [e]; rfl)))
  have hR1 := own1_set hH.row i (E.pv y)
  have z0 : (w.setCell ⟨g, i, none⟩ (E.pv y)).cell? ⟨g, j, none⟩ = some (ptr (E.sb ((H.set i y).getD j 0))) := by
    have h2 := hR1
    rw [map_setP] at h2
    have hl2 : (H.set i y).length = H.length := by simp
    rw [← hl2] at h2
    exact row_at h2 j (by omega)
  have g0 := own1_frozen hR1 j
  have c0' : (w.setCell ⟨g, i, none⟩ (E.pv y)).cell? ⟨p, 0, none⟩ = some (.slice (some ⟨g, 0, none⟩) H.length cap) := by
    rw [← c0]
    exact World.cell?_of_block (by simp only [heap_set_other _ _ _ _ _ hpg])
  have c0'' : ((w.setCell ⟨g, i, none⟩ (E.pv y)).setCell ⟨g, j, none⟩ (E.pv x)).cell? ⟨p, 0, none⟩ = some (.slice (some ⟨g, 0, none⟩) H.length cap) := by
    rw [← c0]
    exact World.cell?_of_block (by simp only [heap_set_other _ _ _ _ _ hpg])
  clear hR1
  rw [hx] at x0
  rw [hy] at y0
  have fi0 := fz i
  have fj0 := fz j
  clear fz hx hy hH
  have ex : E.pv x = ptr (E.sb x) := rfl
  have ey : E.pv y = ptr (E.sb y) := rfl
  rw [ex] at c0'' HE
  rw [ey] at c0' c0'' z0 g0 HE
  clear ex ey
  generalize E.sb x = X at *
  generalize E.sb y = Y at *
  generalize E.sb ((H.set i y).getD j 0) = Z at *
  generalize swp 0 H i j = H' at *
  generalize H.length = n at *
  go_enter Try.func87, Try.ntmps87
  go_wp2_with fail
  refine wp_region_held_drew (S := fun W => W.cell? ⟨p, 0, none⟩ = some (.slice (some ⟨g, 0, none⟩) n cap)) (by kernel_rfl) ?_ (fun hHeld => ?_)
  · exact c0
  refine tkX 0 (h := ?_)
  refine tkX 1 (h := ?_)
  refine tkX 2 (h := ?_)
  refine tkX 3 (h := ?_)
  refine tkX 4 (h := ?_)
  simp only [Act.put, List.getElem_toArray, List.getElem_cons_succ, List.getElem_cons_zero, List.setIfInBounds_toArray, List.set_cons_zero, List.set_cons_succ]
  refine tkX 5 (h := ?_)
  refine tkX 6 (h := ?_)
  refine tkX 7 (h := ?_)
  refine tkX 8 (h := ?_)
  refine tkX 9 (h := ?_)
  simp only [Act.put, List.getElem_toArray, List.getElem_cons_succ, List.getElem_cons_zero, List.setIfInBounds_toArray, List.set_cons_zero, List.set_cons_succ]
  refine tkX 10 (h := ?_)
  refine tkX 11 (h := ?_)
  refine tkX 12 (h := ?_)
  refine tkX 13 (h := ?_)
  refine tkX 14 (h := ?_)
  simp only [Act.put, List.getElem_toArray, List.getElem_cons_succ, List.getElem_cons_zero, List.setIfInBounds_toArray, List.set_cons_zero, List.set_cons_succ]
  refine tkX 15 (h := ?_)
  refine tkX 17 (h := ?_)
  refine tkX 18 (h := ?_)
  refine tkX 19 (h := ?_)
  refine tkX 20 (h := ?_)
  simp only [Act.put, List.getElem_toArray, List.getElem_cons_succ, List.getElem_cons_zero, List.setIfInBounds_toArray, List.set_cons_zero, List.set_cons_succ]
  refine tkX 21 (h := ?_)
  refine tkX 22 (h := ?_)
  try simp only [Act.put, List.getElem_toArray, List.getElem_cons_succ, List.getElem_cons_zero, List.setIfInBounds_toArray, List.set_cons_zero, List.set_cons_succ]
  clear hHeld
  refine wpAnyH_two 16 23 (by kernel_rfl) ?_ ?_
  · refine wpOp_val (ptr Y) _ rfl (by kernel_rfl) (exec_loadHS _ _ _ _ rfl g j Y (by kernel_rfl) y0) ?_
    refine ⟨c0, ?_⟩
    simp only [Act.put, List.getElem_toArray, List.getElem_cons_succ, List.getElem_cons_zero, List.setIfInBounds_toArray, List.set_cons_zero, List.set_cons_succ]
    refine wpAnyH_one 23 (by kernel_rfl) ?_
    refine wpOp_val (ptr X) _ rfl (by kernel_rfl) (exec_loadHS _ _ _ _ rfl g i X (by kernel_rfl) x0) ?_
    refine ⟨c0, ?_⟩
    simp only [Act.put, List.getElem_toArray, List.getElem_cons_succ, List.getElem_cons_zero, List.setIfInBounds_toArray, List.set_cons_zero, List.set_cons_succ]
    refine tkX 24 (hS := c0) (h := ?_)
    simp only [Act.put, List.getElem_toArray, List.getElem_cons_succ, List.getElem_cons_zero, List.setIfInBounds_toArray, List.set_cons_zero, List.set_cons_succ]
    refine wpAnyH_one 25 (by kernel_rfl) ?_
    refine wpOp_skip (w.drew.setCell ⟨g, i, none⟩ (ptr Y)) rfl (by kernel_rfl) (exec_storeHS _ _ _ _ _ rfl g i Y _ (by kernel_rfl) (by kernel_rfl) x0 fi0) ?_
    refine ⟨c0', ?_⟩
    simp only [Act.put, List.getElem_toArray, List.getElem_cons_succ, List.getElem_cons_zero, List.setIfInBounds_toArray, List.set_cons_zero, List.set_cons_succ]
    refine tkX 26 (hS := c0') (h := ?_)
    simp only [Act.put, List.getElem_toArray, List.getElem_cons_succ, List.getElem_cons_zero, List.setIfInBounds_toArray, List.set_cons_zero, List.set_cons_succ]
    refine wpAnyH_one 27 (by kernel_rfl) ?_
    refine wpOp_skip ((w.drew.setCell ⟨g, i, none⟩ (ptr Y)).setCell ⟨g, j, none⟩ (ptr X)) rfl (by kernel_rfl) (exec_storeHS _ _ _ _ _ rfl g j X _ (by kernel_rfl) (by kernel_rfl) z0 g0) ?_
    refine ⟨c0'', ?_⟩
    simp only [Act.put, List.getElem_toArray, List.getElem_cons_succ, List.getElem_cons_zero, List.setIfInBounds_toArray, List.set_cons_zero, List.set_cons_succ]
    refine wpAnyH_done (by kernel_rfl) ?_ _
    go_wp2_with fail
    first | go_end0 | refine bodyPost_ret (results_none rfl _ _ _) rfl ?_
    exact ⟨rfl, HE.out _ (.inl rfl) 1⟩
  · refine wpOp_val (ptr X) _ rfl (by kernel_rfl) (exec_loadHS _ _ _ _ rfl g i X (by kernel_rfl) x0) ?_
    refine ⟨c0, ?_⟩
    simp only [Act.put, List.getElem_toArray, List.getElem_cons_succ, List.getElem_cons_zero, List.setIfInBounds_toArray, List.set_cons_zero, List.set_cons_succ]
    refine wpAnyH_one 16 (by kernel_rfl) ?_
    refine wpOp_val (ptr Y) _ rfl (by kernel_rfl) (exec_loadHS _ _ _ _ rfl g j Y (by kernel_rfl) y0) ?_
    refine ⟨c0, ?_⟩
    simp only [Act.put, List.getElem_toArray, List.getElem_cons_succ, List.getElem_cons_zero, List.setIfInBounds_toArray, List.set_cons_zero, List.set_cons_succ]
    refine tkX 24 (hS := c0) (h := ?_)
    simp only [Act.put, List.getElem_toArray, List.getElem_cons_succ, List.getElem_cons_zero, List.setIfInBounds_toArray, List.set_cons_zero, List.set_cons_succ]
    refine wpAnyH_one 25 (by kernel_rfl) ?_
    refine wpOp_skip (w.drew.setCell ⟨g, i, none⟩ (ptr Y)) rfl (by kernel_rfl) (exec_storeHS _ _ _ _ _ rfl g i Y _ (by kernel_rfl) (by kernel_rfl) x0 fi0) ?_
    refine ⟨c0', ?_⟩
    simp only [Act.put, List.getElem_toArray, List.getElem_cons_succ, List.getElem_cons_zero, List.setIfInBounds_toArray, List.set_cons_zero, List.set_cons_succ]
    refine tkX 26 (hS := c0') (h := ?_)
    simp only [Act.put, List.getElem_toArray, List.getElem_cons_succ, List.getElem_cons_zero, List.setIfInBounds_toArray, List.set_cons_zero, List.set_cons_succ]
    refine wpAnyH_one 27 (by kernel_rfl) ?_
    refine wpOp_skip ((w.drew.setCell ⟨g, i, none⟩ (ptr Y)).setCell ⟨g, j, none⟩ (ptr X)) rfl (by kernel_rfl) (exec_storeHS _ _ _ _ _ rfl g j X _ (by kernel_rfl) (by kernel_rfl) z0 g0) ?_
    refine ⟨c0'', ?_⟩
    simp only [Act.put, List.getElem_toArray, List.getElem_cons_succ, List.getElem_cons_zero, List.setIfInBounds_toArray, List.set_cons_zero, List.set_cons_succ]
    refine wpAnyH_done (by kernel_rfl) ?_ _
    go_wp2_with fail
    first | go_end0 | refine bodyPost_ret (results_none rfl _ _ _) rfl ?_
    exact ⟨rfl, HE.out _ (.inl rfl) 1⟩
theorem taHS (w : World) (q : Nat) : (Instr.typeAssert (.iface 75 (ptr q)) 20 75 false).run Try.prog w = .ok (ptr q) w := by kernel_rfl
theorem HpAt.pushed {E : MEnv} {w w6 : World} {p g cap : Nat} {v : Value} {H : List Nat} {a : Nat} (hH : HpAt E w p v H) (ha : HitAt E w a) (w5 : World) (h5 : Below w.heap.size w w5)
    (hown : w6.ownsRow E.w0.heap.size 75 1 (.slice (some ⟨g, 0, none⟩) (H.length + 1) cap) (H.length + 1) (H.map E.pv ++ [E.pv a])) (hgr : w5.grownBy w6 v.ownBlock) (hat : v.ownBlock = some g ∨ g = w5.heap.size) :
    w6.heap[p]? = some (.cells #[v, E.cmpV] 79) ∧
    ∀ q, HpAt E ((w6.setCell ⟨p, 0, none⟩ (.slice (some ⟨g, 0, none⟩) (H.length + 1) cap)).drewN q) p (.slice (some ⟨g, 0, none⟩) (H.length + 1) cap) (H ++ [a]) ∧ Mv p w v ((w6.setCell ⟨p, 0, none⟩ (.slice (some ⟨g, 0, none⟩) (H.length + 1) cap)).drewN q) (.slice (some ⟨g, 0, none⟩) (H.length + 1) cap) := by
  have hpl := hH.lt
  have hz5 := h5.size
  have hbox : w6.heap[p]? = some (.cells #[v, E.cmpV] 79) := by
    rw [hgr.block p (by omega) (fun e => hH.ne e.symm), h5.block p hpl, hH.box]
  have hbut : But (fun b => b = p ∨ v.ownBlock = some b) w (w6.setCell ⟨p, 0, none⟩ (.slice (some ⟨g, 0, none⟩) (H.length + 1) cap)) := by
    refine But.set (a := w) (b := w6) ⟨?_, ?_, ?_, ?_, ?_⟩ p 0 _ (.inl rfl)
    · exact hgr.os.trans h5.os
    · exact hgr.tape.trans h5.tape
    · exact hgr.output.trans h5.output
    · exact Nat.le_trans hz5 hgr.size
    · intro b hb hn
      rw [hgr.block b (by omega) (fun e => hn (.inr e.symm)), h5.block b hb]
  refine ⟨hbox, fun q => ⟨⟨hH.ok, ?_, hH.pge, ?_, ?_, ?_⟩, hbut.drewN q, ?_⟩⟩
  · refine below_drewN (hH.bel.trans (hbut.below hH.bel.size (fun b hb e => ?_))) q
    rcases e with e | e
    · have := hH.pge; omega
    · have := (hH.row.lt b e).1; omega
  · have := blk_setk hbox 0 (.slice (some ⟨g, 0, none⟩) (H.length + 1) cap)
    simpa using this
  · have hgp : g ≠ p := by
      intro e
      obtain ⟨_, cur, hc⟩ := own_blk hown (b := g) rfl
      exact blk_ne hc hbox (by decide) e
    rw [List.map_append, List.map_singleton, List.length_append, List.length_singleton]
    refine own_congr (w := w6) hown fun b e => ?_
    have e2 : g = b := Option.some.inj e
    subst e2
    exact heap_set_other w6 p 0 _ g hgp
  · have key : ∀ t, HitAt E w t → HitAt E (w6.setCell ⟨p, 0, none⟩ (.slice (some ⟨g, 0, none⟩) (H.length + 1) cap)) t := fun t ht => by
      refine ht.keep (hbut.block _ ht.lt ?_)
      rintro (e | e)
      · exact ht.neP hH.box (by decide) e
      · obtain ⟨_, cur, hc⟩ := own_blk hH.row e
        exact ht.neP hc (by decide) rfl
    intro t ht htd
    rcases List.mem_append.1 ht with h | h
    · exact key t (hH.src t h htd)
    · simp at h; subst h; exact key _ ha
  · rcases hat with hat | hat
    · exact .inl hat.symm
    · refine .inr fun b e => ?_
      have e2 : g = b := Option.some.inj e
      omega
theorem exec_loadNs (W : World) (ρ : Operand → Value) (o : Oper) (x : Operand) (ho : o.op = .load 76 x) (b off : Nat) (s : Option Addr) (n c : Nat) (hx : ρ x = .pointer (some ⟨b, off, none⟩))
    (h0 : W.cell? ⟨b, off, none⟩ = some (.slice s n c)) : (execOp ρ o).run Try.prog W = .ok (.value (.slice s n c)) W := by
  unfold execOp
  simp only [ho, Instr.loadAt, Instr.sureAddr, hx, Sem.run_bind, Sem.run_pure, Result.andThen_ok]
  go_simp
theorem exec_storeNs (W : World) (ρ : Operand → Value) (o : Oper) (x y : Operand) (ho : o.op = .store 76 x y) (b off : Nat) (s : Option Addr) (n c : Nat) (u : Value) (hx : ρ x = .pointer (some ⟨b, off, none⟩)) (hy : ρ y = .slice s n c)
    (h0 : W.cell? ⟨b, off, none⟩ = some u) (hf : W.frozen? ⟨b, off, none⟩ = false) : (execOp ρ o).run Try.prog W = .ok .skip (W.setCell ⟨b, off, none⟩ (.slice s n c)) := by
  unfold execOp
  simp only [ho, Instr.storeAt, Instr.sureAddr, hx, hy, Sem.run_bind, Sem.run_pure, Result.andThen_ok]
  go_simp
theorem exec_buildHS (W : World) (ρ : Operand → Value) (o : Oper) (x : Operand) (ho : o.op = .buildSlice 76 1 #[(0, x)]) (q : Nat) (hx : ρ x = ptr q) :
    (execOp ρ o).run Try.prog W = .ok (.value (.slice (some ⟨W.heap.size, 0, none⟩) 1 1)) (W.alloc (.cells #[ptr q] 75)) := by
  unfold execOp
  simp only [ho, hx, Sem.run_bind, Sem.run_pure, Result.andThen_ok]
  go_simp
theorem news_one (W : World) (u0 : Value) (t : TypeId) : ∀ (j : Nat) (u : Value), [u0][j]? = some u → (W.alloc (.cells #[u0] t)).cell? ((⟨W.heap.size, 0, none⟩ : Addr).add j) = some u := by
  intro j u h
  rw [add_head, blkc (heap_alloc_new W _) j]
  simpa using h
set_option maxHeartbeats 4000000 in
theorem hpush_any (E : MEnv) (w : World) (p : Nat) (v : Value) (H : List Nat) (a : Nat) (hl : H.length ≤ 1048576) (ha : HitAt E w a) (hH : HpAt E w p v H) :
    Calls Try.prog 86 #[.pointer (some ⟨p, 0, none⟩), .iface 75 (E.pv a)] w fun e w' => e = .returned (.tuple #[]) ∧ ∃ v', HpAt E w' p v' (H ++ [a]) ∧ Mv p w v w' v' := by
  obtain ⟨i0, hi, hz0, hz1, hz2⟩ := info_parts Try.infoHS
  have c0 : w.cell? ⟨p, 0, none⟩ = some v := blkc hH.box 0
  have HH := hidd hH
  have HA := hidd ha
  have Hrow := hidd hH.row
  have hbw : E.w0.heap.size ≤ w.heap.size := hH.bel.size
  have hv : ∃ s n cap, v = .slice s n cap := by
    rcases hH.row.2 with ⟨h1, h2⟩ | ⟨g, cap, cur, h1, _⟩
    · exact ⟨none, 0, 0, h1⟩
    · exact ⟨_, _, _, h1⟩
  obtain ⟨s, n, cap, rfl⟩ := hv
  have ex : E.pv a = ptr (E.sb a) := rfl
  have hta := taHS w (E.sb a)
  clear hH ha
  have c5 : (w.drew.alloc (.cells #[ptr (E.sb a)] 75)).cell? ⟨p, 0, none⟩ = some (.slice s n cap) := by
    rw [← c0]
    exact World.cell?_of_block (Below.heap_alloc w.drew _ p HH.out.lt)
  have HP0 : Hid (∀ g cp w6, w6.ownsRow E.w0.heap.size 75 1 (.slice (some ⟨g, 0, none⟩) (H.length + 1) cp) (H.length + 1) (H.map E.pv ++ [ptr (E.sb a)]) → (w.drew.alloc (.cells #[ptr (E.sb a)] 75)).grownBy w6 (Value.slice s n cap).ownBlock → ((Value.slice s n cap).ownBlock = some g ∨ g = (w.drew.alloc (.cells #[ptr (E.sb a)] 75)).heap.size) → _) :=
    fun g cp w6 k1 k2 k3 => HpAt.pushed (a := a) HH.out HA.out _ ((Below.refl _ _).drew.alloc (Nat.le_refl _) _) k1 k2 k3
  rw [ex]
  clear ex
  generalize E.sb a = Q at *
  go_enter Try.func86, Try.ntmps86
  go_wp2_with fail
  refine wp_region_held_drew (S := fun _ => True) (by kernel_rfl) trivial (fun hHeld => ?_)
  refine tkX 0 (h := ?_)
  refine tkX 1 (h := ?_)
  refine tkX 2 (h := ?_)
  refine tkX 3 (h := ?_)
  refine tkX 5 (h := ?_)
  simp only [Act.put, List.getElem_toArray, List.getElem_cons_succ, List.getElem_cons_zero, List.setIfInBounds_toArray, List.set_cons_zero, List.set_cons_succ]
  refine tkW 6 (v := ptr Q) (hx := fun W _ => ?_) (h := ?_)
  · kernel_rfl
  simp only [Act.put, List.getElem_toArray, List.getElem_cons_succ, List.getElem_cons_zero, List.setIfInBounds_toArray, List.set_cons_zero, List.set_cons_succ]
  clear hHeld
  refine wpAnyH_two 4 7 (by kernel_rfl) ?_ ?_
  · refine wpOp_val (.slice s n cap) _ rfl (by kernel_rfl) (exec_loadNs _ _ _ _ rfl p 0 s n cap (by kernel_rfl) c0) ?_
    refine ⟨trivial, ?_⟩
    simp only [Act.put, List.getElem_toArray, List.getElem_cons_succ, List.getElem_cons_zero, List.setIfInBounds_toArray, List.set_cons_zero, List.set_cons_succ]
    refine wpAnyH_one 7 (by kernel_rfl) ?_
    refine wpOp_val (.slice (some ⟨w.heap.size, 0, none⟩) 1 1) (w.drew.alloc (.cells #[ptr Q] 75)) rfl (by kernel_rfl) (exec_buildHS _ _ _ _ rfl Q (by kernel_rfl)) ?_
    refine ⟨trivial, ?_⟩
    simp only [Act.put, List.getElem_toArray, List.getElem_cons_succ, List.getElem_cons_zero, List.setIfInBounds_toArray, List.set_cons_zero, List.set_cons_succ]
    refine wpAnyH_one 8 (by kernel_rfl) ?_
    refine wpOp_wp rfl (by kernel_rfl) ?_
    refine wp_append_lies _ (.tmp 8) (.tmp 11) 76 rfl E.w0.heap.size 75 i0 _ 1 8 Try.underlying76 hi hz0 hz1 hz2 rfl (by decide) (.slice s n cap) H.length (H.map E.pv) (by kernel_rfl) (Hrow.out.drew.alloc _) ⟨w.heap.size, 0, none⟩ 1 1 [ptr Q] (by kernel_rfl) rfl (news_one w.drew _ _) (by intro u' hu'; simp at hu'; rcases hu' with rfl; rfl) (by omega) (by unfold maxLen; omega) (by omega) (by simp; omega) _ rfl ?_
    intro g6 cp6 w6 hown6 hgrow6 hat6 hlt6
    have HP := hidd (HP0.out g6 cp6 w6 hown6 hgrow6 hat6)
    clear hown6 hgrow6 hat6 hlt6
    refine ⟨trivial, ?_⟩
    simp only [Act.put, List.getElem_toArray, List.getElem_cons_succ, List.getElem_cons_zero, List.setIfInBounds_toArray, List.set_cons_zero, List.set_cons_succ]
    refine tkX 9 (hS := trivial) (h := ?_)
    refine tkX 10 (hS := trivial) (h := ?_)
    simp only [Act.put, List.getElem_toArray, List.getElem_cons_succ, List.getElem_cons_zero, List.setIfInBounds_toArray, List.set_cons_zero, List.set_cons_succ]
    refine wpAnyH_one 11 (by kernel_rfl) ?_
    refine wpOp_skip (w6.setCell ⟨p, 0, none⟩ (.slice (some ⟨g6, 0, none⟩) (H.length + 1) cp6)) rfl (by kernel_rfl) (exec_storeNs _ _ _ _ _ rfl p 0 _ _ _ (.slice s n cap) (by kernel_rfl) (by kernel_rfl) (blkc HP.out.1 0) (blkf HP.out.1 0)) ?_
    refine ⟨trivial, ?_⟩
    simp only [Act.put, List.getElem_toArray, List.getElem_cons_succ, List.getElem_cons_zero, List.setIfInBounds_toArray, List.set_cons_zero, List.set_cons_succ]
    refine wpAnyH_done (by kernel_rfl) ?_ _
    go_wp2_with fail
    first | go_end0 | refine bodyPost_ret (results_none rfl _ _ _) rfl ?_
    exact ⟨rfl, _, HP.out.2 0⟩
  · refine wpOp_val (.slice (some ⟨w.heap.size, 0, none⟩) 1 1) (w.drew.alloc (.cells #[ptr Q] 75)) rfl (by kernel_rfl) (exec_buildHS _ _ _ _ rfl Q (by kernel_rfl)) ?_
    refine ⟨trivial, ?_⟩
    simp only [Act.put, List.getElem_toArray, List.getElem_cons_succ, List.getElem_cons_zero, List.setIfInBounds_toArray, List.set_cons_zero, List.set_cons_succ]
    refine wpAnyH_one 4 (by kernel_rfl) ?_
    refine wpOp_val (.slice s n cap) _ rfl (by kernel_rfl) (exec_loadNs _ _ _ _ rfl p 0 s n cap (by kernel_rfl) c5) ?_
    refine ⟨trivial, ?_⟩
    simp only [Act.put, List.getElem_toArray, List.getElem_cons_succ, List.getElem_cons_zero, List.setIfInBounds_toArray, List.set_cons_zero, List.set_cons_succ]
    refine wpAnyH_one 8 (by kernel_rfl) ?_
    refine wpOp_wp rfl (by kernel_rfl) ?_
    refine wp_append_lies _ (.tmp 8) (.tmp 11) 76 rfl E.w0.heap.size 75 i0 _ 1 8 Try.underlying76 hi hz0 hz1 hz2 rfl (by decide) (.slice s n cap) H.length (H.map E.pv) (by kernel_rfl) (Hrow.out.drew.alloc _) ⟨w.heap.size, 0, none⟩ 1 1 [ptr Q] (by kernel_rfl) rfl (news_one w.drew _ _) (by intro u' hu'; simp at hu'; rcases hu' with rfl; rfl) (by omega) (by unfold maxLen; omega) (by omega) (by simp; omega) _ rfl ?_
    intro g6 cp6 w6 hown6 hgrow6 hat6 hlt6
    have HP := hidd (HP0.out g6 cp6 w6 hown6 hgrow6 hat6)
    clear hown6 hgrow6 hat6 hlt6
    refine ⟨trivial, ?_⟩
    simp only [Act.put, List.getElem_toArray, List.getElem_cons_succ, List.getElem_cons_zero, List.setIfInBounds_toArray, List.set_cons_zero, List.set_cons_succ]
    refine tkX 9 (hS := trivial) (h := ?_)
    refine tkX 10 (hS := trivial) (h := ?_)
    simp only [Act.put, List.getElem_toArray, List.getElem_cons_succ, List.getElem_cons_zero, List.setIfInBounds_toArray, List.set_cons_zero, List.set_cons_succ]
    refine wpAnyH_one 11 (by kernel_rfl) ?_
    refine wpOp_skip (w6.setCell ⟨p, 0, none⟩ (.slice (some ⟨g6, 0, none⟩) (H.length + 1) cp6)) rfl (by kernel_rfl) (exec_storeNs _ _ _ _ _ rfl p 0 _ _ _ (.slice s n cap) (by kernel_rfl) (by kernel_rfl) (blkc HP.out.1 0) (blkf HP.out.1 0)) ?_
    refine ⟨trivial, ?_⟩
    simp only [Act.put, List.getElem_toArray, List.getElem_cons_succ, List.getElem_cons_zero, List.setIfInBounds_toArray, List.set_cons_zero, List.set_cons_succ]
    refine wpAnyH_done (by kernel_rfl) ?_ _
    go_wp2_with fail
    first | go_end0 | refine bodyPost_ret (results_none rfl _ _ _) rfl ?_
    exact ⟨rfl, _, HP.out.2 0⟩
set_option maxHeartbeats 4000000 in
theorem hpop_any (E : MEnv) (w : World) (p : Nat) (v : Value) (H : List Nat) (n : Nat) (hn : H.length = n + 1) (hl : H.length ≤ 1048576) (hH : HpAt E w p v H) :
    Calls Try.prog 85 #[.pointer (some ⟨p, 0, none⟩)] w fun e w' => e = .returned (.iface 75 (E.pv (H.getD n 0))) ∧ ∃ v', HpAt E w' p v' (H.take n) ∧ Mv p w v w' v' ∧ v'.ownBlock = v.ownBlock := by
  obtain ⟨g, cap, rfl, hg1, hg2, hg3⟩ := own1_form hH.row (by omega)
  have c0 : w.cell? ⟨p, 0, none⟩ = some (.slice (some ⟨g, 0, none⟩) H.length cap) := blkc hH.box 0
  have f0 : w.frozen? ⟨p, 0, none⟩ = false := blkf hH.box 0
  have x0 := row_at hH.row n (by omega)
  have hpl := hH.lt
  have hpg : ¬ g = p := fun e => hH.ne (by rw [e]; rfl)
  have hln : (H.take n).length = n := by rw [List.length_take]; omega
  have HE : Hid (HpAt E (w.setCell ⟨p, 0, none⟩ (.slice (some ⟨g, 0, none⟩) n cap)) p (.slice (some ⟨g, 0, none⟩) n cap) (H.take n) ∧ Mv p w (.slice (some ⟨g, 0, none⟩) H.length cap) (w.setCell ⟨p, 0, none⟩ (.slice (some ⟨g, 0, none⟩) n cap)) (.slice (some ⟨g, 0, none⟩) n cap)) := by
    have hbut : But (fun b => b = p) w (w.setCell ⟨p, 0, none⟩ (.slice (some ⟨g, 0, none⟩) n cap)) := (But.refl (fun b => b = p) w).set p 0 _ rfl
    refine ⟨⟨hH.ok, hH.bel.trans (hbut.below hH.bel.size (fun b hb e => by have := hH.pge; omega)), hH.pge, ?_, ?_, fun t ht htd => ?_⟩, ⟨hbut.mono fun b _ e => .inl e, .inl rfl⟩⟩
    · have := blk_setk hH.box 0 (.slice (some ⟨g, 0, none⟩) n cap)
      simpa using this
    · rw [hln, List.map_take]
      refine own_congr (w := w) (own1_cut hH.row (by omega)) fun b e => ?_
      have e2 : g = b := Option.some.inj e
      subst e2
      exact heap_set_other _ p 0 _ g hpg
    · have ht2 := List.mem_of_mem_take ht
      exact (hH.src t ht2 htd).keep (hbut.block _ (hH.src t ht2 htd).lt fun e => hH.apart ht2 htd (.inl e))
  clear hH hln
  have ex : E.pv (H.getD n 0) = ptr (E.sb (H.getD n 0)) := rfl
  rw [ex]
  clear ex
  generalize E.sb (H.getD n 0) = Q at *
  generalize H.take n = H' at *
  generalize hL : H.length = L at *
  have hLz : (L : Int) - 1 = (n : Int) := by omega
  have hnL : (n : Int) < (L : Int) := by omega
  have hncap : n ≤ cap := by omega
  clear hL
  go_enter Try.func85, Try.ntmps85
  go_wp2_with fail
  go_ret
  exact ⟨rfl, _, HE.out.1, HE.out.2, rfl⟩
end Go.Proofs.Ytcnjmjcbhelkhaa
