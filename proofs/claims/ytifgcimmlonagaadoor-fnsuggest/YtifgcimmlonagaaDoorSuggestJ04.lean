import Derived.Test.YtifgcimmlonagaaDoorSuggestJ03
namespace Go.Proofs.YtifgcimmlonagaaDoor
open Go Go.RowKit
set_option linter.unusedVariables false
set_option maxRecDepth 100000
set_option linter.unusedSimpArgs false

/-! A heap in memory, and its methods. -/
theorem Tryd.infoNW : (Tryd.prog.info? 59).map (fun i => (i.zero, i.size, i.bytes)) = some (some (.agg #[.int .i64 0, .string ⟨#[]⟩]), 2, 24) := by kernel_rfl
def nwCells (l : List NW) : List Value := l.flatMap fun a => [.int .i64 (a.1 : Int), .string (bs a.2)]
theorem nwCells_cons (a : NW) (l : List NW) : nwCells (a :: l) = .int .i64 (a.1 : Int) :: .string (bs a.2) :: nwCells l := by simp [nwCells]
theorem nwCells_len : ∀ l : List NW, (nwCells l).length = l.length * 2
  | [] => rfl
  | a :: l => by rw [nwCells_cons, List.length_cons, List.length_cons, nwCells_len l, List.length_cons]; omega
theorem nwCells_snoc (l : List NW) (a : NW) : nwCells (l ++ [a]) = nwCells l ++ [.int .i64 (a.1 : Int), .string (bs a.2)] := by simp [nwCells]
theorem nwCells_at : ∀ (l : List NW) (k : Nat), k < l.length → (nwCells l)[k * 2]? = some (.int .i64 ((l.getD k nw0).1 : Int)) ∧ (nwCells l)[k * 2 + 1]? = some (.string (bs (l.getD k nw0).2))
  | a :: l, 0, _ => by rw [nwCells_cons]; exact ⟨rfl, rfl⟩
  | a :: l, k + 1, h => by
    have ih := nwCells_at l k (by simpa using h)
    rw [nwCells_cons, show (k + 1) * 2 = k * 2 + 1 + 1 by omega]
    simpa using ih
theorem nwCells_set : ∀ (l : List NW) (k : Nat) (a : NW), k < l.length → ((nwCells l).set (k * 2) (.int .i64 (a.1 : Int))).set (k * 2 + 1) (.string (bs a.2)) = nwCells (l.set k a)
  | b :: l, 0, a, _ => by simp [nwCells]
  | b :: l, k + 1, a, h => by
    have ih := nwCells_set l k a (by simpa using h)
    rw [List.set_cons_succ, nwCells_cons, nwCells_cons, show (k + 1) * 2 = k * 2 + 1 + 1 by omega]
    simp only [List.set_cons_succ]
    rw [ih]
theorem nwCells_take : ∀ (l : List NW) (k : Nat), (nwCells l).take (k * 2) = nwCells (l.take k)
  | [], k => by simp [nwCells]
  | b :: l, 0 => by simp [nwCells]
  | b :: l, k + 1 => by
    rw [nwCells_cons, show (k + 1) * 2 = k * 2 + 1 + 1 by omega, List.take_succ_cons, List.take_succ_cons, nwCells_take l k, List.take_succ_cons, nwCells_cons]
theorem own2_form {w : World} {base e n : Nat} {v : Value} {xs : List Value} (h : w.ownsRow base e 2 v n xs) (hn : 0 < n) : ∃ g cap, v = .slice (some ⟨g, 0, none⟩) n cap ∧ base ≤ g ∧ g < w.heap.size ∧ n ≤ cap := by
  rcases h.2 with ⟨_, h'⟩ | ⟨g, cap, cur, h1, hb, hg, hc, _⟩
  · omega
  · exact ⟨g, cap, h1, hb, (Array.getElem?_eq_some_iff.1 hg).1, hc⟩
theorem own2_set {w : World} {base e n g cap : Nat} {xs : List Value} (h : w.ownsRow base e 2 (.slice (some ⟨g, 0, none⟩) n cap) n xs) (k : Nat) (u : Value) :
    (w.setCell ⟨g, k, none⟩ u).ownsRow base e 2 (.slice (some ⟨g, 0, none⟩) n cap) n (xs.set k u) := by
  refine ⟨by rw [List.length_set]; exact h.1, ?_⟩
  rcases h.2 with ⟨h', _⟩ | ⟨g', cap', cur, h1, h2, h3, h4, h5, h6, h7⟩
  · cases h'
  · simp only [Value.slice.injEq, Option.some.injEq, Addr.mk.injEq, and_true, true_and] at h1
    obtain ⟨rfl, rfl⟩ := h1
    refine Or.inr ⟨g, cap, cur.setIfInBounds k u, rfl, h2, blk_setk h3 k u, h4, h5, by rw [Array.size_setIfInBounds]; exact h6, ?_⟩
    rw [Array.toList_setIfInBounds, List.take_set, h7]
theorem own2_put {w : World} {base e g cap : Nat} {l : List NW} (h : w.ownsRow base e 2 (.slice (some ⟨g, 0, none⟩) l.length cap) l.length (nwCells l)) (k : Nat) (a : NW) (hk : k < l.length) :
    ((w.setCell ⟨g, k * 2, none⟩ (.int .i64 (a.1 : Int))).setCell ⟨g, k * 2 + 1, none⟩ (.string (bs a.2))).ownsRow base e 2 (.slice (some ⟨g, 0, none⟩) l.length cap) l.length (nwCells (l.set k a)) := by
  rw [← nwCells_set l k a hk]
  exact own2_set (own2_set h (k * 2) _) (k * 2 + 1) _
theorem own2_cut {w : World} {base e n g cap i : Nat} {xs : List Value} (h : w.ownsRow base e 2 (.slice (some ⟨g, 0, none⟩) n cap) n xs) (hi : i ≤ n) :
    w.ownsRow base e 2 (.slice (some ⟨g, 0, none⟩) i cap) i (xs.take (i * 2)) := by
  refine ⟨by rw [List.length_take, h.1]; omega, ?_⟩
  rcases h.2 with ⟨h', _⟩ | ⟨g', cap', cur, h1, h2, h3, h4, h5, h6, h7⟩
  · cases h'
  · simp only [Value.slice.injEq, Option.some.injEq, Addr.mk.injEq, and_true, true_and] at h1
    obtain ⟨rfl, rfl⟩ := h1
    refine Or.inr ⟨g, cap, cur, rfl, h2, h3, by omega, h5, h6, ?_⟩
    rw [← h7, List.take_take, Nat.min_eq_left (by omega)]
theorem own2_cells {w : World} {base e g cap : Nat} {l : List NW} (h : w.ownsRow base e 2 (.slice (some ⟨g, 0, none⟩) l.length cap) l.length (nwCells l)) (t : Nat) (ht : t < l.length) :
    w.cell? ⟨g, t * 2, none⟩ = some (.int .i64 ((l.getD t nw0).1 : Int)) ∧ w.cell? ⟨g, t * 2 + 1, none⟩ = some (.string (bs (l.getD t nw0).2)) := by
  refine ⟨?_, ?_⟩
  · rw [h.cellAt (t * 2) (by omega)]; exact (nwCells_at l t ht).1
  · rw [h.cellAt (t * 2 + 1) (by omega)]; exact (nwCells_at l t ht).2
theorem own2_frozen {w : World} {base e n g cap : Nat} {xs : List Value} (h : w.ownsRow base e 2 (.slice (some ⟨g, 0, none⟩) n cap) n xs) (k : Nat) : w.frozen? ⟨g, k, none⟩ = false := by
  rcases h.2 with ⟨h', _⟩ | ⟨g', cap', cur, h1, h2, h3, h4, h5, h6, h7⟩
  · cases h'
  · simp only [Value.slice.injEq, Option.some.injEq, Addr.mk.injEq, and_true, true_and] at h1
    obtain ⟨rfl, rfl⟩ := h1
    exact frozen_of_row w g k _ _ h3
/-- What compares. -/
def cmpV : Value := .func (.func 31) #[] #[]
structure HpAt (w : World) (base p : Nat) (v : Value) (H : List NW) : Prop where
  box : w.heap[p]? = some (.cells #[v, cmpV] 81)
  row : w.ownsRow base 59 2 v H.length (nwCells H)
theorem HpAt.lt {w : World} {base p : Nat} {v : Value} {H : List NW} (h : HpAt w base p v H) : p < w.heap.size := (Array.getElem?_eq_some_iff.1 h.box).1
theorem HpAt.ne {w : World} {base p : Nat} {v : Value} {H : List NW} (h : HpAt w base p v H) : v.ownBlock ≠ some p := by
  intro e
  obtain ⟨_, cur, hc⟩ := own_blk h.row e
  exact blk_ne h.box hc (by decide) rfl
theorem HpAt.but {X : Nat → Prop} {w w' : World} {base p : Nat} {v : Value} {H : List NW} (h : HpAt w base p v H) (hb : But X w w') (hp : ¬ X p) (hv : ∀ b, v.ownBlock = some b → ¬ X b) : HpAt w' base p v H :=
  ⟨(hb.block p h.lt hp).trans h.box, own_congr h.row fun b e => hb.block b (h.row.lt b e).2 (hv b e)⟩
theorem HpAt.below {w w' : World} {base p : Nat} {v : Value} {H : List NW} (h : HpAt w base p v H) (hb : Below w.heap.size w w') : HpAt w' base p v H :=
  h.but (X := fun _ => False) (But.of_below hb) (fun h => h) (fun _ _ h => h)
/-- What a method may touch: the box, and the row that it had. -/
structure Mv (p : Nat) (w : World) (v : Value) (w' : World) (v' : Value) : Prop where
  but : But (fun b => b = p ∨ v.ownBlock = some b) w w'
  new : v'.ownBlock = v.ownBlock ∨ ∀ b, v'.ownBlock = some b → w.heap.size ≤ b
theorem Mv.refl (p : Nat) (w : World) (v : Value) : Mv p w v w v := ⟨But.refl _ _, .inl rfl⟩
theorem Mv.of_below {p : Nat} {w w' : World} {v : Value} (h : Below w.heap.size w w') : Mv p w v w' v := ⟨But.of_below h, .inl rfl⟩
theorem Mv.trans {p : Nat} {a b c : World} {u v x : Value} (h : Mv p a u b v) (k : Mv p b v c x) : Mv p a u c x := by
  refine ⟨h.but.trans k.but (fun _ _ h => h) (fun i hi hx => ?_), ?_⟩
  · rcases hx with hx | hx
    · exact .inl hx
    · rcases h.new with hn | hn
      · exact .inr (hn ▸ hx)
      · have := hn i hx; omega
  · rcases k.new with kn | kn
    · rcases h.new with hn | hn
      · exact .inl (kn.trans hn)
      · exact .inr fun b hb => hn b (kn ▸ hb)
    · exact .inr fun b hb => Nat.le_trans h.but.size (kn b hb)
theorem hlen_any (w : World) (base p : Nat) (v : Value) (H : List NW) (hH : HpAt w base p v H) :
    Calls Tryd.prog 50 #[.pointer (some ⟨p, 0, none⟩)] w fun e w' => e = .returned (.int .i64 (H.length : Int)) ∧ w' = w := by
  have c0 := blkc hH.box 0
  simp only [List.getElem?_toArray, List.getElem?_cons_zero] at c0
  have hv : ∃ a cap, v = .slice a H.length cap := by
    rcases hH.row.2 with ⟨h1, h2⟩ | ⟨g, cap, cur, h1, _⟩
    · exact ⟨none, 0, by rw [h2]; exact h1⟩
    · exact ⟨_, _, h1⟩
  obtain ⟨a, cap, rfl⟩ := hv
  clear hH
  go_enter Tryd.func50, Tryd.ntmps50
  go_wp2
  go_ret
  exact ⟨rfl, rfl⟩
set_option maxHeartbeats 4000000 in
theorem hless_any (w : World) (base p : Nat) (v : Value) (H : List NW) (i j : Nat) (hi : i < H.length) (hj : j < H.length) (hl : H.length ≤ 1048576) (hH : HpAt w base p v H) :
    Calls Tryd.prog 104 #[.pointer (some ⟨p, 0, none⟩), .int .i64 (i : Int), .int .i64 (j : Int)] w fun e w' => e = .returned (.bool (gtW (H.getD i nw0) (H.getD j nw0))) ∧ Below w.heap.size w w' := by
  obtain ⟨g, cap, rfl, hg1, hg2, hg3⟩ := own2_form hH.row (by omega)
  have c0 : w.cell? ⟨p, 0, none⟩ = some (.slice (some ⟨g, 0, none⟩) H.length cap) := blkc hH.box 0
  have c1 : w.cell? ⟨p, 1, none⟩ = some cmpV := blkc hH.box 1
  rw [cmpV] at c1
  obtain ⟨x0, x1⟩ := own2_cells hH.row i hi
  obtain ⟨y0, y1⟩ := own2_cells hH.row j hj
  have hiz : (i : Int) < (H.length : Int) := by omega
  have hjz : (j : Int) < (H.length : Int) := by omega
  have HC : Hid (∀ W, Calls Tryd.prog 31 #[.agg #[.int .i64 ((H.getD i nw0).1 : Int), .string (bs (H.getD i nw0).2)], .agg #[.int .i64 ((H.getD j nw0).1 : Int), .string (bs (H.getD j nw0).2)]] W fun e w' => ∃ z, e = .returned (.int .i64 z) ∧ decide (z > 0) = gtW (H.getD i nw0) (H.getD j nw0) ∧ Below W.heap.size W w') := fun W => cmpW_any _ _ W
  generalize gtW (H.getD i nw0) (H.getD j nw0) = r at *
  generalize ((H.getD i nw0).1 : Int) = a1 at *
  generalize ((H.getD j nw0).1 : Int) = b1 at *
  generalize bs (H.getD i nw0).2 = a2 at *
  generalize bs (H.getD j nw0).2 = b2 at *
  have hpl := hH.lt
  generalize H.length = n at *
  clear hH
  go_enter Tryd.func104, Tryd.ntmps104
  go_wp2_with fail
  go_region_held3 (fun W => W.cell? ⟨p, 0, none⟩ = some (.slice (some ⟨g, 0, none⟩) n cap) ∧ W.cell? ⟨p, 1, none⟩ = some (.func (.func 31) #[] #[]) ∧ W.cell? ⟨g, i * 2, none⟩ = some (.int .i64 a1) ∧ W.cell? ⟨g, i * 2 + 1, none⟩ = some (.string a2) ∧ W.cell? ⟨g, j * 2, none⟩ = some (.int .i64 b1) ∧ W.cell? ⟨g, j * 2 + 1, none⟩ = some (.string b2))
    (first | exact ⟨c0, c1, x0, x1, y0, y1⟩ | exact S1.out | go_keep)
    ((go_at_call 31; refine (HC.out _).mono ?_; rintro e w' ⟨z, rfl, hz, hb⟩; have HZ := hidd hz; have HB : Hid (Below w.heap.size w w') := (by first | exact hb | exact (below_drewN (Below.refl _ _) 1).trans hb); have S1 := hidd (And.intro ((HB.out.cell (p := ⟨p, 0, none⟩) hpl).trans c0) (And.intro ((HB.out.cell (p := ⟨p, 1, none⟩) hpl).trans c1) (And.intro ((HB.out.cell (p := ⟨g, i * 2, none⟩) hg2).trans x0) (And.intro ((HB.out.cell (p := ⟨g, i * 2 + 1, none⟩) hg2).trans x1) (And.intro ((HB.out.cell (p := ⟨g, j * 2, none⟩) hg2).trans y0) ((HB.out.cell (p := ⟨g, j * 2 + 1, none⟩) hg2).trans y1)))))); clear hz hb))
  all_goals
    go_wp2_with fail
    go_ret
    exact ⟨by rw [← HZ.out]; rfl, HB.out⟩
theorem exec_loadNW (W : World) (ρ : Operand → Value) (o : Oper) (x : Operand) (ho : o.op = .load 59 x) (b off : Nat) (u0 u1 : Value) (hx : ρ x = .pointer (some ⟨b, off, none⟩))
    (h0 : W.cell? ⟨b, off, none⟩ = some u0) (h1 : W.cell? ⟨b, off + 1, none⟩ = some u1) : (execOp ρ o).run Tryd.prog W = .ok (.value (.agg #[u0, u1])) W := by
  unfold execOp
  simp only [ho, Instr.loadAt, Instr.sureAddr, hx, Sem.run_bind, Sem.run_pure, Result.andThen_ok]
  go_simp
theorem exec_storeNW (W : World) (ρ : Operand → Value) (o : Oper) (x y : Operand) (ho : o.op = .store 59 x y) (b off : Nat) (z : Int) (t : ByteArray) (u0 u1 : Value) (hx : ρ x = .pointer (some ⟨b, off, none⟩)) (hy : ρ y = .agg #[.int .i64 z, .string t])
    (h0 : W.cell? ⟨b, off, none⟩ = some u0) (h1 : W.cell? ⟨b, off + 1, none⟩ = some u1) (f0 : W.frozen? ⟨b, off, none⟩ = false) (f1 : W.frozen? ⟨b, off + 1, none⟩ = false) :
    (execOp ρ o).run Tryd.prog W = .ok .skip ((W.setCell ⟨b, off, none⟩ (.int .i64 z)).setCell ⟨b, off + 1, none⟩ (.string t)) := by
  unfold execOp
  simp only [ho, Instr.storeAt, Instr.sureAddr, hx, hy, Sem.run_bind, Sem.run_pure, Result.andThen_ok]
  go_simp
set_option maxHeartbeats 4000000 in
theorem hswap_any (w : World) (base p : Nat) (v : Value) (H : List NW) (i j : Nat) (hi : i < H.length) (hj : j < H.length) (hl : H.length ≤ 1048576) (hH : HpAt w base p v H) :
    Calls Tryd.prog 107 #[.pointer (some ⟨p, 0, none⟩), .int .i64 (i : Int), .int .i64 (j : Int)] w fun e w' => e = .returned (.tuple #[]) ∧ HpAt w' base p v (swp nw0 H i j) ∧ Mv p w v w' v := by
  obtain ⟨g, cap, rfl, hg1, hg2, hg3⟩ := own2_form hH.row (by omega)
  have c0 : w.cell? ⟨p, 0, none⟩ = some (.slice (some ⟨g, 0, none⟩) H.length cap) := blkc hH.box 0
  obtain ⟨x0, x1⟩ := own2_cells hH.row i hi
  obtain ⟨y0, y1⟩ := own2_cells hH.row j hj
  have fz : ∀ k, w.frozen? ⟨g, k, none⟩ = false := own2_frozen hH.row
  have hiz : (i : Int) < (H.length : Int) := by omega
  have hjz : (j : Int) < (H.length : Int) := by omega
  have hpg : ¬ p = g := fun e => hH.ne (by rw [e]; rfl)
  obtain ⟨x, hx⟩ : ∃ x, H.getD i nw0 = x := ⟨_, rfl⟩
  obtain ⟨y, hy⟩ : ∃ y, H.getD j nw0 = y := ⟨_, rfl⟩
  have HE : Hid (∀ W, (W = ((((w.setCell ⟨g, i * 2, none⟩ (.int .i64 (y.1 : Int))).setCell ⟨g, i * 2 + 1, none⟩ (.string (bs y.2))).setCell ⟨g, j * 2, none⟩ (.int .i64 (x.1 : Int))).setCell ⟨g, j * 2 + 1, none⟩ (.string (bs x.2))) ∨ W = ((((w.setCell ⟨g, j * 2, none⟩ (.int .i64 (x.1 : Int))).setCell ⟨g, j * 2 + 1, none⟩ (.string (bs x.2))).setCell ⟨g, i * 2, none⟩ (.int .i64 (y.1 : Int))).setCell ⟨g, i * 2 + 1, none⟩ (.string (bs y.2)))) → ∀ q, HpAt (W.drewN q) base p (.slice (some ⟨g, 0, none⟩) H.length cap) (swp nw0 H i j) ∧ Mv p w (.slice (some ⟨g, 0, none⟩) H.length cap) (W.drewN q) (.slice (some ⟨g, 0, none⟩) H.length cap)) := by
    intro W hW q
    have hrow : W.ownsRow base 59 2 (.slice (some ⟨g, 0, none⟩) H.length cap) H.length (nwCells (swp nw0 H i j)) := by
      rcases hW with rfl | rfl
      · have h1 := own2_put hH.row i y hi
        have h2 := own2_put (l := H.set i y) (by rw [List.length_set]; exact h1) j x (by rw [List.length_set]; exact hj)
        rw [List.length_set] at h2
        rw [swp, hx, hy]
        exact h2
      · have h1 := own2_put hH.row j x hj
        have h2 := own2_put (l := H.set j x) (by rw [List.length_set]; exact h1) i y (by rw [List.length_set]; exact hi)
        rw [List.length_set] at h2
        rw [swp_comm nw0 H i j hi hj, swp, hx, hy]
        exact h2
    have hbut : But (fun b => b = p ∨ (Value.slice (some ⟨g, 0, none⟩) H.length cap).ownBlock = some b) w W := by
      rcases hW with rfl | rfl
      · exact ((((But.refl _ w).set g _ _ (.inr rfl)).set g _ _ (.inr rfl)).set g _ _ (.inr rfl)).set g _ _ (.inr rfl)
      · exact ((((But.refl _ w).set g _ _ (.inr rfl)).set g _ _ (.inr rfl)).set g _ _ (.inr rfl)).set g _ _ (.inr rfl)
    have hbox : W.heap[p]? = w.heap[p]? := by
      rcases hW with rfl | rfl
      · rw [heap_set_other _ _ _ _ _ hpg, heap_set_other _ _ _ _ _ hpg, heap_set_other _ _ _ _ _ hpg, heap_set_other _ _ _ _ _ hpg]
      · rw [heap_set_other _ _ _ _ _ hpg, heap_set_other _ _ _ _ _ hpg, heap_set_other _ _ _ _ _ hpg, heap_set_other _ _ _ _ _ hpg]
    refine ⟨⟨hbox.trans hH.box, ?_⟩, ⟨hbut.drewN q, .inl rfl⟩⟩
    rw [swp_len]
    exact hrow
  have hR1 := own2_put hH.row i y hi
  obtain ⟨z0, z1⟩ := own2_cells (l := H.set i y) (by rw [List.length_set]; exact hR1) j (by rw [List.length_set]; exact hj)
  have g0 := own2_frozen hR1 (j * 2)
  have g1 := own2_frozen hR1 (j * 2 + 1)
  have c0' : ((w.setCell ⟨g, i * 2, none⟩ (.int .i64 (y.1 : Int))).setCell ⟨g, i * 2 + 1, none⟩ (.string (bs y.2))).cell? ⟨p, 0, none⟩ = some (.slice (some ⟨g, 0, none⟩) H.length cap) := by
    rw [← c0]
    exact World.cell?_of_block (by simp only [heap_set_other _ _ _ _ _ hpg])
  have c0'' : ((((w.setCell ⟨g, i * 2, none⟩ (.int .i64 (y.1 : Int))).setCell ⟨g, i * 2 + 1, none⟩ (.string (bs y.2))).setCell ⟨g, j * 2, none⟩ (.int .i64 (x.1 : Int))).setCell ⟨g, j * 2 + 1, none⟩ (.string (bs x.2))).cell? ⟨p, 0, none⟩ = some (.slice (some ⟨g, 0, none⟩) H.length cap) := by
    rw [← c0]
    exact World.cell?_of_block (by simp only [heap_set_other _ _ _ _ _ hpg])
  clear hR1
  rw [hx] at x0 x1
  rw [hy] at y0 y1
  have fi0 := fz (i * 2)
  have fi1 := fz (i * 2 + 1)
  have fj0 := fz (j * 2)
  have fj1 := fz (j * 2 + 1)
  clear fz hx hy hH
  generalize (x.1 : Int) = a1 at *
  generalize (y.1 : Int) = b1 at *
  generalize bs x.2 = a2 at *
  generalize bs y.2 = b2 at *
  generalize swp nw0 H i j = H' at *
  generalize H.length = n at *
  go_enter Tryd.func107, Tryd.ntmps107
  go_wp2_with fail
  refine wp_region_held_drew (S := fun W => W.cell? ⟨p, 0, none⟩ = some (.slice (some ⟨g, 0, none⟩) n cap)) (by kernel_rfl) ?_ (fun hHeld => ?_)
  · exact c0
  refine tkX 0 (h := ?_)
  refine tkX 1 (h := ?_)
  refine tkX 2 (h := ?_)
  refine tkX 3 (h := ?_)
  refine tkX 4 (h := ?_)
  (simp only [Act.put, List.getElem_toArray, List.getElem_cons_succ, List.getElem_cons_zero, List.setIfInBounds_toArray, List.set_cons_zero, List.set_cons_succ])
  refine tkX 5 (h := ?_)
  refine tkX 6 (h := ?_)
  refine tkX 7 (h := ?_)
  refine tkX 8 (h := ?_)
  refine tkX 9 (h := ?_)
  (simp only [Act.put, List.getElem_toArray, List.getElem_cons_succ, List.getElem_cons_zero, List.setIfInBounds_toArray, List.set_cons_zero, List.set_cons_succ])
  refine tkX 10 (h := ?_)
  refine tkX 11 (h := ?_)
  refine tkX 12 (h := ?_)
  refine tkX 13 (h := ?_)
  refine tkX 14 (h := ?_)
  (simp only [Act.put, List.getElem_toArray, List.getElem_cons_succ, List.getElem_cons_zero, List.setIfInBounds_toArray, List.set_cons_zero, List.set_cons_succ])
  refine tkX 15 (h := ?_)
  refine tkX 17 (h := ?_)
  refine tkX 18 (h := ?_)
  refine tkX 19 (h := ?_)
  refine tkX 20 (h := ?_)
  (simp only [Act.put, List.getElem_toArray, List.getElem_cons_succ, List.getElem_cons_zero, List.setIfInBounds_toArray, List.set_cons_zero, List.set_cons_succ])
  refine tkX 21 (h := ?_)
  refine tkX 22 (h := ?_)
  try simp only [Act.put, List.getElem_toArray, List.getElem_cons_succ, List.getElem_cons_zero, List.setIfInBounds_toArray, List.set_cons_zero, List.set_cons_succ]
  clear hHeld
  refine wpAnyH_two 16 23 (by kernel_rfl) ?_ ?_
  · refine wpOp_val (.agg #[.int .i64 b1, .string b2]) _ rfl (by kernel_rfl) (exec_loadNW _ _ _ _ rfl g (j * 2) _ _ (by kernel_rfl) y0 y1) ?_
    refine ⟨c0, ?_⟩
    simp only [Act.put, List.getElem_toArray, List.getElem_cons_succ, List.getElem_cons_zero, List.setIfInBounds_toArray, List.set_cons_zero, List.set_cons_succ]
    refine wpAnyH_one 23 (by kernel_rfl) ?_
    refine wpOp_val (.agg #[.int .i64 a1, .string a2]) _ rfl (by kernel_rfl) (exec_loadNW _ _ _ _ rfl g (i * 2) _ _ (by kernel_rfl) x0 x1) ?_
    refine ⟨c0, ?_⟩
    simp only [Act.put, List.getElem_toArray, List.getElem_cons_succ, List.getElem_cons_zero, List.setIfInBounds_toArray, List.set_cons_zero, List.set_cons_succ]
    refine tkX 24 (hS := c0) (h := ?_)
    simp only [Act.put, List.getElem_toArray, List.getElem_cons_succ, List.getElem_cons_zero, List.setIfInBounds_toArray, List.set_cons_zero, List.set_cons_succ]
    refine wpAnyH_one 25 (by kernel_rfl) ?_
    refine wpOp_skip ((w.drew.setCell ⟨g, i * 2, none⟩ (.int .i64 b1)).setCell ⟨g, i * 2 + 1, none⟩ (.string b2)) rfl (by kernel_rfl) (exec_storeNW _ _ _ _ _ rfl g (i * 2) _ _ _ _ (by kernel_rfl) (by kernel_rfl) x0 x1 fi0 fi1) ?_
    refine ⟨c0', ?_⟩
    simp only [Act.put, List.getElem_toArray, List.getElem_cons_succ, List.getElem_cons_zero, List.setIfInBounds_toArray, List.set_cons_zero, List.set_cons_succ]
    refine tkX 26 (hS := c0') (h := ?_)
    simp only [Act.put, List.getElem_toArray, List.getElem_cons_succ, List.getElem_cons_zero, List.setIfInBounds_toArray, List.set_cons_zero, List.set_cons_succ]
    refine wpAnyH_one 27 (by kernel_rfl) ?_
    refine wpOp_skip ((((w.drew.setCell ⟨g, i * 2, none⟩ (.int .i64 b1)).setCell ⟨g, i * 2 + 1, none⟩ (.string b2)).setCell ⟨g, j * 2, none⟩ (.int .i64 a1)).setCell ⟨g, j * 2 + 1, none⟩ (.string a2)) rfl (by kernel_rfl) (exec_storeNW _ _ _ _ _ rfl g (j * 2) _ _ _ _ (by kernel_rfl) (by kernel_rfl) z0 z1 g0 g1) ?_
    refine ⟨c0'', ?_⟩
    simp only [Act.put, List.getElem_toArray, List.getElem_cons_succ, List.getElem_cons_zero, List.setIfInBounds_toArray, List.set_cons_zero, List.set_cons_succ]
    refine wpAnyH_done (by kernel_rfl) ?_ _
    go_wp2_with fail
    first | go_end0 | refine bodyPost_ret (results_none rfl _ _ _) rfl ?_
    exact ⟨rfl, HE.out _ (.inl rfl) 1⟩
  · refine wpOp_val (.agg #[.int .i64 a1, .string a2]) _ rfl (by kernel_rfl) (exec_loadNW _ _ _ _ rfl g (i * 2) _ _ (by kernel_rfl) x0 x1) ?_
    refine ⟨c0, ?_⟩
    simp only [Act.put, List.getElem_toArray, List.getElem_cons_succ, List.getElem_cons_zero, List.setIfInBounds_toArray, List.set_cons_zero, List.set_cons_succ]
    refine wpAnyH_one 16 (by kernel_rfl) ?_
    refine wpOp_val (.agg #[.int .i64 b1, .string b2]) _ rfl (by kernel_rfl) (exec_loadNW _ _ _ _ rfl g (j * 2) _ _ (by kernel_rfl) y0 y1) ?_
    refine ⟨c0, ?_⟩
    simp only [Act.put, List.getElem_toArray, List.getElem_cons_succ, List.getElem_cons_zero, List.setIfInBounds_toArray, List.set_cons_zero, List.set_cons_succ]
    refine tkX 24 (hS := c0) (h := ?_)
    simp only [Act.put, List.getElem_toArray, List.getElem_cons_succ, List.getElem_cons_zero, List.setIfInBounds_toArray, List.set_cons_zero, List.set_cons_succ]
    refine wpAnyH_one 25 (by kernel_rfl) ?_
    refine wpOp_skip ((w.drew.setCell ⟨g, i * 2, none⟩ (.int .i64 b1)).setCell ⟨g, i * 2 + 1, none⟩ (.string b2)) rfl (by kernel_rfl) (exec_storeNW _ _ _ _ _ rfl g (i * 2) _ _ _ _ (by kernel_rfl) (by kernel_rfl) x0 x1 fi0 fi1) ?_
    refine ⟨c0', ?_⟩
    simp only [Act.put, List.getElem_toArray, List.getElem_cons_succ, List.getElem_cons_zero, List.setIfInBounds_toArray, List.set_cons_zero, List.set_cons_succ]
    refine tkX 26 (hS := c0') (h := ?_)
    simp only [Act.put, List.getElem_toArray, List.getElem_cons_succ, List.getElem_cons_zero, List.setIfInBounds_toArray, List.set_cons_zero, List.set_cons_succ]
    refine wpAnyH_one 27 (by kernel_rfl) ?_
    refine wpOp_skip ((((w.drew.setCell ⟨g, i * 2, none⟩ (.int .i64 b1)).setCell ⟨g, i * 2 + 1, none⟩ (.string b2)).setCell ⟨g, j * 2, none⟩ (.int .i64 a1)).setCell ⟨g, j * 2 + 1, none⟩ (.string a2)) rfl (by kernel_rfl) (exec_storeNW _ _ _ _ _ rfl g (j * 2) _ _ _ _ (by kernel_rfl) (by kernel_rfl) z0 z1 g0 g1) ?_
    refine ⟨c0'', ?_⟩
    simp only [Act.put, List.getElem_toArray, List.getElem_cons_succ, List.getElem_cons_zero, List.setIfInBounds_toArray, List.set_cons_zero, List.set_cons_succ]
    refine wpAnyH_done (by kernel_rfl) ?_ _
    go_wp2_with fail
    first | go_end0 | refine bodyPost_ret (results_none rfl _ _ _) rfl ?_
    exact ⟨rfl, HE.out _ (.inl rfl) 1⟩
end Go.Proofs.YtifgcimmlonagaaDoor
