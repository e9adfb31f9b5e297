import Derived.Test.YtebffdfalbjmhaaDoorFgI
import Derived.Test.YtebffdfalbjmhaaDoorRgB
import Derived.Deep.CutBlock
namespace Go.Proofs.YtebffdfalbjmhaaDoor
open Go Go.RowKit Go.Shelf
set_option linter.unusedVariables false
set_option linter.unusedSimpArgs false
set_option maxRecDepth 100000

/-! impl.Fragments. -/
theorem Tryd.infoStrJ : (Tryd.prog.info? 9).map (fun i => (i.zero, i.size, i.bytes)) = some (some (.string ⟨#[]⟩), 1, 16) := by kernel_rfl
/-- One text more behind a row of one's own, perhaps nil: at one operation of a region that draws. -/
theorem wpOp_pushS {W : World} {ops : Array Oper} {i : Nat} {o : Oper} {a : Act} {K : Act → World → Prop} {Q : Exit → Act → World → Prop} (hio : ops[i]? = some o) (hw : Region.wanted o (yielded ops a.tmps) = true) (s x : Operand)
    (ho : o.op = .call { callee := .builtin .append, args := #[s, x], argTypes := #[22, 22] })
    (base : Nat) (v : Value) (xs : List (List UInt8)) (hs : a.eval s = v) (hown : W.ownsRow base 9 1 v xs.length (sCells xs)) (bx : Nat) (y : List UInt8) (hx : a.eval x = .slice (some ⟨bx, 0, none⟩) 1 1) (hb : W.heap[bx]? = some (.cells #[.string (bs y)] 9)) (hl : xs.length ≤ 1048576) (hbase : base ≤ W.heap.size)
    (h : ∀ g c w' N, Hid ((xs ++ [y]).length = N) → w'.ownsRow base 9 1 (.slice (some ⟨g, 0, none⟩) N c) N (sCells (xs ++ [y])) → W.grownBy w' v.ownBlock → K (a.put o.dst (.slice (some ⟨g, 0, none⟩) N c)) w') :
    wpOp Tryd.prog ops Q i K a W := by
  obtain ⟨i0, hi0, hz0, hz1, hz2⟩ := info_parts Tryd.infoStrJ
  refine wpOp_wp hio hw ?_
  obtain ⟨v', w', hr, h2, h3, h4, h5⟩ := run_append_own_at (P := Tryd.prog) W base 22 o.type 9 i0 (.string ⟨#[]⟩) 1 16 Tryd.underlying22 hi0 hz0 hz1 hz2 rfl (by decide) v xs.length (sCells xs) hown ⟨bx, 0, none⟩ 1 1 [.string (bs y)] rfl (fun j u hj => by
    match j, hj with
    | 0, hj =>
      simp at hj
      subst hj
      rw [add_head]
      exact blkc hb 0
    | j + 1, hj => simp at hj) (fun u hu => by rw [List.mem_singleton.1 hu]; rfl) (by unfold maxLen; omega) (by omega) hbase
  rcases h2.2 with ⟨h', _⟩ | ⟨g', cap', cur', h', _⟩
  · exact absurd (h4.1 h').2 (by simp)
  subst h'
  rw [← sCells_snoc] at h2
  have e : xs.length + 1 = (xs ++ [y]).length := by simp
  rw [e] at h2
  have hq := h g' cap' w' _ (hidd rfl) h2 h3
  unfold Oper.wp execOp
  simp only [ho, resolve, invoke, builtin, Sem.run_bind, Sem.run_pure, Result.andThen_ok, List.map_toArray, List.map_cons, List.map_nil, hs, hx, hr]
  rw [← e] at hq
  exact hq
theorem exec_boxT (W : World) (ρ : Operand → Value) (o : Oper) (y : Operand) (ho : o.op = .buildSlice 22 1 #[(0, y)]) (z : ByteArray) (hx : ρ y = .string z) :
    (execOp ρ o).run Tryd.prog W = .ok (.value (.slice (some ⟨W.heap.size, 0, none⟩) 1 1)) (W.alloc (.cells #[.string z] 9)) := by
  unfold execOp
  simp only [ho, hx, Sem.run_bind, Sem.run_pure, Result.andThen_ok]
  go_simp
theorem exec_storeX (W : World) (ρ : Operand → Value) (o : Oper) (x y : Operand) (ho : o.op = .store 22 x y) (b : Nat) (r0 : Value) (ad : Option Addr) (n c : Nat) (hx : ρ x = .pointer (some ⟨b, 0, none⟩)) (hy : ρ y = .slice ad n c) (h : W.heap[b]? = some (.cells #[r0] 22)) :
    (execOp ρ o).run Tryd.prog W = .ok .skip (W.setCell ⟨b, 0, none⟩ (.slice ad n c)) := by
  have c3' : W.cell? ⟨b, 0, none⟩ = some r0 := blkc h 0
  have f3 := blkf h 0
  clear h
  unfold execOp
  simp only [ho, hx, hy, Sem.run_bind, Sem.run_pure, Result.andThen_ok]
  go_simp
theorem exec_loadX (W : World) (ρ : Operand → Value) (o : Oper) (x : Operand) (ho : o.op = .load 22 x) (b : Nat) (ad : Option Addr) (n c : Nat) (hx : ρ x = .pointer (some ⟨b, 0, none⟩)) (h : W.heap[b]? = some (.cells #[.slice ad n c] 22)) :
    (execOp ρ o).run Tryd.prog W = .ok (.value (.slice ad n c)) W := by
  have c3' : W.cell? ⟨b, 0, none⟩ = some (.slice ad n c) := blkc h 0
  clear h
  unfold execOp
  simp only [ho, hx, Sem.run_bind, Sem.run_pure, Result.andThen_ok]
  go_simp
theorem own_slF {W : World} {base e n : Nat} {v : Value} {xs : List Value} (h : W.ownsRow base e 1 v n xs) : ∃ ad cap, v = .slice ad n cap := by
  rcases h.2 with ⟨h1, h2⟩ | ⟨g, cap, _, h1, _⟩
  · exact ⟨none, 0, by rw [h1, h2]⟩
  · exact ⟨_, cap, h1⟩
/-- What Fragments has in memory: the row in its box, the cutter's two boxes, and the text's iterator. H: the blocks of the range. -/
structure FgC (w0 : World) (H b7 bt bn : Nat) (s : ByteArray) (k : Int) (acc : List (List UInt8)) (io : Option (Nat × Nat)) (W : World) : Prop where
  box : ∃ v, W.heap[b7]? = some (.cells #[v] 22) ∧ W.ownsRow (H + 2) 9 1 v acc.length (sCells acc)
  tx : W.heap[bt]? = some (.cells #[.string s] 9)
  sz : W.heap[bn]? = some (.cells #[.int .i64 k] 3)
  bel : Below w0.heap.size w0 W
  hz : H + 2 ≤ W.heap.size
  it : ∀ I p, io = some (I, p) → H + 2 ≤ I ∧ W.heap[I]? = some (.stringIter s p)
theorem FgC.of_heap {w0 : World} {H b7 bt bn : Nat} {s : ByteArray} {k : Int} {acc : List (List UInt8)} {io : Option (Nat × Nat)} {W W' : World} (h : FgC w0 H b7 bt bn s k acc io W) (hh : ∀ b, b < W.heap.size → b ≠ H + 1 → W'.heap[b]? = W.heap[b]?) (hz : W.heap.size ≤ W'.heap.size) (hos : W'.os = W.os) (htp : W'.tape = W.tape) (hou : W'.output = W.output)
    (h0 : w0.heap.size ≤ H) (h7 : b7 < H) (ht : bt < H) (hn : bn < H) : FgC w0 H b7 bt bn s k acc io W' := by
  obtain ⟨v, h1, h2⟩ := h.box
  have hH := h.hz
  refine ⟨⟨v, (hh _ (by omega) (by omega)).trans h1, own_congr h2 (fun b hb => hh b ?_ (by have := (own_blk h2 hb).1; omega))⟩, (hh _ (by omega) (by omega)).trans h.tx, (hh _ (by omega) (by omega)).trans h.sz, ?_, Nat.le_trans h.hz hz, fun I p e => ?_⟩
  · obtain ⟨_, cur, h5⟩ := own_blk h2 hb
    exact (Array.getElem?_eq_some_iff.1 h5).1
  · exact ⟨hos.trans h.bel.os, htp.trans h.bel.tape, hou.trans h.bel.output, Nat.le_trans h.bel.size hz, fun b hb => (hh b (by omega) (by omega)).trans (h.bel.block b hb)⟩
  · have := h.it I p e
    exact ⟨this.1, (hh I (Array.getElem?_eq_some_iff.1 this.2).1 (by omega)).trans this.2⟩
theorem FgC.below {w0 : World} {H b7 bt bn : Nat} {s : ByteArray} {k : Int} {acc : List (List UInt8)} {io : Option (Nat × Nat)} {W W' : World} (h : FgC w0 H b7 bt bn s k acc io W) (hb : Below W.heap.size W W') (h0 : w0.heap.size ≤ H) (h7 : b7 < H) (ht : bt < H) (hn : bn < H) : FgC w0 H b7 bt bn s k acc io W' :=
  h.of_heap (fun b hl _ => hb.block b hl) hb.size hb.os hb.tape hb.output h0 h7 ht hn
theorem iterAt_else (W : World) (I : Nat) (s : ByteArray) (p b : Nat) (h : b ≠ I) : (W.iterAt I s p).heap[b]? = W.heap[b]? := by
  unfold World.iterAt
  simp [Array.getElem?_setIfInBounds, Ne.symm h]
theorem FgC.iterAt {w0 : World} {H b7 bt bn : Nat} {s : ByteArray} {k : Int} {acc : List (List UInt8)} {I p : Nat} {W : World} (h : FgC w0 H b7 bt bn s k acc (some (I, p)) W) (p' : Nat) (h0 : w0.heap.size ≤ H) (h7 : b7 < H) (ht : bt < H) (hn : bn < H) : FgC w0 H b7 bt bn s k acc (some (I, p')) (W.iterAt I s p') := by
  obtain ⟨v, h1, h2⟩ := h.box
  have hi := h.it I p rfl
  refine ⟨⟨v, (iterAt_else _ _ _ _ _ (by omega)).trans h1, own_iterAt h2 hi.2 p'⟩, (iterAt_else _ _ _ _ _ (by omega)).trans h.tx, (iterAt_else _ _ _ _ _ (by omega)).trans h.sz, Lib.below_iterAt h.bel (k := I) (by omega) s p', ?_, fun I' q e => ?_⟩
  · have := h.hz; simpa [World.iterAt] using this
  · cases e
    exact ⟨hi.1, Lib.iterAt_heap W I s p p' hi.2⟩
/-- One part more. -/
theorem FgC.push {w0 : World} {H b7 bt bn : Nat} {s : ByteArray} {k : Int} {acc : List (List UInt8)} {io : Option (Nat × Nat)} {W V V2 : World} {v : Value} {y : List UInt8} (h : FgC w0 H b7 bt bn s k acc io W) (hv : W.heap[b7]? = some (.cells #[v] 22)) (ho : W.ownsRow (H + 2) 9 1 v acc.length (sCells acc)) (hV : Below W.heap.size W V) (hg : V.grownBy V2 v.ownBlock) {g c N : Nat} (hN : (acc ++ [y]).length = N)
    (ho2 : V2.ownsRow (H + 2) 9 1 (.slice (some ⟨g, 0, none⟩) N c) N (sCells (acc ++ [y]))) (h0 : w0.heap.size ≤ b7) (h7 : b7 < H) (ht : bt < H) (hn : bn < H) (ht7 : bt ≠ b7) (hn7 : bn ≠ b7) :
    V2.heap[b7]? = some (.cells #[v] 22) ∧ FgC w0 H b7 bt bn s k (acc ++ [y]) io (V2.setCell ⟨b7, 0, none⟩ (.slice (some ⟨g, 0, none⟩) N c)) ∧ (V2.setCell ⟨b7, 0, none⟩ (.slice (some ⟨g, 0, none⟩) N c)).heap[H]? = W.heap[H]? ∧ (V2.setCell ⟨b7, 0, none⟩ (.slice (some ⟨g, 0, none⟩) N c)).heap[H + 1]? = W.heap[H + 1]? := by
  have hH := h.hz
  have hVz := hV.size
  have hgz := hg.size
  have kp : ∀ b, b < W.heap.size → some b ≠ v.ownBlock → V2.heap[b]? = W.heap[b]? := fun b hb hne => (hg.block b (by omega) hne).trans (hV.block b hb)
  have low : ∀ b, b < H + 2 → some b ≠ v.ownBlock := fun b hb e => by have := (own_blk ho e.symm).1; omega
  have kpL : ∀ b, b < H + 2 → b ≠ b7 → (V2.setCell ⟨b7, 0, none⟩ (.slice (some ⟨g, 0, none⟩) N c)).heap[b]? = W.heap[b]? := fun b hb hne => (heap_set_other _ _ _ _ _ hne).trans (kp b (by omega) (low b hb))
  have hbox := (kp b7 (by omega) (low b7 (by omega))).trans hv
  refine ⟨hbox, ⟨⟨.slice (some ⟨g, 0, none⟩) N c, ?_, ?_⟩, (kpL bt (by omega) ht7).trans h.tx, (kpL bn (by omega) hn7).trans h.sz, ?_, ?_, fun I p e => ?_⟩, kpL H (by omega) (by omega), kpL (H + 1) (by omega) (by omega)⟩
  · have := blk_setk hbox 0 (.slice (some ⟨g, 0, none⟩) N c)
    simpa using this
  · rw [hN]
    exact own_congr ho2 (fun b hb => heap_set_other _ _ _ _ _ (by have := (own_blk ho2 hb).1; omega))
  · refine Below.setCell (p := ⟨b7, 0, none⟩) ?_ h0 _
    exact (h.bel.trans (hV.mono h.bel.size)).grown hg (by have := h.bel.size; omega) (fun x hx => by have := (own_blk ho hx).1; omega)
  · simp [World.setCell]; omega
  · have hi := h.it I p e
    have hlt := (Array.getElem?_eq_some_iff.1 hi.2).1
    refine ⟨hi.1, ?_⟩
    rw [heap_set_other _ _ _ _ _ (by omega), kp I hlt (own_ne_iter ho hi.2)]
    exact hi.2
theorem within_tF (r lo hi : Int) (w : World) (h : lo ≤ r ∧ r ≤ hi) : Calls Tryd.prog 13 #[.int .i64 r, .int .i64 lo, .int .i64 hi] w fun e w' => e = .returned (.bool true) ∧ w' = w := by
  refine (within_any r lo hi w).mono ?_
  rintro e w' ⟨rfl, rfl⟩
  exact ⟨by simp [h.1, h.2], rfl⟩
theorem within_fF (r lo hi : Int) (w : World) (h : ¬ (lo ≤ r ∧ r ≤ hi)) : Calls Tryd.prog 13 #[.int .i64 r, .int .i64 lo, .int .i64 hi] w fun e w' => e = .returned (.bool false) ∧ w' = w := by
  refine (within_any r lo hi w).mono ?_
  rintro e w' ⟨rfl, rfl⟩
  refine ⟨?_, rfl⟩
  congr 2
  by_cases h1 : lo ≤ r
  · simp [h1]; omega
  · simp [h1]
attribute [local go_sem] Oper.semAt_some
set_option maxHeartbeats 8000000 in
theorem implFrag_in (s : ByteArray) (k : Nat) (w : World) (hs : s.size ≤ 65536) (HC : Hid (decCode s = 0)) (hk1 : 10 ≤ k) (hk2 : k ≤ 1000) (HT : Hid (Tabs w)) :
    Calls Tryd.prog 5 #[.string s, .int .i64 (k : Int)] w fun e w' => ∃ v, e = .returned (.tuple #[v, .int .i64 0]) ∧ w'.ownsRow w.heap.size 9 1 v (frL k (runes s)).length (sCells (frL k (runes s))) ∧ Below w.heap.size w w' := by
  have HV : Hid (validB s = true) := (dec_okB s HC.out).1
  have Hfl : Hid ((frL k (runes s)).length ≤ 65536) := hidd (by have h1 := frL_len (k := k) (by omega) _ (runes s) (Nat.le_refl _); have h2 := runes_le s; omega)
  obtain ⟨R, hR⟩ : ∃ R, frL k (runes s) = R := ⟨_, rfl⟩
  rw [hR]
  rw [hR] at Hfl
  have HR := hidd hR
  clear hR
  refine (callsIn_wide (n := 4)).1 ?_
  refine callsIn_of_wp_marks Tryd.func5 rfl trivial ?_ rfl
  simp only [Tryd.ntmps5, List.size_toArray, List.length_cons, List.length_nil, Nat.reduceAdd, Nat.reduceSub, Array.replicate_succ, Array.replicate_zero, List.push_toArray, List.append_toArray, List.nil_append, List.cons_append]
  refine wpIn_wide.2 ?_
  go_wp2_with fail
  refine (textCode_any s w (by omega) HT.out).mono ?_
  rintro e w0 ⟨rfl, hb0⟩
  have HB0 := hidd hb0
  have hz0 := hb0.size
  clear hb0
  rw [HC.out]
  go_wp2_with fail
  refine (within_tF (k : Int) 10 1000 _ ⟨by omega, by omega⟩).mono ?_
  rintro e w1 ⟨rfl, hw1⟩
  obtain rfl := hw1.symm
  clear hw1
  go_upto_region 7 with fail
  have HBn : Hid (Below w0.heap.size w0 (w0.alloc (.cells #[.slice none 0 0] 22))) := (Below.refl _ _).alloc (Nat.le_refl _) _
  have HKn := hidd (heap_alloc_new w0 (.cells #[.slice none 0 0] 22))
  obtain ⟨w2, hw2⟩ : ∃ V, w0.alloc (.cells #[.slice none 0 0] 22) = V := ⟨_, rfl⟩
  rw [hw2] at HBn HKn
  try rw [hw2]
  have hz2 : w0.heap.size + 1 ≤ w2.heap.size := by rw [← hw2]; simp
  clear hw2
  obtain ⟨b7, hb7⟩ : ∃ b, w0.heap.size = b := ⟨_, rfl⟩
  rw [hb7] at HKn hz2
  try rw [hb7]
  have HB7 := hidd hb7
  clear hb7
  go_wp2_with fail
  refine (cutF_any s (k : Int) w2).mono ?_
  rintro e w5 ⟨rfl, hw5⟩
  have hb5 : Below w2.heap.size w2 w5 := by rw [hw5]; exact ((Below.refl _ _).alloc (Nat.le_refl _) _).alloc (by simp) _
  have hk5 := box_two w2 (.cells #[.string s] 9) (.cells #[.int .i64 (k : Int)] 3)
  rw [← hw5] at hk5
  have hz5 : w2.heap.size + 2 ≤ w5.heap.size := by rw [hw5]; simp
  have HKd5 := hidd (blko HKn.out hb5)
  have HK5 := hidd hk5
  have HBW5 := hidd (HBn.out.trans (hb5.mono HBn.out.size))
  clear hw5 hb5 hk5 HBn HKn
  obtain ⟨bt, hbt⟩ : ∃ b, w2.heap.size = b := ⟨_, rfl⟩
  rw [hbt] at hz5 hz2
  rw [hbt] at HK5
  try rw [hbt]
  clear hbt
  have hwb : w0.heap.size = b7 := HB7.out
  go_wp2_with fail
  refine (wpIn_wide (n := 4)).1 ?_
  apply range_inv (gf := 21) (lb := #[.pointer (some ⟨bt, 0, none⟩), .pointer (some ⟨bt + 1, 0, none⟩)]) (I := fun (x : List (List UInt8) × List Int × Option (Nat × Nat)) Wx => FgC w0 w5.heap.size b7 bt (bt + 1) s (k : Int) x.1 x.2.2 Wx ∧ x.1.length ≤ 65536) (live := fun x => GoodP s x.2.1 ∧ (x.1 ++ part91 x.2.1).length ≤ 65536) (args := fun x => #[.string (bs (encs x.2.1))]) (next := fun x => (x.1 ++ part91 x.2.1, [], x.2.2)) (x0 := ([], [], none)) (xN := (R, [], none))
  case hassign =>
    intro l m x Wx K hK
    gi_wp2
    exact hK
  case hg => rfl
  case eg => exact enters_of Tryd.func21 (by kernel_rfl) rfl
  case hps => intro x; rfl
  case hput =>
    intro x Wx o hI
    exact ⟨hI.1.of_heap (fun b _ hb => World.putObj_heap_other hb) (by simp) rfl rfl rfl (by omega) (by omega) (by omega) (by omega), hI.2⟩
  case h0 =>
    intro Wx hbx hszx
    refine ⟨⟨⟨.slice none 0 0, blko HKd5.out hbx, World.ownsRow_nil _ _ _ _⟩, blko HK5.out.1 hbx, blko HK5.out.2 hbx, HBW5.out.trans (hbx.mono HBW5.out.size), by omega, fun I p e => by cases e⟩, by simp⟩
  case hit =>
    intro r Wx hbx hy hI hrec
    refine (cutN_any 3 (by omega) _ bt (bt + 1) k s hs HV.out hk1 hk2 (fun acc io Wy => (FgC w0 w5.heap.size b7 bt (bt + 1) s (k : Int) acc io Wy ∧ acc.length ≤ 65536) ∧ RecAt w5.heap.size r Wy) ?_ ?_ ?_ ?_ ?_ Wx ⟨hI, hrec⟩).mono ?_
    · rintro acc io Wy ⟨⟨h1, _⟩, _⟩
      exact ⟨blkc h1.tx 0, blkc h1.sz 0⟩
    · rintro acc Wy ⟨⟨h1, h1l⟩, h2⟩
      have hb : Below Wy.heap.size Wy (Wy.iter s 0) := (Below.refl _ _).alloc (Nat.le_refl _) _
      have h := h1.below hb (by omega) (by omega) (by omega) (by omega)
      exact ⟨⟨⟨h.box, h.tx, h.sz, h.bel, h.hz, fun I p e => by cases e; exact ⟨h1.hz, World.iter_heap _ s 0⟩⟩, h1l⟩, ⟨blko h2.rc hb, blko h2.df hb⟩⟩
    · rintro acc I p Wy ⟨⟨h1, _⟩, _⟩
      exact (h1.it I p rfl).2
    · rintro acc I p p' Wy ⟨⟨h1, h1l⟩, h2⟩
      have hi := h1.it I p rfl
      exact ⟨⟨h1.iterAt p' (by omega) (by omega) (by omega) (by omega), h1l⟩, ⟨(iterAt_else _ _ _ _ _ (by omega)).trans h2.rc, (iterAt_else _ _ _ _ _ (by omega)).trans h2.df⟩⟩
    · rintro acc I p part Wy hg hlen ⟨⟨h1, h1l⟩, h2⟩
      exact hy 2 (acc, part, some (I, p)) Wy ⟨hg, by rw [HR.out] at hlen; exact Nat.le_trans hlen Hfl.out⟩ ⟨h1, h1l⟩ h2
    · rintro e Wy ⟨h1, io, ⟨h2, h2l⟩, h3⟩
      rw [HR.out] at h2 h2l
      exact ⟨h1, ⟨⟨h2.box, h2.tx, h2.sz, h2.bel, h2.hz, fun I p e => by cases e⟩, h2l⟩, h3⟩
  case hbody =>
    rintro mf ⟨acc, part, io⟩ Wx ⟨hgd, hacl⟩ hI hszx0 hrec hdf
    dsimp only at hgd hacl hI
    have HGd := hidd hgd
    have HCk := hidd hI.1
    have hacc := hI.2
    have hszx := hI.1.hz
    obtain ⟨v, hbx0, hrw0⟩ := hI.1.box
    obtain ⟨adv, cv, rfl⟩ := own_slF hrw0
    have HBox := hidd hbx0
    obtain ⟨K, hK⟩ : ∃ K, acc.length = K := ⟨_, rfl⟩
    have hmix : Tryd.prog.follows .mixedOrders = true := by kernel_rfl
    have HRow : Hid (∀ {V : World}, Below Wx.heap.size Wx V → V.ownsRow (w5.heap.size + 2) 9 1 (.slice adv K cv) acc.length (sCells acc)) := fun {V} hV => by
      have h := own_below hrw0 hV
      rwa [hK] at h ⊢
    rw [hK] at HBox
    have HKK := hidd hK
    clear hgd hI hbx0 hrw0 hK hrec hdf
    have Hix := hidd (index_91 part HGd.out.1)
    have HCt := hidd (Tryd.strings_Contains_one (bs (encs part)) 91 Wx)
    have hlb : (bs (encs part)).data.toList = encs part := lst_bs (encs part)
    rw [hlb, Hix.out] at HCt
    clear hlb
    cases h91 : has91 part with
    | false =>
      rw [h91] at HCt
      have HP : Hid (acc ++ part91 part = acc) := hidd (by unfold part91; rw [h91]; simp)
      clear h91
      gi_wp2_with fail
      refine ⟨trivial, (fun h => by cases h), (CallsIn.inRound _ ((callsIn_wide (n := mf - 1)).2 HCt.out)).mono ?_⟩
      rintro e Wc ⟨rfl, hwc⟩
      obtain rfl := hwc.symm
      clear hwc
      gi_wp2
      exact ⟨by rw [HP.out]; exact HCk.out, by simpa using hacl⟩
    | true =>
      rw [h91] at HCt
      have HP : Hid (acc ++ part91 part = acc ++ [encs part]) := hidd (by unfold part91; rw [h91]; simp)
      clear h91
      gi_wp2_with fail
      refine ⟨trivial, (fun h => by cases h), (CallsIn.inRound _ ((callsIn_wide (n := mf - 1)).2 HCt.out)).mono ?_⟩
      rintro e Wc ⟨rfl, hwc⟩
      obtain rfl := hwc.symm
      clear hwc
      gi_wp2
      refine region_round (S := fun _ => True) hmix (by kernel_rfl) ?lo trivial (fun hHeld => ?go)
      case lo =>
        rintro ⟨_, _, h, _⟩
        cases h
      case go =>
        have hbd : Below Wx.heap.size Wx Wx.drew := below_drewN (Below.refl _ _) 1
        generalize Wx.drew = Wd at *
        try simp only [Act.put, List.getElem_toArray, List.getElem_cons_succ, List.getElem_cons_zero, List.setIfInBounds_toArray, List.set_cons_zero, List.set_cons_succ]
        refine tkX 1 (v := .string (bs (encs part))) (hS := trivial) (h := ?_)
        try simp only [Act.put, List.getElem_toArray, List.getElem_cons_succ, List.getElem_cons_zero, List.setIfInBounds_toArray, List.set_cons_zero, List.set_cons_succ]
        refine wpAnyH_two 0 2 (by kernel_rfl) ?_ ?_
        · refine wpOp_val _ _ rfl (by kernel_rfl) (exec_loadX _ _ _ _ rfl b7 adv K cv (by kernel_rfl) (blko HBox.out hbd)) ?_
          refine ⟨trivial, ?_⟩
          try simp only [Act.put, List.getElem_toArray, List.getElem_cons_succ, List.getElem_cons_zero, List.setIfInBounds_toArray, List.set_cons_zero, List.set_cons_succ]
          refine wpAnyH_one 2 (by kernel_rfl) ?_
          refine wpOp_call 16 #[.string (bs (encs part))] rfl (by kernel_rfl) (rbx_call1 _ _ _ _ _ _ rfl _ (by kernel_rfl) (Tryd.call16 _ _)) ?_
          refine (clone_any (bs (encs part)) _ (by rw [bs_size]; exact HGd.out.2)).mono ?_
          rintro e2 Vc ⟨rfl, hbc⟩
          have hb2 := hbd.trans (hbc.mono hbd.size)
          refine ⟨trivial, ?_⟩
          try simp only [Act.put, List.getElem_toArray, List.getElem_cons_succ, List.getElem_cons_zero, List.setIfInBounds_toArray, List.set_cons_zero, List.set_cons_succ]
          refine wpAnyH_one 3 (by kernel_rfl) ?_
          refine wpOp_val _ _ rfl (by kernel_rfl) (exec_boxT _ _ _ _ rfl (bs (encs part)) (by kernel_rfl)) ?_
          have hal : Below Vc.heap.size Vc (Vc.alloc (.cells #[.string (bs (encs part))] 9)) := (Below.refl _ _).alloc (Nat.le_refl _) _
          have hxa := heap_alloc_new Vc (.cells #[.string (bs (encs part))] 9)
          have hbV := hb2.trans (hal.mono hb2.size)
          obtain ⟨V, hVe⟩ : ∃ V, Vc.alloc (.cells #[.string (bs (encs part))] 9) = V := ⟨_, rfl⟩
          obtain ⟨bx, hbx⟩ : ∃ b, Vc.heap.size = b := ⟨_, rfl⟩
          rw [hVe] at hal hxa hbV
          rw [hbx] at hxa
          rw [hVe, hbx]
          clear hVe
          refine ⟨trivial, ?_⟩
          try simp only [Act.put, List.getElem_toArray, List.getElem_cons_succ, List.getElem_cons_zero, List.setIfInBounds_toArray, List.set_cons_zero, List.set_cons_succ]
          refine wpAnyH_one 4 (by kernel_rfl) ?_
          refine wpOp_pushS rfl (by kernel_rfl) _ _ rfl (w5.heap.size + 2) (.slice adv K cv) acc (by kernel_rfl) (HRow.out hbV) bx (encs part) (by kernel_rfl) hxa (by omega) (Nat.le_trans hszx hbV.size) ?_
          intro g7 c7 V2 N7 hN7 ho7 hgr7
          have hst := FgC.push HCk.out HBox.out (HRow.out (Below.refl _ _)) hbV hgr7 hN7.out ho7 (by omega) (by omega) (by omega) (by omega) (by omega) (by omega)
          refine ⟨trivial, ?_⟩
          try simp only [Act.put, List.getElem_toArray, List.getElem_cons_succ, List.getElem_cons_zero, List.setIfInBounds_toArray, List.set_cons_zero, List.set_cons_succ]
          refine wpAnyH_one 5 (by kernel_rfl) ?_
          refine wpOp_skip _ rfl (by kernel_rfl) (exec_storeX V2 _ _ _ _ rfl b7 _ (some ⟨g7, 0, none⟩) N7 c7 (by kernel_rfl) (by kernel_rfl) hst.1) ?_
          refine ⟨trivial, ?_⟩
          try simp only [Act.put, List.getElem_toArray, List.getElem_cons_succ, List.getElem_cons_zero, List.setIfInBounds_toArray, List.set_cons_zero, List.set_cons_succ]
          refine wpAnyH_done (by kernel_rfl) ?_ _
          exact ⟨rfl, ⟨by rw [HP.out]; exact hst.2.1, hacl⟩, hst.2.2.1, hst.2.2.2⟩
        · refine wpOp_call 16 #[.string (bs (encs part))] rfl (by kernel_rfl) (rbx_call1 _ _ _ _ _ _ rfl _ (by kernel_rfl) (Tryd.call16 _ _)) ?_
          refine (clone_any (bs (encs part)) _ (by rw [bs_size]; exact HGd.out.2)).mono ?_
          rintro e2 Vc ⟨rfl, hbc⟩
          have hb2 := hbd.trans (hbc.mono hbd.size)
          refine ⟨trivial, ?_⟩
          try simp only [Act.put, List.getElem_toArray, List.getElem_cons_succ, List.getElem_cons_zero, List.setIfInBounds_toArray, List.set_cons_zero, List.set_cons_succ]
          refine wpAnyH_two 0 3 (by kernel_rfl) ?_ ?_
          · refine wpOp_val _ _ rfl (by kernel_rfl) (exec_loadX _ _ _ _ rfl b7 adv K cv (by kernel_rfl) (blko HBox.out hb2)) ?_
            refine ⟨trivial, ?_⟩
            try simp only [Act.put, List.getElem_toArray, List.getElem_cons_succ, List.getElem_cons_zero, List.setIfInBounds_toArray, List.set_cons_zero, List.set_cons_succ]
            refine wpAnyH_one 3 (by kernel_rfl) ?_
            refine wpOp_val _ _ rfl (by kernel_rfl) (exec_boxT _ _ _ _ rfl (bs (encs part)) (by kernel_rfl)) ?_
            have hal : Below Vc.heap.size Vc (Vc.alloc (.cells #[.string (bs (encs part))] 9)) := (Below.refl _ _).alloc (Nat.le_refl _) _
            have hxa := heap_alloc_new Vc (.cells #[.string (bs (encs part))] 9)
            have hbV := hb2.trans (hal.mono hb2.size)
            obtain ⟨V, hVe⟩ : ∃ V, Vc.alloc (.cells #[.string (bs (encs part))] 9) = V := ⟨_, rfl⟩
            obtain ⟨bx, hbx⟩ : ∃ b, Vc.heap.size = b := ⟨_, rfl⟩
            rw [hVe] at hal hxa hbV
            rw [hbx] at hxa
            rw [hVe, hbx]
            clear hVe
            refine ⟨trivial, ?_⟩
            try simp only [Act.put, List.getElem_toArray, List.getElem_cons_succ, List.getElem_cons_zero, List.setIfInBounds_toArray, List.set_cons_zero, List.set_cons_succ]
            refine wpAnyH_one 4 (by kernel_rfl) ?_
            refine wpOp_pushS rfl (by kernel_rfl) _ _ rfl (w5.heap.size + 2) (.slice adv K cv) acc (by kernel_rfl) (HRow.out hbV) bx (encs part) (by kernel_rfl) hxa (by omega) (Nat.le_trans hszx hbV.size) ?_
            intro g7 c7 V2 N7 hN7 ho7 hgr7
            have hst := FgC.push HCk.out HBox.out (HRow.out (Below.refl _ _)) hbV hgr7 hN7.out ho7 (by omega) (by omega) (by omega) (by omega) (by omega) (by omega)
            refine ⟨trivial, ?_⟩
            try simp only [Act.put, List.getElem_toArray, List.getElem_cons_succ, List.getElem_cons_zero, List.setIfInBounds_toArray, List.set_cons_zero, List.set_cons_succ]
            refine wpAnyH_one 5 (by kernel_rfl) ?_
            refine wpOp_skip _ rfl (by kernel_rfl) (exec_storeX V2 _ _ _ _ rfl b7 _ (some ⟨g7, 0, none⟩) N7 c7 (by kernel_rfl) (by kernel_rfl) hst.1) ?_
            refine ⟨trivial, ?_⟩
            try simp only [Act.put, List.getElem_toArray, List.getElem_cons_succ, List.getElem_cons_zero, List.setIfInBounds_toArray, List.set_cons_zero, List.set_cons_succ]
            refine wpAnyH_done (by kernel_rfl) ?_ _
            exact ⟨rfl, ⟨by rw [HP.out]; exact hst.2.1, hacl⟩, hst.2.2.1, hst.2.2.2⟩
          · refine wpOp_val _ _ rfl (by kernel_rfl) (exec_boxT _ _ _ _ rfl (bs (encs part)) (by kernel_rfl)) ?_
            have hal : Below Vc.heap.size Vc (Vc.alloc (.cells #[.string (bs (encs part))] 9)) := (Below.refl _ _).alloc (Nat.le_refl _) _
            have hxa := heap_alloc_new Vc (.cells #[.string (bs (encs part))] 9)
            have hbV := hb2.trans (hal.mono hb2.size)
            obtain ⟨V, hVe⟩ : ∃ V, Vc.alloc (.cells #[.string (bs (encs part))] 9) = V := ⟨_, rfl⟩
            obtain ⟨bx, hbx⟩ : ∃ b, Vc.heap.size = b := ⟨_, rfl⟩
            rw [hVe] at hal hxa hbV
            rw [hbx] at hxa
            rw [hVe, hbx]
            clear hVe
            refine ⟨trivial, ?_⟩
            try simp only [Act.put, List.getElem_toArray, List.getElem_cons_succ, List.getElem_cons_zero, List.setIfInBounds_toArray, List.set_cons_zero, List.set_cons_succ]
            refine wpAnyH_one 0 (by kernel_rfl) ?_
            refine wpOp_val _ _ rfl (by kernel_rfl) (exec_loadX _ _ _ _ rfl b7 adv K cv (by kernel_rfl) (blko HBox.out hbV)) ?_
            refine ⟨trivial, ?_⟩
            try simp only [Act.put, List.getElem_toArray, List.getElem_cons_succ, List.getElem_cons_zero, List.setIfInBounds_toArray, List.set_cons_zero, List.set_cons_succ]
            refine wpAnyH_one 4 (by kernel_rfl) ?_
            refine wpOp_pushS rfl (by kernel_rfl) _ _ rfl (w5.heap.size + 2) (.slice adv K cv) acc (by kernel_rfl) (HRow.out hbV) bx (encs part) (by kernel_rfl) hxa (by omega) (Nat.le_trans hszx hbV.size) ?_
            intro g7 c7 V2 N7 hN7 ho7 hgr7
            have hst := FgC.push HCk.out HBox.out (HRow.out (Below.refl _ _)) hbV hgr7 hN7.out ho7 (by omega) (by omega) (by omega) (by omega) (by omega) (by omega)
            refine ⟨trivial, ?_⟩
            try simp only [Act.put, List.getElem_toArray, List.getElem_cons_succ, List.getElem_cons_zero, List.setIfInBounds_toArray, List.set_cons_zero, List.set_cons_succ]
            refine wpAnyH_one 5 (by kernel_rfl) ?_
            refine wpOp_skip _ rfl (by kernel_rfl) (exec_storeX V2 _ _ _ _ rfl b7 _ (some ⟨g7, 0, none⟩) N7 c7 (by kernel_rfl) (by kernel_rfl) hst.1) ?_
            refine ⟨trivial, ?_⟩
            try simp only [Act.put, List.getElem_toArray, List.getElem_cons_succ, List.getElem_cons_zero, List.setIfInBounds_toArray, List.set_cons_zero, List.set_cons_succ]
            refine wpAnyH_done (by kernel_rfl) ?_ _
            exact ⟨rfl, ⟨by rw [HP.out]; exact hst.2.1, hacl⟩, hst.2.2.1, hst.2.2.2⟩
  case hdone =>
    intro Wx hI hdf
    dsimp only at hI
    obtain ⟨v, h1, h2⟩ := hI.1.box
    obtain ⟨adv, cv, rfl⟩ := own_slF h2
    have k1 : Wx.cell? ⟨b7, 0, none⟩ = some (.slice adv R.length cv) := blkc h1 0
    have HZ2 : Hid (∀ w', AllBut Wx w' → Below w.heap.size Wx w' → w'.ownsRow w.heap.size 9 1 (.slice adv R.length cv) R.length (sCells R) ∧ Below w.heap.size w w') := by
      intro w' hab hbw
      have h3 := own_mono h2 (show w.heap.size ≤ w5.heap.size + 2 by omega)
      refine ⟨own_congr h3 fun b e => ?_, (HB0.out.trans (hI.1.bel.mono HB0.out.size)).trans hbw⟩
      obtain ⟨_, cur, hc⟩ := own_blk h3 e
      exact hab.block b (by rw [hc]; intro e; cases e)
    have Hdf := hidd hdf
    clear h1 h2 hI hdf
    go_wp2_with fail
    refine leaves_marks (B := w.heap.size) [w5.heap.size] _ _ ⟨by simp, fun D hD => ?_⟩ (AllBut.refl _) (Below.refl _ _) (fun w' hab hbw => ⟨.tuple #[.slice adv R.length cv, .int .i64 0], (by simp [results, Tryd.results5, go_sem]), ⟨_, rfl, HZ2.out w' hab hbw⟩⟩)
    have : D = w5.heap.size := by simpa using hD
    subst this
    exact ⟨by omega, Hdf.out⟩
theorem fgOK_iffI (k : Int) : fgOK k = true ↔ (10 ≤ k ∧ k ≤ 1000) := by simp [fgOK]
set_option maxHeartbeats 2000000 in
theorem implFrag_any (s : ByteArray) (k : Int) (w : World) (hs : s.size ≤ 1048576) (hT : Tabs w) :
    Calls Tryd.prog 5 #[.string s, .int .i64 k] w fun e w' => ∃ v, e = .returned (.tuple #[v, .int .i64 (fgCode s k)]) ∧ w'.ownsRow w.heap.size 9 1 v (fgList s k).length (sCells (fgList s k)) ∧ Below w.heap.size w w' := by
  by_cases hc : decCode s = 0
  · by_cases hok : fgOK k = true
    · have hb := (fgOK_iffI k).1 hok
      obtain ⟨K, rfl⟩ := Int.eq_ofNat_of_zero_le (by omega : 0 ≤ k)
      have h := implFrag_in s K w (dec_okB s hc).2 hc (by omega) (by omega) (hidd hT)
      have e1 : fgCode s (K : Int) = 0 := by unfold fgCode; rw [if_pos hc, if_pos hok]
      have e2 : fgList s (K : Int) = frL K (runes s) := by unfold fgList; rw [if_pos hc, if_pos hok]; rfl
      rw [e1, e2]
      exact h
    · have hno : ¬ (10 ≤ k ∧ k ≤ 1000) := fun h => hok ((fgOK_iffI k).2 h)
      have HR : Hid (fgList s k = [] ∧ fgCode s k = 12) := ⟨by unfold fgList; rw [if_pos hc, if_neg hok], by unfold fgCode; rw [if_pos hc, if_neg hok]⟩
      have HC := hidd hc
      have HT := hidd hT
      have HNo := hidd hno
      clear hok hc hT hno
      go_enter Tryd.func5, Tryd.ntmps5
      go_wp2_with fail
      refine (textCode_any s w (by omega) HT.out).mono ?_
      rintro e w0 ⟨rfl, hb0⟩
      have HB0 := hidd hb0
      clear hb0
      rw [HC.out]
      go_wp2_with fail
      refine (within_fF k 10 1000 _ HNo.out).mono ?_
      rintro e w1 ⟨rfl, hw1⟩
      obtain rfl := hw1.symm
      clear hw1
      go_wp2_with fail
      go_ret2
      rw [HR.out.1, HR.out.2]
      exact ⟨_, rfl, World.ownsRow_nil _ _ _ _, HB0.out⟩
  · have HR : Hid (fgList s k = [] ∧ fgCode s k = decCode s) := ⟨by unfold fgList; rw [if_neg hc], by unfold fgCode; rw [if_neg hc]⟩
    have HT := hidd hT
    clear hT
    generalize hcd : decCode s = c at *
    have HCd := hidd hcd
    clear hcd
    have hcb : (c != 0) = true := by simpa using hc
    go_enter Tryd.func5, Tryd.ntmps5
    go_wp2_with fail
    refine (textCode_any s w (by omega) HT.out).mono ?_
    rintro e w0 ⟨rfl, hb0⟩
    have HB0 := hidd hb0
    clear hb0
    rw [HCd.out]
    go_wp2_with fail
    go_ret2
    rw [HR.out.1, HR.out.2]
    exact ⟨_, rfl, World.ownsRow_nil _ _ _ _, HB0.out⟩
end Go.Proofs.YtebffdfalbjmhaaDoor
