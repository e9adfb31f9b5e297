import Derived.Test.YtkgmghncpjhodabSkK
namespace Go.Proofs.Ytkgmghncpjhodab
open Go Go.RowKit
set_option linter.unusedVariables false
set_option linter.unusedSimpArgs false
set_option maxRecDepth 100000

/-! spec.SketchJoin. -/
def mxP (a b : List Int) (k : Nat) : List Int := (List.range k).map fun i => max (a.getD i 0) (b.getD i 0)
theorem mxP_len (a b : List Int) (k : Nat) : (mxP a b k).length = k := by simp [mxP]
theorem mxP_succ (a b : List Int) (k : Nat) : mxP a b (k + 1) = mxP a b k ++ [max (a.getD k 0) (b.getD k 0)] := by simp [mxP, List.range_succ]
theorem mxP_all (a b : List Int) : mxP a b 256 = mxZ a b := by
  unfold mxP mxZ mxK
  refine List.map_congr_left fun i hi => ?_
  rw [if_pos (List.mem_range.1 hi)]
theorem own_slK {W : World} {base e n : Nat} {v : Value} {xs : List Value} (h : W.ownsRow base e 1 v n xs) : ∃ ad cap, v = .slice ad n cap := by
  rcases h.2 with ⟨h1, h2⟩ | ⟨g, cap, _, h1, _⟩
  · exact ⟨none, 0, by rw [h1, h2]⟩
  · exact ⟨_, cap, h1⟩
/-- A sketch that is being made: its box, and its row. -/
structure Ev (w4 W : World) (B base : Nat) (v : Value) (pts : List Int) : Prop where
  box : W.heap[B]? = some (.cells #[v] 27)
  row : W.ownsRow base 3 1 v pts.length (zI pts)
  bel : Below w4.heap.size w4 W
theorem Ev.sl {w4 W : World} {B base : Nat} {v : Value} {pts : List Int} (h : Ev w4 W B base v pts) : ∃ ad cap, v = .slice ad pts.length cap := own_slK h.row
theorem Ev.below {w4 W W' : World} {B base : Nat} {v : Value} {pts : List Int} (h : Ev w4 W B base v pts) (hb : Below W.heap.size W W') : Ev w4 W' B base v pts :=
  ⟨blko h.box hb, own_below h.row hb, h.bel.trans (hb.mono h.bel.size)⟩
/-- One number more behind a row of one's own, perhaps nil: at one operation of a region that draws. -/
theorem wpOp_push1 {W0 W : World} {ops : Array Oper} {i : Nat} {o : Oper} {a : Act} {K : Act → World → Prop} {Q : Exit → Act → World → Prop} (hio : ops[i]? = some o) (hw : Region.wanted o (yielded ops a.tmps) = true) (s x : Operand)
    (ho : o.op = .call { callee := .builtin .append, args := #[s, x], argTypes := #[22, 22] })
    (base : Nat) (v : Value) (xs : List Int) (hs : a.eval s = v) (hown : W.ownsRow base 3 1 v xs.length (zI xs)) (bx : Nat) (y : Int) (hx : a.eval x = .slice (some ⟨bx, 0, none⟩) 1 1) (hb : W.heap[bx]? = some (.cells #[.int .i64 y] 3)) (hl : xs.length ≤ 1048576) (hbase : base ≤ W.heap.size)
    (h : ∀ g c w' N, Hid ((xs ++ [y]).length = N) → w'.ownsRow base 3 1 (.slice (some ⟨g, 0, none⟩) N c) N (zI (xs ++ [y])) → W.grownBy w' v.ownBlock → K (a.put o.dst (.slice (some ⟨g, 0, none⟩) N c)) w') :
    wpOp Try.prog ops Q i K a W := by
  obtain ⟨i0, hi0, hz0, hz1, hz2⟩ := info_parts Try.infoIntL
  refine wpOp_wp hio hw ?_
  obtain ⟨v', w', hr, h2, h3, h4, h5⟩ := run_append_own_at (P := Try.prog) W base 22 o.type 3 i0 (.int .i64 0) 1 8 Try.underlying22 hi0 hz0 hz1 hz2 rfl (by decide) v xs.length (zI xs) hown ⟨bx, 0, none⟩ 1 1 [.int .i64 y] rfl (fun j u hj => by
    match j, hj with
    | 0, hj =>
      simp at hj
      subst hj
      rw [add_head]
      exact blkc hb 0
    | j + 1, hj => simp at hj) (fun u hu => by rw [List.mem_singleton.1 hu]; rfl) (by unfold maxLen; omega) (by omega) hbase
  rcases h2.2 with ⟨h', _⟩ | ⟨g', cap', cur', h', _⟩
  · exact absurd (h4.1 h').2 (by simp)
  subst h'
  rw [← zI_snoc] at h2
  have e : xs.length + 1 = (xs ++ [y]).length := by simp
  rw [e] at h2
  have hq := h g' cap' w' _ (hidd rfl) h2 h3
  unfold Oper.wp execOp
  simp only [ho, resolve, invoke, builtin, Sem.run_bind, Sem.run_pure, Result.andThen_ok, List.map_toArray, List.map_cons, List.map_nil, hs, hx, hr]
  rw [← e] at hq
  exact hq
theorem exec_boxN (W : World) (ρ : Operand → Value) (o : Oper) (y : Operand) (ho : o.op = .buildSlice 22 1 #[(0, y)]) (z : Int) (hx : ρ y = .int .i64 z) :
    (execOp ρ o).run Try.prog W = .ok (.value (.slice (some ⟨W.heap.size, 0, none⟩) 1 1)) (W.alloc (.cells #[.int .i64 z] 3)) := by
  unfold execOp
  simp only [ho, hx, Sem.run_bind, Sem.run_pure, Result.andThen_ok]
  go_simp
theorem exec_store0 (W : World) (ρ : Operand → Value) (o : Oper) (x y : Operand) (ho : o.op = .store 22 x y) (b : Nat) (r0 : Value) (ad : Option Addr) (n c : Nat) (hx : ρ x = .pointer (some ⟨b, 0, none⟩)) (hy : ρ y = .slice ad n c) (h : W.heap[b]? = some (.cells #[r0] 27)) :
    (execOp ρ o).run Try.prog W = .ok .skip (W.setCell ⟨b, 0, none⟩ (.slice ad n c)) := by
  have c3' : W.cell? ⟨b, 0, none⟩ = some r0 := blkc h 0
  have f3 := blkf h 0
  clear h
  unfold execOp
  simp only [ho, hx, hy, Sem.run_bind, Sem.run_pure, Result.andThen_ok]
  go_simp
/-- The row grown, its box written: one number more. -/
theorem Ev.step {w4 W V V2 : World} {B base : Nat} {v : Value} {pts : List Int} {y : Int} (h : Ev w4 W B base v pts) (hB : w4.heap.size ≤ B) (hBb : B < base) (hbz : base ≤ W.heap.size) (hV : Below W.heap.size W V) (hg : V.grownBy V2 v.ownBlock) {g c N : Nat} (hN : (pts ++ [y]).length = N)
    (ho : V2.ownsRow base 3 1 (.slice (some ⟨g, 0, none⟩) N c) N (zI (pts ++ [y]))) : V2.heap[B]? = some (.cells #[v] 27) ∧ Ev w4 (V2.setCell ⟨B, 0, none⟩ (.slice (some ⟨g, 0, none⟩) N c)) B base (.slice (some ⟨g, 0, none⟩) N c) (pts ++ [y]) := by
  have h1 := h.below hV
  have hz : w4.heap.size ≤ V.heap.size := h1.bel.size
  have hbox : V2.heap[B]? = some (.cells #[v] 27) := (hg.block B (Array.getElem?_eq_some_iff.1 h1.box).1 (fun e => by have := (own_blk h1.row e.symm).1; omega)).trans h1.box
  refine ⟨hbox, ?_, ?_, ?_⟩
  · have := blk_setk hbox 0 (.slice (some ⟨g, 0, none⟩) N c)
    simpa using this
  · rw [hN]
    exact own_congr ho (fun b hb => heap_set_other _ _ _ _ _ (by have := (own_blk ho hb).1; omega))
  · refine Below.setCell (p := ⟨B, 0, none⟩) ?_ hB _
    exact h1.bel.grown hg hz (fun k hk => by have := (own_blk h1.row hk).1; omega)
theorem exec_idxO (W : World) (ρ : Operand → Value) (o : Oper) (x y : Operand) (ho : o.op = .indexAddr 22 x y) (g off X len c : Nat) (hx : ρ x = .slice (some ⟨g, off, none⟩) len c) (hy : ρ y = .int .i64 (X : Int)) (h : X < len) :
    (execOp ρ o).run Try.prog W = .ok (.value (.pointer (some ⟨g, off + X, none⟩))) W := by
  have h1 : (0 : Int) ≤ (X : Int) := by omega
  have h2 : (X : Int) < (len : Int) := by omega
  unfold execOp
  simp only [ho, hx, hy, Sem.run_bind, Sem.run_pure, Result.andThen_ok]
  go_simp
theorem _root_.Go.World.grownBy.cell_of {W W' : World} {o : Option Nat} (hg : W.grownBy W' o) {b k : Nat} {u : Value} (h : W.cell? ⟨b, k, none⟩ = some u) (hne : some b ≠ o) : W'.cell? ⟨b, k, none⟩ = some u := by
  rw [World.cell?_of_block (hg.block b (cell_lt h) hne)]
  exact h
set_option maxHeartbeats 8000000 in
theorem specSkJoin_any (u1 u2 : Value) (z1 z2 : List Int) (w : World) (hl1 : z1.length ≤ 1048576) (hl2 : z2.length ≤ 1048576) (hv1 : HoldI w u1 z1) (hv2 : HoldI w u2 z2) :
    Calls Try.prog 11 #[.agg #[u1], .agg #[u2]] w (SkR w (joS z1 z2)) := by
  have HV1 := hidd hv1
  have HV2 := hidd hv2
  have HO1 : Hid (∀ (V : World), Below w.heap.size w V → Calls Try.prog 7 #[.agg #[u1]] V fun e w' => e = .returned (.bool (bOf (SkOK z1))) ∧ Below V.heap.size V w') := fun V hV => specSkOK_any u1 z1 V hl1 (hv1.below hV)
  have HO2 : Hid (∀ (V : World), Below w.heap.size w V → Calls Try.prog 7 #[.agg #[u2]] V fun e w' => e = .returned (.bool (bOf (SkOK z2))) ∧ Below V.heap.size V w') := fun V hV => specSkOK_any u2 z2 V hl2 (hv2.below hV)
  obtain ⟨ad1, k1, rfl, -⟩ := hv1
  obtain ⟨ad2, k2, rfl, -⟩ := hv2
  obtain ⟨n1, hn1⟩ : ∃ n, z1.length = n := ⟨_, rfl⟩
  obtain ⟨n2, hn2⟩ : ∃ n, z2.length = n := ⟨_, rfl⟩
  have HN1 := hidd hn1
  have HN2 := hidd hn2
  rw [hn1] at HO1 HV1 hl1
  rw [hn2] at HO2 HV2 hl2
  rw [hn1, hn2]
  clear hn1 hn2
  obtain ⟨J, hJ⟩ : ∃ J, joS z1 z2 = J := ⟨_, rfl⟩
  rw [hJ]
  have HJJ := hidd hJ
  clear hJ
  obtain ⟨W, hW⟩ : ∃ W, ((w.alloc (.cells #[.slice ad1 n1 k1] 27)).alloc (.cells #[.slice ad2 n2 k2] 27)).alloc (.cells #[.slice none 0 0] 27) = W := ⟨_, rfl⟩
  have hk := box_two w (.cells #[.slice ad1 n1 k1] 27) (.cells #[.slice ad2 n2 k2] 27)
  have HKa : Hid (W.heap[w.heap.size]? = some (.cells #[.slice ad1 n1 k1] 27)) := by show _ = _; rw [← hW, Below.heap_alloc _ _ _ (by simp; omega)]; exact hk.1
  have HKb : Hid (W.heap[w.heap.size + 1]? = some (.cells #[.slice ad2 n2 k2] 27)) := by show _ = _; rw [← hW, Below.heap_alloc _ _ _ (by simp)]; exact hk.2
  have HKr : Hid (W.heap[w.heap.size + 1 + 1]? = some (.cells #[.slice none 0 0] 27)) := by show _ = _; rw [← hW]; have := heap_alloc_new ((w.alloc (.cells #[.slice ad1 n1 k1] 27)).alloc (.cells #[.slice ad2 n2 k2] 27)) (.cells #[.slice none 0 0] 27); simpa using this
  have HBa : Hid (Below w.heap.size w W) := by show Below _ _ _; rw [← hW]; exact (((Below.refl _ _).alloc (Nat.le_refl _) _).alloc (by simp) _).alloc (by simp; omega) _
  clear hk
  have a0 : W.cell? ⟨w.heap.size, 0, none⟩ = some (.slice ad1 n1 k1) := blkc HKa.out 0
  go_enter Try.func11, Try.ntmps11
  go_upto_region 1 with fail
  try rw [hW]
  clear hW
  go_wp2_with fail
  refine (HO1.out _ HBa.out).mono ?_
  rintro e W0 ⟨rfl, hb0⟩
  have HB0 := hidd (HBa.out.trans (hb0.mono HBa.out.size))
  replace HKa := hidd (blko HKa.out hb0)
  replace HKb := hidd (blko HKb.out hb0)
  replace HKr := hidd (blko HKr.out hb0)
  clear hb0 a0 HBa
  cases hd1 : bOf (SkOK z1) with
  | false =>
    have HJ : Hid (J = ([], 1)) := by show _ = _; rw [← HJJ.out]; exact joS_bad (fun h => bOf_not hd1 h.1)
    clear hd1
    go_upto_region 2 with fail
    have x0 := blkc HKr.out 0
    have f0 := blkf HKr.out 0
    have HKf := hidd (blk_setk HKr.out 0 (.slice none 0 0))
    have HBf := hidd (HB0.out.setCell (p := ⟨w.heap.size + 1 + 1, 0, none⟩) (show w.heap.size ≤ w.heap.size + 1 + 1 by omega) (.slice none 0 0))
    have q0 := blkc HKf.out 0
    go_wp2_with fail
    refine bodyPost_ret (v := .tuple #[.agg #[.slice none 0 0], .int .i64 1]) (by simp [results, Try.results11, go_sem, q0]) rfl ?_
    rw [HJ.out]
    exact ⟨3, _, Or.inl rfl, rfl, World.ownsRow_nil _ _ _ _, HBf.out⟩
  | true =>
    have b0 : W0.cell? ⟨w.heap.size + 1, 0, none⟩ = some (.slice ad2 n2 k2) := blkc HKb.out 0
    go_wp2_with fail
    refine (HO2.out _ HB0.out).mono ?_
    rintro e w2 ⟨rfl, hb1⟩
    have HB1 := hidd (HB0.out.trans (hb1.mono HB0.out.size))
    replace HKa := hidd (blko HKa.out hb1)
    replace HKb := hidd (blko HKb.out hb1)
    replace HKr := hidd (blko HKr.out hb1)
    clear hb1 b0 HB0
    cases hd2 : bOf (SkOK z2) with
    | false =>
      have HJ : Hid (J = ([], 1)) := by show _ = _; rw [← HJJ.out]; exact joS_bad (fun h => bOf_not hd2 h.2)
      clear hd1 hd2
      go_upto_region 2 with fail
      have x0 := blkc HKr.out 0
      have f0 := blkf HKr.out 0
      have HKf := hidd (blk_setk HKr.out 0 (.slice none 0 0))
      have HBf := hidd (HB1.out.setCell (p := ⟨w.heap.size + 1 + 1, 0, none⟩) (show w.heap.size ≤ w.heap.size + 1 + 1 by omega) (.slice none 0 0))
      have q0 := blkc HKf.out 0
      go_wp2_with fail
      refine bodyPost_ret (v := .tuple #[.agg #[.slice none 0 0], .int .i64 1]) (by simp [results, Try.results11, go_sem, q0]) rfl ?_
      rw [HJ.out]
      exact ⟨3, _, Or.inl rfl, rfl, World.ownsRow_nil _ _ _ _, HBf.out⟩
    | true =>
      have hs1 := bOf_ok hd1
      have hs2 := bOf_ok hd2
      have HJ : Hid (J = (mxZ z1 z2, 0)) := by show _ = _; rw [← HJJ.out]; exact joS_ok hs1 hs2
      have HMl : Hid ((mxZ z1 z2).length = 256) := (mxZ_ok hs1 hs2).1
      obtain rfl : n1 = 256 := by have := HN1.out; have := hs1.1; omega
      obtain rfl : n2 = 256 := by have := HN2.out; have := hs2.1; omega
      clear hd1 hd2
      have q1 := hs1.1
      have q2 := hs2.1
      have HQ1 := hidd q1
      have HQ2 := hidd q2
      clear hs1 hs2
      obtain ⟨ga, oa, rfl, hla0, hca⟩ : ∃ g off, ad1 = some ⟨g, off, none⟩ ∧ g < w.heap.size ∧ ∀ i, i < 256 → w.cell? ⟨g, off + i, none⟩ = some (.int .i64 (z1.getD i 0)) := by
        obtain ⟨a, c, e, h⟩ := HV1.out
        simp only [Value.slice.injEq] at e
        obtain ⟨rfl, -, rfl⟩ := e
        rcases h with h | ⟨g, off, h, h2, h3⟩
        · rw [h] at q1; simp at q1
        · exact ⟨g, off, h, h2, fun i hi => h3 i (by omega)⟩
      obtain ⟨gb, ob, rfl, hlb0, hcb⟩ : ∃ g off, ad2 = some ⟨g, off, none⟩ ∧ g < w.heap.size ∧ ∀ i, i < 256 → w.cell? ⟨g, off + i, none⟩ = some (.int .i64 (z2.getD i 0)) := by
        obtain ⟨a, c, e, h⟩ := HV2.out
        simp only [Value.slice.injEq] at e
        obtain ⟨rfl, -, rfl⟩ := e
        rcases h with h | ⟨g, off, h, h2, h3⟩
        · rw [h] at q2; simp at q2
        · exact ⟨g, off, h, h2, fun i hi => h3 i (by omega)⟩
      clear q1 q2 HV1 HV2 HO1 HO2
      have HCa := hidd hca
      have HCb := hidd hcb
      have HSz := hidd HB1.out.size
      have HSr := hidd (Array.getElem?_eq_some_iff.1 HKr.out).1
      have hla : w.heap.size < w2.heap.size := by have := HSr.out; omega
      have hlb : w.heap.size + 1 < w2.heap.size := by have := HSr.out; omega
      have hga : ga < w2.heap.size := by omega
      have hgb : gb < w2.heap.size := by omega
      clear hca hcb
      have HBn : Hid (Below w2.heap.size w2 (w2.alloc (.cells #[.slice none 0 0] 27))) := (Below.refl _ _).alloc (Nat.le_refl _) _
      have HKn := hidd (heap_alloc_new w2 (.cells #[.slice none 0 0] 27))
      go_upto_region 4 with fail
      obtain ⟨w3, hw3⟩ : ∃ V, w2.alloc (.cells #[.slice none 0 0] 27) = V := ⟨_, rfl⟩
      rw [hw3] at HBn HKn
      try rw [hw3]
      clear hw3
      have HE0 : Hid (Ev w2 w3 w2.heap.size (w2.heap.size + 1) (.slice none 0 0) (mxP z1 z2 0)) := ⟨HKn.out, World.ownsRow_nil _ _ _ _, HBn.out⟩
      clear HKn HBn
      go_wp2_with fail
      go_loopw [7] (fun iv wr => ∃ k : Nat, k ≤ 256 ∧ iv = .int .i64 (k : Int) ∧ ∃ v, Ev w2 wr w2.heap.size (w2.heap.size + 1) v (mxP z1 z2 k)) (fun iv _ => 256 - (intOf iv).toNat)
      case atStart => exact ⟨0, by omega, by first | rfl | simp, _, HE0.out⟩
      case round =>
        clear HE0
        obtain ⟨k, hk, rfl, v, hev⟩ := hrel
        obtain ⟨adv, cv, rfl⟩ := hev.sl
        have HEv := hidd hev
        rw [mxP_len] at HEv
        have hbz : w2.heap.size + 1 ≤ wr.heap.size := by have := (Array.getElem?_eq_some_iff.1 hev.box).1; omega
        clear hev
        obtain ⟨K, hKk⟩ : ∃ K, k = K := ⟨_, rfl⟩
        have HKk := hidd hKk
        rw [show (Value.slice adv k cv) = .slice adv K cv by rw [hKk]] at HEv
        clear hKk
        by_cases hkn : k < 256
        · have hkz : (k : Int) < 256 := by omega
          have c1 : wr.cell? ⟨w.heap.size, 0, none⟩ = some (.slice (some ⟨ga, oa, none⟩) 256 k1) := (HEv.out.bel.cell (p := ⟨w.heap.size, 0, none⟩) hla).trans (blkc HKa.out 0)
          have c2 : wr.cell? ⟨w.heap.size + 1, 0, none⟩ = some (.slice (some ⟨gb, ob, none⟩) 256 k2) := (HEv.out.bel.cell (p := ⟨w.heap.size + 1, 0, none⟩) hlb).trans (blkc HKb.out 0)
          have c3 : wr.cell? ⟨ga, oa + k, none⟩ = some (.int .i64 (z1.getD k 0)) := (HEv.out.bel.cell (p := ⟨ga, oa + k, none⟩) hga).trans ((HB1.out.cell (p := ⟨ga, oa + k, none⟩) hla0).trans (HCa.out k hkn))
          have c4 : wr.cell? ⟨gb, ob + k, none⟩ = some (.int .i64 (z2.getD k 0)) := (HEv.out.bel.cell (p := ⟨gb, ob + k, none⟩) hgb).trans ((HB1.out.cell (p := ⟨gb, ob + k, none⟩) hlb0).trans (HCb.out k hkn))
          have HY0 : Hid (max (z1.getD k 0) (z2.getD k 0) = max (z1.getD k 0) (z2.getD k 0)) := rfl
          obtain ⟨x, hx⟩ : ∃ x, z1.getD k 0 = x := ⟨_, rfl⟩
          obtain ⟨y, hy⟩ : ∃ y, z2.getD k 0 = y := ⟨_, rfl⟩
          obtain ⟨m, hm⟩ : ∃ m, max x y = m := ⟨_, rfl⟩
          rw [hx] at c3
          rw [hy] at c4
          have HY : Hid (max (z1.getD k 0) (z2.getD k 0) = m) := by show _ = _; rw [hx, hy, hm]
          have HMx := hidd hm
          clear hx hy hm HY0
          have HRow : Hid (∀ {V : World}, Below wr.heap.size wr V → V.ownsRow (w2.heap.size + 1) 3 1 (.slice adv K cv) k (zI (mxP z1 z2 k))) := fun {V} hV => by
            have h := (HEv.out.below hV).row
            rw [mxP_len] at h
            exact h
          go_wp2_with fail
          refine wp_region_held (S := fun u => u.cell? ⟨w.heap.size, 0, none⟩ = some (.slice (some ⟨ga, oa, none⟩) 256 k1) ∧ u.cell? ⟨w.heap.size + 1, 0, none⟩ = some (.slice (some ⟨gb, ob, none⟩) 256 k2) ∧ u.cell? ⟨ga, oa + k, none⟩ = some (.int .i64 x) ∧ u.cell? ⟨gb, ob + k, none⟩ = some (.int .i64 y)) (by kernel_rfl) ?_
          have hbd : Below wr.heap.size wr ({ heap := wr.heap, tape := wr.tape, drawn := wr.drawn + 1, os := wr.os, output := wr.output } : World) := (Below.refl _ _).drew
          generalize ({ heap := wr.heap, tape := wr.tape, drawn := wr.drawn + 1, os := wr.os, output := wr.output } : World) = Wd at *
          have hSd : (fun u => u.cell? ⟨w.heap.size, 0, none⟩ = some (.slice (some ⟨ga, oa, none⟩) 256 k1) ∧ u.cell? ⟨w.heap.size + 1, 0, none⟩ = some (.slice (some ⟨gb, ob, none⟩) 256 k2) ∧ u.cell? ⟨ga, oa + k, none⟩ = some (.int .i64 x) ∧ u.cell? ⟨gb, ob + k, none⟩ = some (.int .i64 y)) Wd := ⟨(hbd.cell (cell_lt c1)).trans c1, (hbd.cell (cell_lt c2)).trans c2, (hbd.cell (cell_lt c3)).trans c3, (hbd.cell (cell_lt c4)).trans c4⟩
          try simp only [Act.put, List.getElem_toArray, List.getElem_cons_succ, List.getElem_cons_zero, List.setIfInBounds_toArray, List.set_cons_zero, List.set_cons_succ]
          refine tkX 0 (hS := hSd) (h := ?_)
          try simp only [Act.put, List.getElem_toArray, List.getElem_cons_succ, List.getElem_cons_zero, List.setIfInBounds_toArray, List.set_cons_zero, List.set_cons_succ]
          refine tkX 2 (hS := hSd) (h := ?_)
          try simp only [Act.put, List.getElem_toArray, List.getElem_cons_succ, List.getElem_cons_zero, List.setIfInBounds_toArray, List.set_cons_zero, List.set_cons_succ]
          refine tkX 3 (v := .slice (some ⟨ga, oa, none⟩) 256 k1) (hS := hSd) (h := ?_)
          try simp only [Act.put, List.getElem_toArray, List.getElem_cons_succ, List.getElem_cons_zero, List.setIfInBounds_toArray, List.set_cons_zero, List.set_cons_succ]
          refine tkX 4 (hS := hSd) (h := ?_)
          try simp only [Act.put, List.getElem_toArray, List.getElem_cons_succ, List.getElem_cons_zero, List.setIfInBounds_toArray, List.set_cons_zero, List.set_cons_succ]
          refine wpAnyH_take (i := 5) (v := .pointer (some ⟨ga, oa + k, none⟩)) rfl (by kernel_rfl) (by kernel_rfl) (by kernel_rfl) (fun _ _ _ h => h) (Or.inl ⟨by kernel_rfl, fun W hW => exec_idxO W _ _ _ _ rfl ga oa k 256 k1 (by kernel_rfl) (by kernel_rfl) hkn⟩) hSd ?_
          try simp only [Act.put, List.getElem_toArray, List.getElem_cons_succ, List.getElem_cons_zero, List.setIfInBounds_toArray, List.set_cons_zero, List.set_cons_succ]
          refine tkX 6 (v := .int .i64 x) (hS := hSd) (h := ?_)
          try simp only [Act.put, List.getElem_toArray, List.getElem_cons_succ, List.getElem_cons_zero, List.setIfInBounds_toArray, List.set_cons_zero, List.set_cons_succ]
          refine tkX 7 (hS := hSd) (h := ?_)
          try simp only [Act.put, List.getElem_toArray, List.getElem_cons_succ, List.getElem_cons_zero, List.setIfInBounds_toArray, List.set_cons_zero, List.set_cons_succ]
          refine tkX 8 (v := .slice (some ⟨gb, ob, none⟩) 256 k2) (hS := hSd) (h := ?_)
          try simp only [Act.put, List.getElem_toArray, List.getElem_cons_succ, List.getElem_cons_zero, List.setIfInBounds_toArray, List.set_cons_zero, List.set_cons_succ]
          refine tkX 9 (hS := hSd) (h := ?_)
          try simp only [Act.put, List.getElem_toArray, List.getElem_cons_succ, List.getElem_cons_zero, List.setIfInBounds_toArray, List.set_cons_zero, List.set_cons_succ]
          refine wpAnyH_take (i := 10) (v := .pointer (some ⟨gb, ob + k, none⟩)) rfl (by kernel_rfl) (by kernel_rfl) (by kernel_rfl) (fun _ _ _ h => h) (Or.inl ⟨by kernel_rfl, fun W hW => exec_idxO W _ _ _ _ rfl gb ob k 256 k2 (by kernel_rfl) (by kernel_rfl) hkn⟩) hSd ?_
          try simp only [Act.put, List.getElem_toArray, List.getElem_cons_succ, List.getElem_cons_zero, List.setIfInBounds_toArray, List.set_cons_zero, List.set_cons_succ]
          refine tkX 11 (v := .int .i64 y) (hS := hSd) (h := ?_)
          try simp only [Act.put, List.getElem_toArray, List.getElem_cons_succ, List.getElem_cons_zero, List.setIfInBounds_toArray, List.set_cons_zero, List.set_cons_succ]
          refine wpAnyH_take (i := 12) (v := .int .i64 m) rfl (by kernel_rfl) (by kernel_rfl) (by kernel_rfl) (fun _ _ _ h => h) (Or.inl ⟨by kernel_rfl, fun W hW => exec_max2 W _ _ _ _ .i64 _ rfl x y m (by kernel_rfl) (by kernel_rfl) HMx.out⟩) hSd ?_
          try simp only [Act.put, List.getElem_toArray, List.getElem_cons_succ, List.getElem_cons_zero, List.setIfInBounds_toArray, List.set_cons_zero, List.set_cons_succ]
          refine wpAnyH_two 1 13 (by kernel_rfl) ?_ ?_
          · refine wpOp_val _ _ rfl (by kernel_rfl) (exec_loadK _ _ _ _ rfl w2.heap.size adv K cv (by kernel_rfl) (blko HEv.out.box hbd)) ?_
            refine ⟨hSd, ?_⟩
            try simp only [Act.put, List.getElem_toArray, List.getElem_cons_succ, List.getElem_cons_zero, List.setIfInBounds_toArray, List.set_cons_zero, List.set_cons_succ]
            refine wpAnyH_one 13 (by kernel_rfl) ?_
            refine wpOp_val _ _ rfl (by kernel_rfl) (exec_boxN _ _ _ _ rfl m (by kernel_rfl)) ?_
            have hal : Below Wd.heap.size Wd (Wd.alloc (.cells #[.int .i64 m] 3)) := (Below.refl _ _).alloc (Nat.le_refl _) _
            have hxa := heap_alloc_new Wd (.cells #[.int .i64 m] 3)
            have hbV := hbd.trans (hal.mono hbd.size)
            obtain ⟨V, hVe⟩ : ∃ V, Wd.alloc (.cells #[.int .i64 m] 3) = V := ⟨_, rfl⟩
            rw [hVe] at hal hxa hbV
            rw [hVe]
            clear hVe
            have hSV : (fun u => u.cell? ⟨w.heap.size, 0, none⟩ = some (.slice (some ⟨ga, oa, none⟩) 256 k1) ∧ u.cell? ⟨w.heap.size + 1, 0, none⟩ = some (.slice (some ⟨gb, ob, none⟩) 256 k2) ∧ u.cell? ⟨ga, oa + k, none⟩ = some (.int .i64 x) ∧ u.cell? ⟨gb, ob + k, none⟩ = some (.int .i64 y)) V := ⟨(hbV.cell (cell_lt c1)).trans c1, (hbV.cell (cell_lt c2)).trans c2, (hbV.cell (cell_lt c3)).trans c3, (hbV.cell (cell_lt c4)).trans c4⟩
            refine ⟨hSV, ?_⟩
            try simp only [Act.put, List.getElem_toArray, List.getElem_cons_succ, List.getElem_cons_zero, List.setIfInBounds_toArray, List.set_cons_zero, List.set_cons_succ]
            refine wpAnyH_one 14 (by kernel_rfl) ?_
            refine wpOp_push1 (W0 := Wd) rfl (by kernel_rfl) _ _ rfl (w2.heap.size + 1) (.slice adv K cv) (mxP z1 z2 k) (by kernel_rfl) (by rw [mxP_len]; exact HRow.out hbV) Wd.heap.size m (by kernel_rfl) hxa (by rw [mxP_len]; omega) (Nat.le_trans hbz hbV.size) ?_
            intro g7 c7 V2 N7 hN7 ho7 hgr7
            have hst := Ev.step HEv.out (Nat.le_refl _) (Nat.lt_succ_self _) hbz hbV hgr7 hN7.out ho7
            have HEn := hidd hst.2
            have hno : ∀ b, b < w2.heap.size → some b ≠ (Value.slice adv K cv).ownBlock := fun b hb e => by have := own_block (HRow.out hbV) b e.symm; omega
            have hSV2 : (fun u => u.cell? ⟨w.heap.size, 0, none⟩ = some (.slice (some ⟨ga, oa, none⟩) 256 k1) ∧ u.cell? ⟨w.heap.size + 1, 0, none⟩ = some (.slice (some ⟨gb, ob, none⟩) 256 k2) ∧ u.cell? ⟨ga, oa + k, none⟩ = some (.int .i64 x) ∧ u.cell? ⟨gb, ob + k, none⟩ = some (.int .i64 y)) V2 := ⟨hgr7.cell_of hSV.1 (hno _ hla), hgr7.cell_of hSV.2.1 (hno _ hlb), hgr7.cell_of hSV.2.2.1 (hno _ hga), hgr7.cell_of hSV.2.2.2 (hno _ hgb)⟩
            refine ⟨hSV2, ?_⟩
            try simp only [Act.put, List.getElem_toArray, List.getElem_cons_succ, List.getElem_cons_zero, List.setIfInBounds_toArray, List.set_cons_zero, List.set_cons_succ]
            refine tkX 15 (hS := hSV2) (h := ?_)
            try simp only [Act.put, List.getElem_toArray, List.getElem_cons_succ, List.getElem_cons_zero, List.setIfInBounds_toArray, List.set_cons_zero, List.set_cons_succ]
            refine wpAnyH_one 16 (by kernel_rfl) ?_
            refine wpOp_skip _ rfl (by kernel_rfl) (exec_store0 V2 _ _ _ _ rfl w2.heap.size _ (some ⟨g7, 0, none⟩) N7 c7 (by kernel_rfl) (by kernel_rfl) hst.1) ?_
            have hsc : ∀ (b j : Nat) (u : Value), b < w2.heap.size → V2.cell? ⟨b, j, none⟩ = some u → (V2.setCell ⟨w2.heap.size, 0, none⟩ (.slice (some ⟨g7, 0, none⟩) N7 c7)).cell? ⟨b, j, none⟩ = some u := fun b j u hb hu => by
              rw [World.cell?_of_block (heap_set_other _ _ _ _ _ (show b ≠ w2.heap.size by omega))]
              exact hu
            refine ⟨⟨hsc _ _ _ hla hSV2.1, hsc _ _ _ hlb hSV2.2.1, hsc _ _ _ hga hSV2.2.2.1, hsc _ _ _ hgb hSV2.2.2.2⟩, ?_⟩
            try simp only [Act.put, List.getElem_toArray, List.getElem_cons_succ, List.getElem_cons_zero, List.setIfInBounds_toArray, List.set_cons_zero, List.set_cons_succ]
            refine wpAnyH_done (by kernel_rfl) ?_ _
            have HN7 : Hid (N7 = k + 1) := by show _ = _; rw [← hN7.out, List.length_append, mxP_len]; rfl
            clear hSd hSV hSV2 hst hgr7 ho7 hN7 hbV hal hxa hbd hno hsc
            rw [← HY.out, ← mxP_succ] at HEn
            have hz9 := HEn.out.bel.size
            generalize V2.setCell ⟨w2.heap.size, 0, none⟩ (.slice (some ⟨g7, 0, none⟩) N7 c7) = V3 at *
            go_wp2_with fail
            go_roundw
            case rel => exact ⟨k + 1, by omega, by go_num, _, HEn.out⟩
            case measure => simp [intOf]; omega
          · refine wpOp_val _ _ rfl (by kernel_rfl) (exec_boxN _ _ _ _ rfl m (by kernel_rfl)) ?_
            have hal : Below Wd.heap.size Wd (Wd.alloc (.cells #[.int .i64 m] 3)) := (Below.refl _ _).alloc (Nat.le_refl _) _
            have hxa := heap_alloc_new Wd (.cells #[.int .i64 m] 3)
            have hbV := hbd.trans (hal.mono hbd.size)
            obtain ⟨V, hVe⟩ : ∃ V, Wd.alloc (.cells #[.int .i64 m] 3) = V := ⟨_, rfl⟩
            rw [hVe] at hal hxa hbV
            rw [hVe]
            clear hVe
            have hSV : (fun u => u.cell? ⟨w.heap.size, 0, none⟩ = some (.slice (some ⟨ga, oa, none⟩) 256 k1) ∧ u.cell? ⟨w.heap.size + 1, 0, none⟩ = some (.slice (some ⟨gb, ob, none⟩) 256 k2) ∧ u.cell? ⟨ga, oa + k, none⟩ = some (.int .i64 x) ∧ u.cell? ⟨gb, ob + k, none⟩ = some (.int .i64 y)) V := ⟨(hbV.cell (cell_lt c1)).trans c1, (hbV.cell (cell_lt c2)).trans c2, (hbV.cell (cell_lt c3)).trans c3, (hbV.cell (cell_lt c4)).trans c4⟩
            refine ⟨hSV, ?_⟩
            try simp only [Act.put, List.getElem_toArray, List.getElem_cons_succ, List.getElem_cons_zero, List.setIfInBounds_toArray, List.set_cons_zero, List.set_cons_succ]
            refine wpAnyH_one 1 (by kernel_rfl) ?_
            refine wpOp_val _ _ rfl (by kernel_rfl) (exec_loadK _ _ _ _ rfl w2.heap.size adv K cv (by kernel_rfl) (blko HEv.out.box hbV)) ?_
            refine ⟨hSV, ?_⟩
            try simp only [Act.put, List.getElem_toArray, List.getElem_cons_succ, List.getElem_cons_zero, List.setIfInBounds_toArray, List.set_cons_zero, List.set_cons_succ]
            refine wpAnyH_one 14 (by kernel_rfl) ?_
            refine wpOp_push1 (W0 := Wd) rfl (by kernel_rfl) _ _ rfl (w2.heap.size + 1) (.slice adv K cv) (mxP z1 z2 k) (by kernel_rfl) (by rw [mxP_len]; exact HRow.out hbV) Wd.heap.size m (by kernel_rfl) hxa (by rw [mxP_len]; omega) (Nat.le_trans hbz hbV.size) ?_
            intro g7 c7 V2 N7 hN7 ho7 hgr7
            have hst := Ev.step HEv.out (Nat.le_refl _) (Nat.lt_succ_self _) hbz hbV hgr7 hN7.out ho7
            have HEn := hidd hst.2
            have hno : ∀ b, b < w2.heap.size → some b ≠ (Value.slice adv K cv).ownBlock := fun b hb e => by have := own_block (HRow.out hbV) b e.symm; omega
            have hSV2 : (fun u => u.cell? ⟨w.heap.size, 0, none⟩ = some (.slice (some ⟨ga, oa, none⟩) 256 k1) ∧ u.cell? ⟨w.heap.size + 1, 0, none⟩ = some (.slice (some ⟨gb, ob, none⟩) 256 k2) ∧ u.cell? ⟨ga, oa + k, none⟩ = some (.int .i64 x) ∧ u.cell? ⟨gb, ob + k, none⟩ = some (.int .i64 y)) V2 := ⟨hgr7.cell_of hSV.1 (hno _ hla), hgr7.cell_of hSV.2.1 (hno _ hlb), hgr7.cell_of hSV.2.2.1 (hno _ hga), hgr7.cell_of hSV.2.2.2 (hno _ hgb)⟩
            refine ⟨hSV2, ?_⟩
            try simp only [Act.put, List.getElem_toArray, List.getElem_cons_succ, List.getElem_cons_zero, List.setIfInBounds_toArray, List.set_cons_zero, List.set_cons_succ]
            refine tkX 15 (hS := hSV2) (h := ?_)
            try simp only [Act.put, List.getElem_toArray, List.getElem_cons_succ, List.getElem_cons_zero, List.setIfInBounds_toArray, List.set_cons_zero, List.set_cons_succ]
            refine wpAnyH_one 16 (by kernel_rfl) ?_
            refine wpOp_skip _ rfl (by kernel_rfl) (exec_store0 V2 _ _ _ _ rfl w2.heap.size _ (some ⟨g7, 0, none⟩) N7 c7 (by kernel_rfl) (by kernel_rfl) hst.1) ?_
            have hsc : ∀ (b j : Nat) (u : Value), b < w2.heap.size → V2.cell? ⟨b, j, none⟩ = some u → (V2.setCell ⟨w2.heap.size, 0, none⟩ (.slice (some ⟨g7, 0, none⟩) N7 c7)).cell? ⟨b, j, none⟩ = some u := fun b j u hb hu => by
              rw [World.cell?_of_block (heap_set_other _ _ _ _ _ (show b ≠ w2.heap.size by omega))]
              exact hu
            refine ⟨⟨hsc _ _ _ hla hSV2.1, hsc _ _ _ hlb hSV2.2.1, hsc _ _ _ hga hSV2.2.2.1, hsc _ _ _ hgb hSV2.2.2.2⟩, ?_⟩
            try simp only [Act.put, List.getElem_toArray, List.getElem_cons_succ, List.getElem_cons_zero, List.setIfInBounds_toArray, List.set_cons_zero, List.set_cons_succ]
            refine wpAnyH_done (by kernel_rfl) ?_ _
            have HN7 : Hid (N7 = k + 1) := by show _ = _; rw [← hN7.out, List.length_append, mxP_len]; rfl
            clear hSd hSV hSV2 hst hgr7 ho7 hN7 hbV hal hxa hbd hno hsc
            rw [← HY.out, ← mxP_succ] at HEn
            have hz9 := HEn.out.bel.size
            generalize V2.setCell ⟨w2.heap.size, 0, none⟩ (.slice (some ⟨g7, 0, none⟩) N7 c7) = V3 at *
            go_wp2_with fail
            go_roundw
            case rel => exact ⟨k + 1, by omega, by go_num, _, HEn.out⟩
            case measure => simp [intOf]; omega
        · have hkz : ¬ (k : Int) < 256 := by omega
          have hke : k = 256 := by omega
          have HKe := hidd hke
          have x0 : wr.cell? ⟨w2.heap.size, 0, none⟩ = some (.slice adv K cv) := blkc HEv.out.box 0
          have HKr2 : Hid (wr.heap[w.heap.size + 1 + 1]? = some (.cells #[.slice none 0 0] 27)) := (HEv.out.bel.block _ HSr.out).trans HKr.out
          have HBr : Hid (Below w.heap.size w wr) := HB1.out.trans (HEv.out.bel.mono HB1.out.size)
          have r0 : wr.cell? ⟨w.heap.size + 1 + 1, 0, none⟩ = some (.slice none 0 0) := blkc HKr2.out 0
          have f0 := blkf HKr2.out 0
          clear hke
          have HKf := hidd (blk_setk HKr2.out 0 (.slice adv K cv))
          have HBf := hidd (HBr.out.setCell (p := ⟨w.heap.size + 1 + 1, 0, none⟩) (show w.heap.size ≤ w.heap.size + 1 + 1 by omega) (.slice adv K cv))
          have q0 : (wr.setCell ⟨w.heap.size + 1 + 1, 0, none⟩ (.slice adv K cv)).cell? ⟨w.heap.size + 1 + 1, 0, none⟩ = some (.slice adv K cv) := by rw [blkc HKf.out 0]; rfl
          go_wp2_with fail
          refine bodyPost_ret (v := .tuple #[.agg #[.slice adv K cv], .int .i64 0]) (by simp [results, Try.results11, go_sem, q0]) rfl ?_
          rw [HJ.out]
          refine ⟨3, _, Or.inl rfl, rfl, ?_, HBf.out⟩
          show World.ownsRow _ _ _ _ _ (mxZ z1 z2).length (zI (mxZ z1 z2))
          have hrow := HEv.out.row
          rw [HKe.out, mxP_all] at hrow
          have hsr := HSr.out
          exact own_congr (own_mono hrow (by have := HSz.out; omega)) (fun b hb => heap_set_other _ _ _ _ _ (by have := (own_blk hrow hb).1; omega))
end Go.Proofs.Ytkgmghncpjhodab
