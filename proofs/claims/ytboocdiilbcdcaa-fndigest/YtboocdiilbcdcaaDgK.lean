import Derived.Test.YtboocdiilbcdcaaDgJ
import Derived.Test.YtboocdiilbcdcaaDgI
namespace Go.Proofs.Ytboocdiilbcdcaa
open Go Go.RowKit
set_option linter.unusedVariables false
set_option linter.unusedSimpArgs false
set_option maxRecDepth 100000

/-! DigestJoin on both sides. -/
theorem set4 {W : World} {b : Nat} {x0 x1 x2 x3 : Value} {t : TypeId} (h : W.heap[b]? = some (.cells #[x0, x1, x2, x3] t)) (y0 y1 y2 y3 : Value) : ((((W.setCell ⟨b, 0, none⟩ y0).setCell ⟨b, 1, none⟩ y1).setCell ⟨b, 2, none⟩ y2).setCell ⟨b, 3, none⟩ y3).heap[b]? = some (.cells #[y0, y1, y2, y3] t) := by
  have h1 := blk_setk (blk_setk (blk_setk (blk_setk h 0 y0) 1 y1) 2 y2) 3 y3
  simpa using h1
theorem set4o {W : World} {b : Nat} (y0 y1 y2 y3 : Value) {x : Nat} (hx : x ≠ b) : ((((W.setCell ⟨b, 0, none⟩ y0).setCell ⟨b, 1, none⟩ y1).setCell ⟨b, 2, none⟩ y2).setCell ⟨b, 3, none⟩ y3).heap[x]? = W.heap[x]? := by
  rw [heap_set_other _ _ _ _ _ hx, heap_set_other _ _ _ _ _ hx, heap_set_other _ _ _ _ _ hx, heap_set_other _ _ _ _ _ hx]
theorem ret4 {w W : World} {b : Nat} {x0 x1 x2 x3 : Value} {t : TypeId} (y0 y1 y2 y3 : Value) (hb : Below w.heap.size w W) (hB : w.heap.size ≤ b) (h : W.heap[b]? = some (.cells #[x0, x1, x2, x3] t)) :
    Below w.heap.size w ((((W.setCell ⟨b, 0, none⟩ y0).setCell ⟨b, 1, none⟩ y1).setCell ⟨b, 2, none⟩ y2).setCell ⟨b, 3, none⟩ y3) ∧ ((((W.setCell ⟨b, 0, none⟩ y0).setCell ⟨b, 1, none⟩ y1).setCell ⟨b, 2, none⟩ y2).setCell ⟨b, 3, none⟩ y3).heap[b]? = some (.cells #[y0, y1, y2, y3] t) :=
  ⟨(((hb.setCell (p := ⟨b, 0, none⟩) hB _).setCell (p := ⟨b, 1, none⟩) hB _).setCell (p := ⟨b, 2, none⟩) hB _).setCell (p := ⟨b, 3, none⟩) hB _, set4 h y0 y1 y2 y3⟩
theorem exec_emptyN (W : World) (ρ : Operand → Value) (o : Oper) (ho : o.op = .buildSlice 23 0 #[]) :
    (execOp ρ o).run Try.prog W = .ok (.value (.slice (some ⟨W.heap.size, 0, none⟩) 0 0)) (W.alloc (.cells #[] 3)) := by
  unfold execOp
  simp only [ho, Sem.run_bind, Sem.run_pure, Result.andThen_ok]
  go_simp
theorem exec_storeD (W : World) (ρ : Operand → Value) (o : Oper) (x y : Operand) (ho : o.op = .store 27 x y) (b : Nat) (r0 r1 r2 r3 : Value) (x0 x1 x2 : Int) (a3 : Option Addr) (n3 c3 : Nat) (hx : ρ x = .pointer (some ⟨b, 0, none⟩)) (hy : ρ y = .agg #[.int .i64 x0, .int .i64 x1, .int .i64 x2, .slice a3 n3 c3])
    (h : W.heap[b]? = some (.cells #[r0, r1, r2, r3] 27)) : (execOp ρ o).run Try.prog W = .ok .skip ((((W.setCell ⟨b, 0, none⟩ (.int .i64 x0)).setCell ⟨b, 1, none⟩ (.int .i64 x1)).setCell ⟨b, 2, none⟩ (.int .i64 x2)).setCell ⟨b, 3, none⟩ (.slice a3 n3 c3)) := by
  have c0' : W.cell? ⟨b, 0, none⟩ = some r0 := blkc h 0
  have f0 := blkf h 0
  have c1' : W.cell? ⟨b, 1, none⟩ = some r1 := blkc h 1
  have f1 := blkf h 1
  have c2' : W.cell? ⟨b, 2, none⟩ = some r2 := blkc h 2
  have f2 := blkf h 2
  have c3' : W.cell? ⟨b, 3, none⟩ = some r3 := blkc h 3
  have f3 := blkf h 3
  clear h
  unfold execOp
  simp only [ho, hx, hy, Sem.run_bind, Sem.run_pure, Result.andThen_ok]
  go_simp
theorem exec_buildD (W : World) (ρ : Operand → Value) (o : Oper) (x0 x1 x2 x3 : Operand) (ho : o.op = .build 27 #[(0, x0), (1, x1), (2, x2), (3, x3)]) (u0 u1 u2 : Int) (a3 : Option Addr) (n3 c3 : Nat) (h0 : ρ x0 = .int .i64 u0) (h1 : ρ x1 = .int .i64 u1) (h2 : ρ x2 = .int .i64 u2) (h3 : ρ x3 = .slice a3 n3 c3) :
    (execOp ρ o).run Try.prog W = .ok (.value (.agg #[.int .i64 u0, .int .i64 u1, .int .i64 u2, .slice a3 n3 c3])) W := by
  unfold execOp
  simp only [ho, Sem.run_bind, Sem.run_pure, Result.andThen_ok, List.map_toArray, List.map_cons, List.map_nil, h0, h1, h2, h3]
  go_simp
/-- A row that grows by a slice, perhaps an empty one: at one operation of a region that draws. -/
theorem wpOp_szApp {w : World} {ops : Array Oper} {i : Nat} {o : Oper} {a : Act} {K : Act → World → Prop} {Q : Exit → Act → World → Prop} (hio : ops[i]? = some o) (hw : Region.wanted o (yielded ops a.tmps) = true) (s x : Operand)
    (ho : o.op = .call { callee := .builtin .append, args := #[s, x], argTypes := #[23, 23] })
    (base g c : Nat) (xs : List Int) (hs : a.eval s = .slice (some ⟨g, 0, none⟩) xs.length c) (hown : w.ownsRow base 3 1 (.slice (some ⟨g, 0, none⟩) xs.length c) xs.length (zI xs))
    (v2 : Value) (zs : List Int) (hx : a.eval x = v2) (hrow : SzI w v2 zs) (hnm : xs.length + zs.length ≤ 1048576) (hbase : base ≤ w.heap.size)
    (h : ∀ g' c' w', w'.ownsRow base 3 1 (.slice (some ⟨g', 0, none⟩) (xs ++ zs).length c') (xs ++ zs).length (zI (xs ++ zs)) → w.grownBy w' (some g) → (g' = g ∨ w.heap.size ≤ g') → K (a.put o.dst (.slice (some ⟨g', 0, none⟩) (xs ++ zs).length c')) w') :
    wpOp Try.prog ops Q i K a w := by
  obtain ⟨i0, hi0, hz0, hz1, hz2⟩ := info_parts Try.infoIntL
  refine wpOp_wp hio hw ?_
  obtain ⟨ad, cap, rfl, hcap, hT⟩ := hrow
  have key : ∀ (ad' : Addr), ad = some ad' → (∀ j u, (zI zs)[j]? = some u → w.cell? (ad'.add j) = some u) → o.wp Try.prog a w K Q := by
    intro ad' had hnews
    subst had
    obtain ⟨v', w', hr, h2, h3, h4, h5⟩ := run_append_own_at (P := Try.prog) w base 23 o.type 3 i0 (.int .i64 0) 1 8 Try.underlying23 hi0 hz0 hz1 hz2 rfl (by decide) _ xs.length (zI xs) hown ad' zs.length cap (zI zs) (by rw [zI_len, Nat.mul_one]) hnews (fun u hu => by
      simp only [zI, List.mem_map] at hu
      obtain ⟨x, _, rfl⟩ := hu
      rfl) (by unfold maxLen; omega) (by omega) hbase
    rcases h2.2 with ⟨h', _⟩ | ⟨g', cap', cur', h', _⟩
    · exact absurd (h4.1 h').1 (by simp)
    subst h'
    rw [← zI_app, ← List.length_append] at h2
    have hq := h g' cap' w' h2 h3 (by
      rcases h5 with h5 | h5
      · exact Or.inl (by simpa [Value.ownBlock] using h5)
      · exact Or.inr (by have : g' = w.heap.size := by simpa [Value.ownBlock] using h5
                         omega))
    unfold Oper.wp execOp
    simp only [ho, resolve, invoke, builtin, Sem.run_bind, Sem.run_pure, Result.andThen_ok, List.map_toArray, List.map_cons, List.map_nil, hs, hx, hr]
    rw [List.length_append] at hq
    exact hq
  rcases hT with rfl | ⟨g2, off, rfl, hg2, hc2⟩
  · rcases ad with _ | ad
    · have hh := h g c w (by rw [List.append_nil]; exact hown) (grown_refl _ _) (Or.inl rfl)
      rw [List.append_nil] at hh
      have hr : (Builtin.append_ #[23, 23] o.type #[.slice (some ⟨g, 0, none⟩) xs.length c, .slice none 0 cap]).run Try.prog w = .ok (.slice (some ⟨g, 0, none⟩) xs.length c) w := by
        have hcx := own_cap hown
        simp [Builtin.append_, run_underlying Try.underlying23, sizeOf, typeInfo, hi0, Builtin.lenOf, Builtin.firstCells, loadCells, loadCellsFrom, storeCells, hcx]
      unfold Oper.wp execOp
      simp only [ho, resolve, invoke, builtin, Sem.run_bind, Sem.run_pure, Result.andThen_ok, List.map_toArray, List.map_cons, List.map_nil, hs, hx, List.length_nil, hr]
      exact hh
    · exact key ad rfl (fun j u hj => by simp [zI] at hj)
  · refine key ⟨g2, off, none⟩ rfl (fun j u hj => ?_)
    have hjl : j < zs.length := by have := (List.getElem?_eq_some_iff.1 hj).1; rwa [zI_len] at this
    rw [show (⟨g2, off, none⟩ : Addr).add j = ⟨g2, off + j, none⟩ from by simp only [Addr.add]; split <;> simp_all]
    rw [hc2 j hjl]
    rw [← hj]
    simp [zI, List.getD_eq_getElem?_getD, List.getElem?_eq_getElem hjl]
theorem wpOp_szAppN {w : World} {ops : Array Oper} {i : Nat} {o : Oper} {a : Act} {K : Act → World → Prop} {Q : Exit → Act → World → Prop} (hio : ops[i]? = some o) (hw : Region.wanted o (yielded ops a.tmps) = true) (s x : Operand)
    (ho : o.op = .call { callee := .builtin .append, args := #[s, x], argTypes := #[23, 23] })
    (base g c : Nat) (xs : List Int) (hs : a.eval s = .slice (some ⟨g, 0, none⟩) xs.length c) (hown : w.ownsRow base 3 1 (.slice (some ⟨g, 0, none⟩) xs.length c) xs.length (zI xs))
    (v2 : Value) (zs : List Int) (hx : a.eval x = v2) (hrow : SzI w v2 zs) (hnm : xs.length + zs.length ≤ 1048576) (hbase : base ≤ w.heap.size)
    (h : ∀ g' c' w' N, Hid ((xs ++ zs).length = N) → w'.ownsRow base 3 1 (.slice (some ⟨g', 0, none⟩) (xs ++ zs).length c') (xs ++ zs).length (zI (xs ++ zs)) → w.grownBy w' (some g) → (g' = g ∨ w.heap.size ≤ g') → K (a.put o.dst (.slice (some ⟨g', 0, none⟩) N c')) w') :
    wpOp Try.prog ops Q i K a w :=
  wpOp_szApp hio hw s x ho base g c xs hs hown v2 zs hx hrow hnm hbase (fun g' c' w' h1 h2 h3 => h g' c' w' _ (hidd rfl) h1 h2 h3)
abbrev DgT := (Int × Int × Int × List Int) × Int
noncomputable def joZ (s1 p1 c1 : Int) (z1 : List Int) (s2 p2 c2 : Int) (z2 : List Int) : DgT :=
  if dgB s1 p1 c1 z1 = true ∧ dgB s2 p2 c2 z2 = true then
    (if s1 = s2 ∧ p1 + p2 ≤ 4096 ∧ c1 + c2 ≤ 4611686018427387903 then
      (if z1.length + z2.length ≤ 512 then ((s1, p1 + p2, c1 + c2, srtZ (z1 ++ z2)), 0) else ((0, 0, 0, []), 11))
    else ((0, 0, 0, []), 12))
  else ((0, 0, 0, []), 1)
/-- A digest told, in memory of its own. -/
def DgR (w : World) (J : DgT) (e : Ending) (w' : World) : Prop := ∃ v, e = .returned (.tuple #[.agg #[.int .i64 J.1.1, .int .i64 J.1.2.1, .int .i64 J.1.2.2.1, v], .int .i64 J.2]) ∧ w'.ownsRow w.heap.size 3 1 v J.1.2.2.2.length (zI J.1.2.2.2) ∧ Below w.heap.size w w'
theorem SzI.sl {w : World} {v : Value} {zs : List Int} (h : SzI w v zs) : ∃ ad cap, v = .slice ad zs.length cap := by
  obtain ⟨ad, cap, e, _⟩ := h
  exact ⟨ad, cap, e⟩
set_option maxHeartbeats 8000000 in
theorem implJoin_any (s1 p1 c1 s2 p2 c2 : Int) (u1 u2 : Value) (z1 z2 : List Int) (w : World) (hl1 : z1.length ≤ 1048576) (hl2 : z2.length ≤ 1048576) (hv1 : SzI w u1 z1) (hv2 : SzI w u2 z2) :
    Calls Try.prog 11 #[.agg #[.int .i64 s1, .int .i64 p1, .int .i64 c1, u1], .agg #[.int .i64 s2, .int .i64 p2, .int .i64 c2, u2]] w (DgR w (joZ s1 p1 c1 z1 s2 p2 c2 z2)) := by
  have HO1 : Hid (∀ (V : World), Below w.heap.size w V → Calls Try.prog 36 #[.agg #[.int .i64 s1, .int .i64 p1, .int .i64 c1, u1]] V fun e w' => e = .returned (.bool (dgB s1 p1 c1 z1)) ∧ Below V.heap.size V w') := fun V hV => implOK_any s1 p1 c1 u1 z1 V hl1 (hv1.hold.below hV)
  have HO2 : Hid (∀ (V : World), Below w.heap.size w V → Calls Try.prog 36 #[.agg #[.int .i64 s2, .int .i64 p2, .int .i64 c2, u2]] V fun e w' => e = .returned (.bool (dgB s2 p2 c2 z2)) ∧ Below V.heap.size V w') := fun V hV => implOK_any s2 p2 c2 u2 z2 V hl2 (hv2.hold.below hV)
  have HV1 := hidd hv1
  have HV2 := hidd hv2
  obtain ⟨ad1, k1, rfl⟩ := hv1.sl
  obtain ⟨ad2, k2, rfl⟩ := hv2.sl
  obtain ⟨n1, hn1⟩ : ∃ n, z1.length = n := ⟨_, rfl⟩
  obtain ⟨n2, hn2⟩ : ∃ n, z2.length = n := ⟨_, rfl⟩
  have HN1 := hidd hn1
  have HN2 := hidd hn2
  rw [hn1] at HV1 HO1 hl1
  rw [hn2] at HV2 HO2 hl2
  rw [hn1, hn2]
  clear hv1 hv2 hn1 hn2
  obtain ⟨J, hJ⟩ : ∃ J, joZ s1 p1 c1 z1 s2 p2 c2 z2 = J := ⟨_, rfl⟩
  rw [hJ]
  have HJJ := hidd hJ
  clear hJ
  obtain ⟨W, hW⟩ : ∃ W, ((w.alloc (.cells #[.int .i64 s1, .int .i64 p1, .int .i64 c1, .slice ad1 n1 k1] 27)).alloc (.cells #[.int .i64 s2, .int .i64 p2, .int .i64 c2, .slice ad2 n2 k2] 27)).alloc (.cells #[.int .i64 0, .int .i64 0, .int .i64 0, .slice none 0 0] 27) = W := ⟨_, rfl⟩
  have hk := box_two w (.cells #[.int .i64 s1, .int .i64 p1, .int .i64 c1, .slice ad1 n1 k1] 27) (.cells #[.int .i64 s2, .int .i64 p2, .int .i64 c2, .slice ad2 n2 k2] 27)
  have HKa : Hid (W.heap[w.heap.size]? = some (.cells #[.int .i64 s1, .int .i64 p1, .int .i64 c1, .slice ad1 n1 k1] 27)) := by show _ = _; rw [← hW, Below.heap_alloc _ _ _ (by simp; omega)]; exact hk.1
  have HKb : Hid (W.heap[w.heap.size + 1]? = some (.cells #[.int .i64 s2, .int .i64 p2, .int .i64 c2, .slice ad2 n2 k2] 27)) := by show _ = _; rw [← hW, Below.heap_alloc _ _ _ (by simp)]; exact hk.2
  have HKr0 : Hid (W.heap[w.heap.size + 1 + 1]? = some (.cells #[.int .i64 0, .int .i64 0, .int .i64 0, .slice none 0 0] 27)) := by show _ = _; rw [← hW]; have := heap_alloc_new ((w.alloc (.cells #[.int .i64 s1, .int .i64 p1, .int .i64 c1, .slice ad1 n1 k1] 27)).alloc (.cells #[.int .i64 s2, .int .i64 p2, .int .i64 c2, .slice ad2 n2 k2] 27)) (.cells #[.int .i64 0, .int .i64 0, .int .i64 0, .slice none 0 0] 27); simpa using this
  have HBa : Hid (Below w.heap.size w W) := by show Below _ _ _; rw [← hW]; exact (((Below.refl _ _).alloc (Nat.le_refl _) _).alloc (by simp) _).alloc (by simp; omega) _
  clear hk
  have a0 : W.cell? ⟨w.heap.size, 0, none⟩ = some (.int .i64 s1) := blkc HKa.out 0
  have a1 : W.cell? ⟨w.heap.size, 1, none⟩ = some (.int .i64 p1) := blkc HKa.out 1
  have a2 : W.cell? ⟨w.heap.size, 2, none⟩ = some (.int .i64 c1) := blkc HKa.out 2
  have a3 : W.cell? ⟨w.heap.size, 3, none⟩ = some (.slice ad1 n1 k1) := blkc HKa.out 3
  go_enter Try.func11, Try.ntmps11
  go_upto_region 1 with fail
  try rw [hW]
  clear hW
  go_wp2_with fail
  refine (HO1.out _ HBa.out).mono ?_
  rintro e W0 ⟨rfl, hb0⟩
  have HB0 := hidd (HBa.out.trans (hb0.mono HBa.out.size))
  replace HKa := hidd (blko HKa.out hb0)
  replace HKb := hidd (blko HKb.out hb0)
  replace HKr0 := hidd (blko HKr0.out hb0)
  clear hb0 a0 a1 a2 a3 HBa
  cases hd1 : dgB s1 p1 c1 z1 with
  | false =>
    have HJ : Hid (J = ((0, 0, 0, []), 1)) := by show _ = _; rw [← HJJ.out]; unfold joZ; rw [if_neg (fun h => by rw [hd1] at h; cases h.1)]
    clear hd1
    go_upto_region 2 with fail
    have x0 := blkc HKr0.out 0
    have x1 := blkc HKr0.out 1
    have x2 := blkc HKr0.out 2
    have x3 := blkc HKr0.out 3
    have f0 := blkf HKr0.out 0
    have f1 := blkf HKr0.out 1
    have f2 := blkf HKr0.out 2
    have f3 := blkf HKr0.out 3
    have HR := hidd (ret4 (.int .i64 0) (.int .i64 0) (.int .i64 0) (.slice none 0 0) HB0.out (show w.heap.size ≤ w.heap.size + 1 + 1 by omega) HKr0.out)
    have q0 := blkc HR.out.2 0
    have q1 := blkc HR.out.2 1
    have q2 := blkc HR.out.2 2
    have q3 := blkc HR.out.2 3
    go_wp2_with fail
    refine bodyPost_ret (v := .tuple #[.agg #[.int .i64 0, .int .i64 0, .int .i64 0, .slice none 0 0], .int .i64 1]) (by simp [results, Try.results11, go_sem, q0, q1, q2, q3]) rfl ?_
    rw [HJ.out]
    exact ⟨_, rfl, World.ownsRow_nil _ _ _ _, HR.out.1⟩
  | true =>
    have b0 : W0.cell? ⟨w.heap.size + 1, 0, none⟩ = some (.int .i64 s2) := blkc HKb.out 0
    have b1 : W0.cell? ⟨w.heap.size + 1, 1, none⟩ = some (.int .i64 p2) := blkc HKb.out 1
    have b2 : W0.cell? ⟨w.heap.size + 1, 2, none⟩ = some (.int .i64 c2) := blkc HKb.out 2
    have b3 : W0.cell? ⟨w.heap.size + 1, 3, none⟩ = some (.slice ad2 n2 k2) := blkc HKb.out 3
    go_wp2_with fail
    refine (HO2.out _ HB0.out).mono ?_
    rintro e W1 ⟨rfl, hb1⟩
    have HB1 := hidd (HB0.out.trans (hb1.mono HB0.out.size))
    replace HKa := hidd (blko HKa.out hb1)
    replace HKb := hidd (blko HKb.out hb1)
    have HKr := hidd (blko HKr0.out hb1)
    clear hb1 b0 b1 b2 b3 HB0 HKr0
    cases hd2 : dgB s2 p2 c2 z2 with
    | false =>
      have HJ : Hid (J = ((0, 0, 0, []), 1)) := by show _ = _; rw [← HJJ.out]; unfold joZ; rw [if_neg (fun h => by rw [hd2] at h; cases h.2)]
      clear hd1 hd2
      go_upto_region 2 with fail
      have x0 := blkc HKr.out 0
      have x1 := blkc HKr.out 1
      have x2 := blkc HKr.out 2
      have x3 := blkc HKr.out 3
      have f0 := blkf HKr.out 0
      have f1 := blkf HKr.out 1
      have f2 := blkf HKr.out 2
      have f3 := blkf HKr.out 3
      have HR := hidd (ret4 (.int .i64 0) (.int .i64 0) (.int .i64 0) (.slice none 0 0) HB1.out (show w.heap.size ≤ w.heap.size + 1 + 1 by omega) HKr.out)
      have q0 := blkc HR.out.2 0
      have q1 := blkc HR.out.2 1
      have q2 := blkc HR.out.2 2
      have q3 := blkc HR.out.2 3
      go_wp2_with fail
      refine bodyPost_ret (v := .tuple #[.agg #[.int .i64 0, .int .i64 0, .int .i64 0, .slice none 0 0], .int .i64 1]) (by simp [results, Try.results11, go_sem, q0, q1, q2, q3]) rfl ?_
      rw [HJ.out]
      exact ⟨_, rfl, World.ownsRow_nil _ _ _ _, HR.out.1⟩
    | true =>
      have hD1 := dgB_ok hd1
      have hD2 := dgB_ok hd2
      obtain ⟨q1, q2, q3, q4, q5, q6, -, -, -, -⟩ := hD1.1
      obtain ⟨r1, r2, r3, r4, r5, r6, -, -, -, -⟩ := hD2.1
      have hn1 : n1 ≤ 512 := by have := hD1.1.2.2.2.2.2.2.1; have := HN1.out; omega
      have hn2 : n2 ≤ 512 := by have := hD2.1.2.2.2.2.2.2.1; have := HN2.out; omega
      have HU1 := hidd (pts_up hD1.2.2)
      have HU2 := hidd (pts_up hD2.2.2)
      have HDD : Hid (dgB s1 p1 c1 z1 = true ∧ dgB s2 p2 c2 z2 = true) := ⟨hd1, hd2⟩
      clear hd1 hd2 hD1 hD2
      have a0 : W1.cell? ⟨w.heap.size, 0, none⟩ = some (.int .i64 s1) := blkc HKa.out 0
      have a1 : W1.cell? ⟨w.heap.size, 1, none⟩ = some (.int .i64 p1) := blkc HKa.out 1
      have a2 : W1.cell? ⟨w.heap.size, 2, none⟩ = some (.int .i64 c1) := blkc HKa.out 2
      have a3 : W1.cell? ⟨w.heap.size, 3, none⟩ = some (.slice ad1 n1 k1) := blkc HKa.out 3
      have b0 : W1.cell? ⟨w.heap.size + 1, 0, none⟩ = some (.int .i64 s2) := blkc HKb.out 0
      have b1 : W1.cell? ⟨w.heap.size + 1, 1, none⟩ = some (.int .i64 p2) := blkc HKb.out 1
      have b2 : W1.cell? ⟨w.heap.size + 1, 2, none⟩ = some (.int .i64 c2) := blkc HKb.out 2
      have b3 : W1.cell? ⟨w.heap.size + 1, 3, none⟩ = some (.slice ad2 n2 k2) := blkc HKb.out 3
      by_cases hR : s1 = s2 ∧ p1 + p2 ≤ 4096 ∧ c1 + c2 ≤ 4611686018427387903
      · have HRR := hidd hR
        have e1 : (s1 != s2) = false := by simp [hR.1]
        have e2 : ¬ (4096 : Int) < p1 + p2 := by omega
        have e3 : ¬ (4611686018427387903 : Int) - c2 < c1 := by omega
        have e4 : ¬ (4611686018427387903 : Int) < c1 + c2 := by omega
        clear hR
        by_cases hM : n1 + n2 ≤ 512
        · have e5 : ¬ (512 : Int) < (n1 : Int) + (n2 : Int) := by omega
          have HJ : Hid (J = ((s1, p1 + p2, c1 + c2, srtZ (z1 ++ z2)), 0)) := by show _ = _; rw [← HJJ.out]; unfold joZ; rw [if_pos HDD.out, if_pos HRR.out, if_pos (by have := HN1.out; have := HN2.out; omega)]
          have HL9 : Hid ((z1 ++ z2).length = n1 + n2) := by show _ = _; rw [List.length_append, HN1.out, HN2.out]
          have HMe := hidd (merged_any (z1 ++ z2) z1 z2 _ _ W1 (Mgz.start HU1.out HU2.out) (by have := HN1.out; have := HN2.out; omega) (HV1.out.below HB1.out) (HV2.out.below HB1.out))
          go_wp2_with fail
          refine HMe.out.mono ?_
          rintro e W2 ⟨g9, k9, rfl, ho9, hb9⟩
          have HB9 := hidd (HB1.out.trans (hb9.mono HB1.out.size))
          have HKr9 := hidd (blko HKr.out hb9)
          replace HKa := hidd (blko HKa.out hb9)
          replace HKb := hidd (blko HKb.out hb9)
          have HO9 := hidd (own_mono ho9 HB1.out.size)
          rw [HL9.out] at HO9
          clear ho9 hb9 a0 a1 a2 a3 b0 b1 b2 b3 HMe
          rw [HL9.out]
          obtain ⟨N9, hN9⟩ : ∃ N, n1 + n2 = N := ⟨_, rfl⟩
          rw [hN9] at HO9 HL9
          try rw [hN9]
          clear hN9
          have HR := hidd (ret4 (.int .i64 s1) (.int .i64 (p1 + p2)) (.int .i64 (c1 + c2)) (.slice (some ⟨g9, 0, none⟩) N9 k9) HB9.out (show w.heap.size ≤ w.heap.size + 1 + 1 by omega) HKr9.out)
          have x0 := blkc HKr9.out 0
          have x1 := blkc HKr9.out 1
          have x2 := blkc HKr9.out 2
          have x3 := blkc HKr9.out 3
          have f0 := blkf HKr9.out 0
          have f1 := blkf HKr9.out 1
          have f2 := blkf HKr9.out 2
          have f3 := blkf HKr9.out 3
          have a0 : W2.cell? ⟨w.heap.size, 0, none⟩ = some (.int .i64 s1) := blkc HKa.out 0
          have a1 : W2.cell? ⟨w.heap.size, 1, none⟩ = some (.int .i64 p1) := blkc HKa.out 1
          have a2 : W2.cell? ⟨w.heap.size, 2, none⟩ = some (.int .i64 c1) := blkc HKa.out 2
          have b1 : W2.cell? ⟨w.heap.size + 1, 1, none⟩ = some (.int .i64 p2) := blkc HKb.out 1
          have b2 : W2.cell? ⟨w.heap.size + 1, 2, none⟩ = some (.int .i64 c2) := blkc HKb.out 2
          have q0 := blkc HR.out.2 0
          have q1 := blkc HR.out.2 1
          have q2 := blkc HR.out.2 2
          have q3 := blkc HR.out.2 3
          go_wp2_with fail
          refine bodyPost_ret (v := .tuple #[.agg #[.int .i64 s1, .int .i64 (p1 + p2), .int .i64 (c1 + c2), .slice (some ⟨g9, 0, none⟩) N9 k9], .int .i64 0]) (by simp [results, Try.results11, go_sem, q0, q1, q2, q3]) rfl ?_
          rw [HJ.out]
          refine ⟨_, rfl, ?_, HR.out.1⟩
          show World.ownsRow _ _ _ _ _ (srtZ (z1 ++ z2)).length (zI (srtZ (z1 ++ z2)))
          rw [srtZ_len, HL9.out]
          refine own_congr (HO9.out) (fun b hb => set4o _ _ _ _ (fun e => ?_))
          subst e
          obtain ⟨_, cur, h5⟩ := own_blk HO9.out hb
          exact blk_ne HKr9.out h5 (by decide) rfl
        · have e5 : (512 : Int) < (n1 : Int) + (n2 : Int) := by omega
          have HJ : Hid (J = ((0, 0, 0, []), 11)) := by show _ = _; rw [← HJJ.out]; unfold joZ; rw [if_pos HDD.out, if_pos HRR.out, if_neg (by have := HN1.out; have := HN2.out; omega)]
          go_upto_region 6 with fail
          have x0 := blkc HKr.out 0
          have x1 := blkc HKr.out 1
          have x2 := blkc HKr.out 2
          have x3 := blkc HKr.out 3
          have f0 := blkf HKr.out 0
          have f1 := blkf HKr.out 1
          have f2 := blkf HKr.out 2
          have f3 := blkf HKr.out 3
          have HR := hidd (ret4 (.int .i64 0) (.int .i64 0) (.int .i64 0) (.slice none 0 0) HB1.out (show w.heap.size ≤ w.heap.size + 1 + 1 by omega) HKr.out)
          have q0 := blkc HR.out.2 0
          have q1 := blkc HR.out.2 1
          have q2 := blkc HR.out.2 2
          have q3 := blkc HR.out.2 3
          go_wp2_with fail
          refine bodyPost_ret (v := .tuple #[.agg #[.int .i64 0, .int .i64 0, .int .i64 0, .slice none 0 0], .int .i64 11]) (by simp [results, Try.results11, go_sem, q0, q1, q2, q3]) rfl ?_
          rw [HJ.out]
          exact ⟨_, rfl, World.ownsRow_nil _ _ _ _, HR.out.1⟩
      · have HJ : Hid (J = ((0, 0, 0, []), 12)) := by show _ = _; rw [← HJJ.out]; unfold joZ; rw [if_pos HDD.out, if_neg hR]
        by_cases g1 : s1 = s2
        · have e1 : (s1 != s2) = false := by simp [g1]
          by_cases e2 : (4096 : Int) < p1 + p2
          · clear g1 hR
            go_upto_region 4 with fail
            have x0 := blkc HKr.out 0
            have x1 := blkc HKr.out 1
            have x2 := blkc HKr.out 2
            have x3 := blkc HKr.out 3
            have f0 := blkf HKr.out 0
            have f1 := blkf HKr.out 1
            have f2 := blkf HKr.out 2
            have f3 := blkf HKr.out 3
            have HR := hidd (ret4 (.int .i64 0) (.int .i64 0) (.int .i64 0) (.slice none 0 0) HB1.out (show w.heap.size ≤ w.heap.size + 1 + 1 by omega) HKr.out)
            have q0 := blkc HR.out.2 0
            have q1 := blkc HR.out.2 1
            have q2 := blkc HR.out.2 2
            have q3 := blkc HR.out.2 3
            go_wp2_with fail
            refine bodyPost_ret (v := .tuple #[.agg #[.int .i64 0, .int .i64 0, .int .i64 0, .slice none 0 0], .int .i64 12]) (by simp [results, Try.results11, go_sem, q0, q1, q2, q3]) rfl ?_
            rw [HJ.out]
            exact ⟨_, rfl, World.ownsRow_nil _ _ _ _, HR.out.1⟩
          · have e3 : (4611686018427387903 : Int) - c2 < c1 := by omega
            have e4 : (4611686018427387903 : Int) < c1 + c2 := by omega
            clear g1 hR
            go_upto_region 4 with fail
            have x0 := blkc HKr.out 0
            have x1 := blkc HKr.out 1
            have x2 := blkc HKr.out 2
            have x3 := blkc HKr.out 3
            have f0 := blkf HKr.out 0
            have f1 := blkf HKr.out 1
            have f2 := blkf HKr.out 2
            have f3 := blkf HKr.out 3
            have HR := hidd (ret4 (.int .i64 0) (.int .i64 0) (.int .i64 0) (.slice none 0 0) HB1.out (show w.heap.size ≤ w.heap.size + 1 + 1 by omega) HKr.out)
            have q0 := blkc HR.out.2 0
            have q1 := blkc HR.out.2 1
            have q2 := blkc HR.out.2 2
            have q3 := blkc HR.out.2 3
            go_wp2_with fail
            refine bodyPost_ret (v := .tuple #[.agg #[.int .i64 0, .int .i64 0, .int .i64 0, .slice none 0 0], .int .i64 12]) (by simp [results, Try.results11, go_sem, q0, q1, q2, q3]) rfl ?_
            rw [HJ.out]
            exact ⟨_, rfl, World.ownsRow_nil _ _ _ _, HR.out.1⟩
        · have e1 : (s1 != s2) = true := by simp [g1]
          clear g1 hR
          go_upto_region 4 with fail
          have x0 := blkc HKr.out 0
          have x1 := blkc HKr.out 1
          have x2 := blkc HKr.out 2
          have x3 := blkc HKr.out 3
          have f0 := blkf HKr.out 0
          have f1 := blkf HKr.out 1
          have f2 := blkf HKr.out 2
          have f3 := blkf HKr.out 3
          have HR := hidd (ret4 (.int .i64 0) (.int .i64 0) (.int .i64 0) (.slice none 0 0) HB1.out (show w.heap.size ≤ w.heap.size + 1 + 1 by omega) HKr.out)
          have q0 := blkc HR.out.2 0
          have q1 := blkc HR.out.2 1
          have q2 := blkc HR.out.2 2
          have q3 := blkc HR.out.2 3
          go_wp2_with fail
          refine bodyPost_ret (v := .tuple #[.agg #[.int .i64 0, .int .i64 0, .int .i64 0, .slice none 0 0], .int .i64 12]) (by simp [results, Try.results11, go_sem, q0, q1, q2, q3]) rfl ?_
          rw [HJ.out]
          exact ⟨_, rfl, World.ownsRow_nil _ _ _ _, HR.out.1⟩
end Go.Proofs.Ytboocdiilbcdcaa
