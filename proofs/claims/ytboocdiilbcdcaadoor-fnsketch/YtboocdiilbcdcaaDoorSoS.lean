import Derived.Test.YtboocdiilbcdcaaDoorSoI
namespace Go.Proofs.YtboocdiilbcdcaaDoor
open Go Go.RowKit
set_option linter.unusedVariables false
set_option linter.unusedSimpArgs false
set_option maxRecDepth 100000

/-! spec.SketchOf. -/
theorem exec_idxG (W : World) (ρ : Operand → Value) (o : Oper) (x y : Operand) (ho : o.op = .indexAddr 25 x y) (g X len c : Nat) (hx : ρ x = .slice (some ⟨g, 0, none⟩) len c) (hy : ρ y = .int .i64 (X : Int)) (h : X < len) :
    (execOp ρ o).run Tryd.prog W = .ok (.value (.pointer (some ⟨g, X, none⟩))) W := by
  have h1 : (0 : Int) ≤ (X : Int) := by omega
  have h2 : (X : Int) < (len : Int) := by omega
  unfold execOp
  simp only [ho, hx, hy, Sem.run_bind, Sem.run_pure, Result.andThen_ok]
  go_simp
theorem exec_rem (W : World) (ρ : Operand → Value) (o : Oper) (x y : Operand) (ho : o.op = .binOp .rem 3 x y 3) (H p : Nat) (hx : ρ x = .int .i64 (H : Int)) (hy : ρ y = .int .i64 256) (hp : H % 256 = p) :
    (execOp ρ o).run Tryd.prog W = .ok (.value (.int .i64 (p : Int))) W := by
  have e : (H : Int) % 256 = (p : Int) := by omega
  have h0 : (0 : Int) ≤ (H : Int) := by omega
  unfold execOp
  simp only [ho, hx, hy, Sem.run_bind, Sem.run_pure, Result.andThen_ok]
  go_simp
  exact (Int.tmod_eq_emod_of_nonneg h0).trans e
theorem exec_loadC (W : World) (ρ : Operand → Value) (o : Oper) (x : Operand) (ho : o.op = .load 3 x) (g j : Nat) (u : Int) (hx : ρ x = .pointer (some ⟨g, j, none⟩)) (h : W.cell? ⟨g, j, none⟩ = some (.int .i64 u)) :
    (execOp ρ o).run Tryd.prog W = .ok (.value (.int .i64 u)) W := by
  unfold execOp
  simp only [ho, hx, Sem.run_bind, Sem.run_pure, Result.andThen_ok]
  go_simp
theorem exec_storeC (W : World) (ρ : Operand → Value) (o : Oper) (x y : Operand) (ho : o.op = .store 3 x y) (g j : Nat) (u v : Int) (hx : ρ x = .pointer (some ⟨g, j, none⟩)) (hy : ρ y = .int .i64 v) (h : W.cell? ⟨g, j, none⟩ = some (.int .i64 u)) (hf : W.frozen? ⟨g, j, none⟩ = false) :
    (execOp ρ o).run Tryd.prog W = .ok .skip (W.setCell ⟨g, j, none⟩ (.int .i64 v)) := by
  unfold execOp
  simp only [ho, hx, hy, Sem.run_bind, Sem.run_pure, Result.andThen_ok]
  go_simp
/-- A sketch that is being made: its box, its row, the result's box. -/
structure Es (w W : World) (B G : Nat) (r : List Int) : Prop where
  box : W.heap[B]? = some (.cells #[.slice (some ⟨G, 0, none⟩) 256 256] 27)
  row : W.ownsRow w.heap.size 3 1 (.slice (some ⟨G, 0, none⟩) 256 256) 256 (zI r)
  res : W.heap[w.heap.size]? = some (.cells #[.slice none 0 0] 27)
  bel : Below w.heap.size w W
theorem Es.below {w W W' : World} {B G : Nat} {r : List Int} (h : Es w W B G r) (hb : Below W.heap.size W W') : Es w W' B G r := ⟨blko h.box hb, own_below h.row hb, blko h.res hb, h.bel.trans (hb.mono h.bel.size)⟩
theorem zI_set (r : List Int) (p : Nat) (m : Int) : (zI r).set p (.int .i64 m) = zI (r.set p m) := by simp [zI, List.map_set]
theorem Es.set {w W : World} {B G : Nat} {r : List Int} (h : Es w W B G r) (hne : B ≠ G ∧ w.heap.size < G) (p : Nat) (m : Int) : Es w (W.setCell ⟨G, p, none⟩ (.int .i64 m)) B G (r.set p m) := by
  have st := h.row.stored p (.int .i64 m)
  rw [zI_set] at st
  exact ⟨(heap_set_other _ _ _ _ _ hne.1).trans h.box, st.1, (heap_set_other _ _ _ _ _ (by omega)).trans h.res, h.bel.setCell (p := ⟨G, p, none⟩) (by show w.heap.size ≤ G; omega) _⟩
theorem Es.cell {w W : World} {B G : Nat} {r : List Int} (h : Es w W B G r) (hl : r.length = 256) {p : Nat} (hp : p < 256) : W.cell? ⟨G, p, none⟩ = some (.int .i64 (r.getD p 0)) := by
  rw [h.row.cellAt p (by omega)]
  have hll : p < r.length := by omega
  simp [zI, List.getD_eq_getElem?_getD, List.getElem?_eq_getElem hll]
set_option maxHeartbeats 8000000 in
theorem specOf_any (a : Option Addr) (c : Nat) (l : List Tx) (w : World) (hn : l.length ≤ 1048576) (h : TmAt w a l) :
    Calls Tryd.prog 6 #[.slice a l.length c] w (SkR w (ofS l)) := by
  have HH := hidd h
  clear h
  obtain ⟨i0, hi0, hz0, hz1, hz2⟩ := info_parts Tryd.infoIntL
  obtain ⟨n, hnn⟩ : ∃ n, l.length = n := ⟨_, rfl⟩
  rw [hnn] at hn
  rw [hnn]
  have HN := hidd hnn
  clear hnn
  obtain ⟨J, hJ⟩ : ∃ J, ofS l = J := ⟨_, rfl⟩
  rw [hJ]
  have HJJ := hidd hJ
  clear hJ
  obtain ⟨W, hW⟩ : ∃ W, w.alloc (.cells #[.slice none 0 0] 27) = W := ⟨_, rfl⟩
  have HKr : Hid (W.heap[w.heap.size]? = some (.cells #[.slice none 0 0] 27)) := by show _ = _; rw [← hW]; exact heap_alloc_new _ _
  have HBa : Hid (Below w.heap.size w W) := by show Below _ _ _; rw [← hW]; exact (Below.refl _ _).alloc (Nat.le_refl _) _
  go_enter Tryd.func6, Tryd.ntmps6
  go_upto_region 1 with fail
  try rw [hW]
  clear hW
  by_cases hlong : 4096 < n
  · have e1 : (4096 : Int) < (n : Int) := by omega
    have HJ : Hid (J = ([], 2)) := by show _ = _; rw [← HJJ.out]; unfold ofS; rw [if_pos (by rw [HN.out]; exact hlong)]
    go_upto_region 2 with fail
    have x0 := blkc HKr.out 0
    have f0 := blkf HKr.out 0
    have HKf := hidd (blk_setk HKr.out 0 (.slice none 0 0))
    have HBf := hidd (HBa.out.setCell (p := ⟨w.heap.size, 0, none⟩) (Nat.le_refl _) (.slice none 0 0))
    have q0 := blkc HKf.out 0
    go_wp2_with fail
    refine bodyPost_ret (v := .tuple #[.agg #[.slice none 0 0], .int .i64 2]) (by simp [results, Tryd.results6, go_sem, q0]) rfl ?_
    rw [HJ.out]
    exact ⟨3, _, Or.inl rfl, rfl, World.ownsRow_nil _ _ _ _, HBf.out⟩
  have e1 : ¬ (4096 : Int) < (n : Int) := by omega
  go_upto_region 4 with (at_make; refine wpList_make_full _ rfl _ _ 25 rfl w.heap.size 3 i0 (.int .i64 0) 1 Tryd.underlying25 hi0 hz0 hz1 _ _ _ _ 256 rfl rfl (by omega) (by omega) (by first | omega | (rw [hz2]; omega)) (by unfold maxLen; omega) HBa.out.size ?_)
  intro w0 hown0 hgrow0
  have hmz : (madeCells #[Value.int .i64 0] 256).toList = zI rzeros := by first | kernel_rfl | (simp [madeCells, zI, rzeros]; done) | decide
  rw [hmz] at hown0
  have HB0 : Hid (Below W.heap.size W w0) := (Below.refl _ _).grown hgrow0 (Nat.le_refl _) (fun k h => by cases h)
  have HK0 := hidd (blko HKr.out HB0.out)
  have HO0 := hidd hown0
  have HBb := hidd (HBa.out.trans (HB0.out.mono HBa.out.size))
  have HGz : Hid (w.heap.size < W.heap.size) := (Array.getElem?_eq_some_iff.1 HKr.out).1
  have HGl : Hid (W.heap.size < w0.heap.size) := own_lt hown0
  clear hown0 hgrow0 hmz HKr HBa HB0 hi0 hz0 hz1 hz2
  obtain ⟨G, hG⟩ : ∃ G, W.heap.size = G := ⟨_, rfl⟩
  rw [hG] at HO0 HGz HGl
  try rw [hG]
  clear hG
  have HBn : Hid (Below w0.heap.size w0 (w0.alloc (.cells #[.slice (some ⟨G, 0, none⟩) 256 256] 27))) := (Below.refl _ _).alloc (Nat.le_refl _) _
  have HKn := hidd (heap_alloc_new w0 (.cells #[.slice (some ⟨G, 0, none⟩) 256 256] 27))
  go_upto_region 4 with fail
  obtain ⟨w2, hw2⟩ : ∃ V, w0.alloc (.cells #[.slice (some ⟨G, 0, none⟩) 256 256] 27) = V := ⟨_, rfl⟩
  rw [hw2] at HBn HKn
  try rw [hw2]
  clear hw2
  obtain ⟨B, hB⟩ : ∃ B, w0.heap.size = B := ⟨_, rfl⟩
  have HE0 : Hid (Es w w2 B G (skF l 0)) := by
    show Es _ _ _ _ _
    rw [skF_zero, ← hB]
    exact ⟨HKn.out, own_below HO0.out HBn.out, blko HK0.out HBn.out, HBb.out.trans (HBn.out.mono HBb.out.size)⟩
  rw [hB] at HGl
  try rw [hB]
  clear hB HKn HBn HO0 HK0 HBb
  have HBG : Hid (B ≠ G ∧ w.heap.size < G) := ⟨by have := HGl.out; omega, HGz.out⟩
  go_wp2_with fail
  go_loopw [5, 6] (fun i _ wr => ∃ k : Nat, k ≤ n ∧ i = .int .i64 (k : Int) ∧ (∀ j, j < k → (l.getD j []).length ≤ 65536) ∧ Es w wr B G (skF l k)) (fun i _ _ => n - (intOf i).toNat)
  case atStart => exact ⟨0, Nat.zero_le _, by first | rfl | simp, fun j hj => absurd hj (by omega), HE0.out⟩
  case round =>
    clear HE0
    obtain ⟨k, hk, rfl, hp, hE⟩ := hrel
    have HP := hidd hp
    have HE := hidd hE
    clear hp hE
    by_cases hlt : k < n
    · have hklt : (k : Int) < (n : Int) := by omega
      have hkl : k < l.length := by have := HN.out; omega
      obtain ⟨g, off, rfl, hg, hc⟩ := HH.out.resolve_left (fun h => by rw [h] at hkl; simp at hkl)
      have c0 := (HE.out.bel.cell (p := ⟨g, off + k, none⟩) hg).trans (hc k hkl)
      clear hc
      have e2 := size_tx (l.getD k [])
      by_cases hb : 65536 < (l.getD k []).length
      · have HJ : Hid (J = ([], 2)) := by show _ = _; rw [← HJJ.out]; unfold ofS; rw [if_neg (by rw [HN.out]; exact hlong), if_neg (by rw [txsOK_no hkl hb]; simp)]
        have HKq := hidd HE.out.res
        have HBq := hidd HE.out.bel
        have hb3 : (65536 : Int) < ((⟨(l.getD k []).toArray⟩ : ByteArray).size : Int) := by omega
        generalize (⟨(l.getD k []).toArray⟩ : ByteArray) = T at *
        clear e2 hb
        go_upto_region 8 with fail
        have x0 := blkc HKq.out 0
        have f0 := blkf HKq.out 0
        have HKf := hidd (blk_setk HKq.out 0 (.slice none 0 0))
        have HBf := hidd (HBq.out.setCell (p := ⟨w.heap.size, 0, none⟩) (Nat.le_refl _) (.slice none 0 0))
        have q0 := blkc HKf.out 0
        go_wp2_with fail
        refine bodyPost_ret (v := .tuple #[.agg #[.slice none 0 0], .int .i64 2]) (by simp [results, Tryd.results6, go_sem, q0]) rfl ?_
        rw [HJ.out]
        exact ⟨3, _, Or.inl rfl, rfl, World.ownsRow_nil _ _ _ _, HBf.out⟩
      · have HSz : Hid ((l.getD k []).length ≤ 65536) := by show _ ≤ _; omega
        have hb3 : ¬ (65536 : Int) < ((⟨(l.getD k []).toArray⟩ : ByteArray).size : Int) := by omega
        have HSu := hidd (skF_succ l k hkl)
        have HSt := hidd (specStir_any ⟨(l.getD k []).toArray⟩ wr (by omega))
        have hbk : (⟨(l.getD k []).toArray⟩ : ByteArray).data.toList = l.getD k [] := by simp
        rw [hbk] at HSt
        have hs1 := slT_lt (l.getD k [])
        have hr1 := rkT_in (l.getD k [])
        have hOb := (okR_skF l k).2 (slT (l.getD k [])) hs1
        have hHl := stirN_lt (sumL (l.getD k []))
        have HMd : Hid (stirN (sumL (l.getD k [])) % 256 = slT (l.getD k [])) := by show _ = _; unfold slT; exact Eq.refl _
        have HRq : Hid (rkN (stirN (sumL (l.getD k []))) = rkT (l.getD k [])) := by show _ = _; unfold rkT; exact Eq.refl _
        unfold upS at HSu
        have HRk : Hid (∀ V, Calls Tryd.prog 24 #[.int .i64 ((stirN (sumL (l.getD k [])) : Nat) : Int)] V fun e w' => e = .returned (.int .i64 ((rkT (l.getD k []) : Nat) : Int)) ∧ w' = V) := fun V => by rw [← HRq.out]; exact rank_any _ V hHl
        clear e2 hb hbk HRq
        generalize slT (l.getD k []) = p at *
        generalize rkT (l.getD k []) = q at *
        generalize stirN (sumL (l.getD k [])) = H at *
        generalize (⟨(l.getD k []).toArray⟩ : ByteArray) = T at *
        go_wp2_with fail
        refine HSt.out.mono ?_
        rintro e w3 ⟨rfl, hb4⟩
        have H13 := hidd (HE.out.below hb4)
        have c2 : w3.cell? ⟨B, 0, none⟩ = some (.slice (some ⟨G, 0, none⟩) 256 256) := blkc H13.out.box 0
        have c3 := H13.out.cell (okR_skF l k).1 hs1
        obtain ⟨x, hx⟩ : ∃ x, (skF l k).getD p 0 = x := ⟨_, rfl⟩
        rw [hx] at c3 HSu hOb
        obtain ⟨m, hm⟩ : ∃ m, max x (q : Int) = m := ⟨_, rfl⟩
        rw [hm] at HSu
        have HMx := hidd hm
        have HSv : Hid (∀ j, j < k + 1 → (l.getD j []).length ≤ 65536) := fun j hj => by
          rcases (by omega : j < k ∨ j = k) with h | rfl
          · exact HP.out j h
          · exact HSz.out
        clear hx hm hb4 HSt HE c0 hb3
        go_wp2_with fail
        refine wp_region_held (S := fun u => u.cell? ⟨B, 0, none⟩ = some (.slice (some ⟨G, 0, none⟩) 256 256)) (by kernel_rfl) ?_
        have hbd : Below w3.heap.size w3 ({ heap := w3.heap, tape := w3.tape, drawn := w3.drawn + 1, os := w3.os, output := w3.output } : World) := (Below.refl _ _).drew
        generalize ({ heap := w3.heap, tape := w3.tape, drawn := w3.drawn + 1, os := w3.os, output := w3.output } : World) = Wd at *
        have hSd : (fun u => u.cell? ⟨B, 0, none⟩ = some (.slice (some ⟨G, 0, none⟩) 256 256)) Wd := (hbd.cell (cell_lt c2)).trans c2
        try simp only [Act.put, List.getElem_toArray, List.getElem_cons_succ, List.getElem_cons_zero, List.setIfInBounds_toArray, List.set_cons_zero, List.set_cons_succ]
        refine tkX 0 (hS := hSd) (h := ?_)
        try simp only [Act.put, List.getElem_toArray, List.getElem_cons_succ, List.getElem_cons_zero, List.setIfInBounds_toArray, List.set_cons_zero, List.set_cons_succ]
        refine tkX 1 (v := .slice (some ⟨G, 0, none⟩) 256 256) (hS := hSd) (h := ?_)
        try simp only [Act.put, List.getElem_toArray, List.getElem_cons_succ, List.getElem_cons_zero, List.setIfInBounds_toArray, List.set_cons_zero, List.set_cons_succ]
        refine tkX 2 (hS := hSd) (h := ?_)
        try simp only [Act.put, List.getElem_toArray, List.getElem_cons_succ, List.getElem_cons_zero, List.setIfInBounds_toArray, List.set_cons_zero, List.set_cons_succ]
        refine wpAnyH_take (i := 3) (v := .int .i64 (p : Int)) rfl (by kernel_rfl) (by kernel_rfl) (by kernel_rfl) (fun _ _ _ h => h) (Or.inl ⟨by kernel_rfl, fun W hW => exec_rem W _ _ _ _ rfl H p (by kernel_rfl) (by kernel_rfl) HMd.out⟩) hSd ?_
        try simp only [Act.put, List.getElem_toArray, List.getElem_cons_succ, List.getElem_cons_zero, List.setIfInBounds_toArray, List.set_cons_zero, List.set_cons_succ]
        refine tkX 4 (hS := hSd) (h := ?_)
        try simp only [Act.put, List.getElem_toArray, List.getElem_cons_succ, List.getElem_cons_zero, List.setIfInBounds_toArray, List.set_cons_zero, List.set_cons_succ]
        refine tkX 5 (v := .slice (some ⟨G, 0, none⟩) 256 256) (hS := hSd) (h := ?_)
        try simp only [Act.put, List.getElem_toArray, List.getElem_cons_succ, List.getElem_cons_zero, List.setIfInBounds_toArray, List.set_cons_zero, List.set_cons_succ]
        refine tkX 6 (hS := hSd) (h := ?_)
        try simp only [Act.put, List.getElem_toArray, List.getElem_cons_succ, List.getElem_cons_zero, List.setIfInBounds_toArray, List.set_cons_zero, List.set_cons_succ]
        refine wpAnyH_take (i := 7) (v := .int .i64 (p : Int)) rfl (by kernel_rfl) (by kernel_rfl) (by kernel_rfl) (fun _ _ _ h => h) (Or.inl ⟨by kernel_rfl, fun W hW => exec_rem W _ _ _ _ rfl H p (by kernel_rfl) (by kernel_rfl) HMd.out⟩) hSd ?_
        try simp only [Act.put, List.getElem_toArray, List.getElem_cons_succ, List.getElem_cons_zero, List.setIfInBounds_toArray, List.set_cons_zero, List.set_cons_succ]
        refine wpAnyH_take (i := 8) (v := .pointer (some ⟨G, p, none⟩)) rfl (by kernel_rfl) (by kernel_rfl) (by kernel_rfl) (fun _ _ _ h => h) (Or.inl ⟨by kernel_rfl, fun W hW => exec_idxG W _ _ _ _ rfl G p 256 256 (by kernel_rfl) (by kernel_rfl) hs1⟩) hSd ?_
        try simp only [Act.put, List.getElem_toArray, List.getElem_cons_succ, List.getElem_cons_zero, List.setIfInBounds_toArray, List.set_cons_zero, List.set_cons_succ]
        refine tkX 10 (hS := hSd) (h := ?_)
        try simp only [Act.put, List.getElem_toArray, List.getElem_cons_succ, List.getElem_cons_zero, List.setIfInBounds_toArray, List.set_cons_zero, List.set_cons_succ]
        have hxd : Wd.cell? ⟨G, p, none⟩ = some (.int .i64 x) := (hbd.cell (cell_lt c3)).trans c3
        have hfd : Wd.frozen? ⟨G, p, none⟩ = false := (H13.out.below hbd).row.frozenAt p
        have HEn := hidd ((H13.out.below hbd).set HBG.out p m)
        rw [← HSu.out] at HEn
        have hS9 : (Wd.setCell ⟨G, p, none⟩ (.int .i64 m)).cell? ⟨B, 0, none⟩ = some (.slice (some ⟨G, 0, none⟩) 256 256) := blkc HEn.out.box 0
        refine wpAnyH_two 9 11 (by kernel_rfl) ?_ ?_
        · refine wpOp_val _ _ rfl (by kernel_rfl) (exec_loadC Wd _ _ _ rfl G p x (by kernel_rfl) hxd) ?_
          refine ⟨hSd, ?_⟩
          try simp only [Act.put, List.getElem_toArray, List.getElem_cons_succ, List.getElem_cons_zero, List.setIfInBounds_toArray, List.set_cons_zero, List.set_cons_succ]
          refine wpAnyH_one 11 (by kernel_rfl) ?_
          refine wpOp_call 24 #[.int .i64 (H : Int)] rfl (by kernel_rfl) (rbx_call1 _ _ _ _ _ _ rfl _ (by kernel_rfl) (Tryd.call24 _ _)) ?_
          refine (HRk.out Wd).mono ?_
          rintro e1 V1 ⟨rfl, hv1⟩
          obtain rfl := hv1.symm
          refine ⟨hSd, ?_⟩
          try simp only [Act.put, List.getElem_toArray, List.getElem_cons_succ, List.getElem_cons_zero, List.setIfInBounds_toArray, List.set_cons_zero, List.set_cons_succ]
          refine wpAnyH_take (i := 12) (v := .int .i64 m) rfl (by kernel_rfl) (by kernel_rfl) (by kernel_rfl) (fun _ _ _ h => h) (Or.inl ⟨by kernel_rfl, fun W hW => exec_max2 W _ _ _ _ .i64 _ rfl x (q : Int) m (by kernel_rfl) (by kernel_rfl) HMx.out⟩) hSd ?_
          try simp only [Act.put, List.getElem_toArray, List.getElem_cons_succ, List.getElem_cons_zero, List.setIfInBounds_toArray, List.set_cons_zero, List.set_cons_succ]
          refine wpAnyH_take (i := 13) (v := .pointer (some ⟨G, p, none⟩)) rfl (by kernel_rfl) (by kernel_rfl) (by kernel_rfl) (fun _ _ _ h => h) (Or.inl ⟨by kernel_rfl, fun W hW => exec_idxG W _ _ _ _ rfl G p 256 256 (by kernel_rfl) (by kernel_rfl) hs1⟩) hSd ?_
          try simp only [Act.put, List.getElem_toArray, List.getElem_cons_succ, List.getElem_cons_zero, List.setIfInBounds_toArray, List.set_cons_zero, List.set_cons_succ]
          refine wpAnyH_one 14 (by kernel_rfl) ?_
          refine wpOp_skip _ rfl (by kernel_rfl) (exec_storeC Wd _ _ _ _ rfl G p x m (by kernel_rfl) (by kernel_rfl) hxd hfd) ?_
          refine ⟨hS9, ?_⟩
          try simp only [Act.put, List.getElem_toArray, List.getElem_cons_succ, List.getElem_cons_zero, List.setIfInBounds_toArray, List.set_cons_zero, List.set_cons_succ]
          refine wpAnyH_done (by kernel_rfl) ?_ _
          clear hSd hbd hxd hfd hS9
          go_wp2_with fail
          go_roundw
          case rel => exact ⟨k + 1, by omega, by go_num, HSv.out, HEn.out⟩
          case measure => simp [intOf]; omega
        · refine wpOp_call 24 #[.int .i64 (H : Int)] rfl (by kernel_rfl) (rbx_call1 _ _ _ _ _ _ rfl _ (by kernel_rfl) (Tryd.call24 _ _)) ?_
          refine (HRk.out Wd).mono ?_
          rintro e1 V1 ⟨rfl, hv1⟩
          obtain rfl := hv1.symm
          refine ⟨hSd, ?_⟩
          try simp only [Act.put, List.getElem_toArray, List.getElem_cons_succ, List.getElem_cons_zero, List.setIfInBounds_toArray, List.set_cons_zero, List.set_cons_succ]
          refine wpAnyH_one 9 (by kernel_rfl) ?_
          refine wpOp_val _ _ rfl (by kernel_rfl) (exec_loadC Wd _ _ _ rfl G p x (by kernel_rfl) hxd) ?_
          refine ⟨hSd, ?_⟩
          try simp only [Act.put, List.getElem_toArray, List.getElem_cons_succ, List.getElem_cons_zero, List.setIfInBounds_toArray, List.set_cons_zero, List.set_cons_succ]
          refine wpAnyH_take (i := 12) (v := .int .i64 m) rfl (by kernel_rfl) (by kernel_rfl) (by kernel_rfl) (fun _ _ _ h => h) (Or.inl ⟨by kernel_rfl, fun W hW => exec_max2 W _ _ _ _ .i64 _ rfl x (q : Int) m (by kernel_rfl) (by kernel_rfl) HMx.out⟩) hSd ?_
          try simp only [Act.put, List.getElem_toArray, List.getElem_cons_succ, List.getElem_cons_zero, List.setIfInBounds_toArray, List.set_cons_zero, List.set_cons_succ]
          refine wpAnyH_take (i := 13) (v := .pointer (some ⟨G, p, none⟩)) rfl (by kernel_rfl) (by kernel_rfl) (by kernel_rfl) (fun _ _ _ h => h) (Or.inl ⟨by kernel_rfl, fun W hW => exec_idxG W _ _ _ _ rfl G p 256 256 (by kernel_rfl) (by kernel_rfl) hs1⟩) hSd ?_
          try simp only [Act.put, List.getElem_toArray, List.getElem_cons_succ, List.getElem_cons_zero, List.setIfInBounds_toArray, List.set_cons_zero, List.set_cons_succ]
          refine wpAnyH_one 14 (by kernel_rfl) ?_
          refine wpOp_skip _ rfl (by kernel_rfl) (exec_storeC Wd _ _ _ _ rfl G p x m (by kernel_rfl) (by kernel_rfl) hxd hfd) ?_
          refine ⟨hS9, ?_⟩
          try simp only [Act.put, List.getElem_toArray, List.getElem_cons_succ, List.getElem_cons_zero, List.setIfInBounds_toArray, List.set_cons_zero, List.set_cons_succ]
          refine wpAnyH_done (by kernel_rfl) ?_ _
          clear hSd hbd hxd hfd hS9
          go_wp2_with fail
          go_roundw
          case rel => exact ⟨k + 1, by omega, by go_num, HSv.out, HEn.out⟩
          case measure => simp [intOf]; omega
    · have hklt : ¬ (k : Int) < (n : Int) := by omega
      obtain rfl : k = n := by omega
      have HJ : Hid (J = (skF l k, 0)) := by show _ = _; rw [← HJJ.out]; unfold ofS; rw [if_neg (by rw [HN.out]; exact hlong), if_pos (txsOK_yes (fun j hj => HP.out j (by rw [HN.out] at hj; exact hj))), HN.out]
      have HOl := hidd (okR_skF l k).1
      have x0 : wr.cell? ⟨B, 0, none⟩ = some (.slice (some ⟨G, 0, none⟩) 256 256) := blkc HE.out.box 0
      have r0 : wr.cell? ⟨w.heap.size, 0, none⟩ = some (.slice none 0 0) := blkc HE.out.res 0
      have f0 := blkf HE.out.res 0
      have HKf := hidd (blk_setk HE.out.res 0 (.slice (some ⟨G, 0, none⟩) 256 256))
      have HBf := hidd (HE.out.bel.setCell (p := ⟨w.heap.size, 0, none⟩) (Nat.le_refl _) (.slice (some ⟨G, 0, none⟩) 256 256))
      have q0 : (wr.setCell ⟨w.heap.size, 0, none⟩ (.slice (some ⟨G, 0, none⟩) 256 256)).cell? ⟨w.heap.size, 0, none⟩ = some (.slice (some ⟨G, 0, none⟩) 256 256) := by rw [blkc HKf.out 0]; rfl
      go_wp2_with fail
      refine bodyPost_ret (v := .tuple #[.agg #[.slice (some ⟨G, 0, none⟩) 256 256], .int .i64 0]) (by simp [results, Tryd.results6, go_sem, q0]) rfl ?_
      rw [HJ.out]
      refine ⟨3, _, Or.inl rfl, rfl, ?_, HBf.out⟩
      show World.ownsRow _ _ _ _ _ (skF l k).length (zI (skF l k))
      rw [HOl.out]
      exact own_congr HE.out.row (fun b hb => heap_set_other _ _ _ _ _ (by have e : G = b := (by simpa [Value.ownBlock] using hb); have := HBG.out.2; omega))
end Go.Proofs.YtboocdiilbcdcaaDoor
