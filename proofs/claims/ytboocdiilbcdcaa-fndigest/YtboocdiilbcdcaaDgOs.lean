import Derived.Test.YtboocdiilbcdcaaDgO
namespace Go.Proofs.Ytboocdiilbcdcaa
open Go Go.RowKit
set_option linter.unusedVariables false
set_option linter.unusedSimpArgs false
set_option maxRecDepth 100000

/-! spec.DigestOf. -/
theorem exec_idxZ (W : World) (ρ : Operand → Value) (o : Oper) (x y : Operand) (ho : o.op = .indexAddr 23 x y) (g X len c : Nat) (hx : ρ x = .slice (some ⟨g, 0, none⟩) len c) (hy : ρ y = .int .i64 (X : Int)) (h : X < len) :
    (execOp ρ o).run Try.prog W = .ok (.value (.pointer (some ⟨g, X, none⟩))) W := by
  have h1 : (0 : Int) ≤ (X : Int) := by omega
  have h2 : (X : Int) < (len : Int) := by omega
  unfold execOp
  simp only [ho, hx, hy, Sem.run_bind, Sem.run_pure, Result.andThen_ok]
  go_simp
theorem _root_.Go.World.grownBy.cell_of {W W' : World} {o : Option Nat} (hg : W.grownBy W' o) {b k : Nat} {u : Value} (h : W.cell? ⟨b, k, none⟩ = some u) (hne : some b ≠ o) : W'.cell? ⟨b, k, none⟩ = some u := by
  rw [World.cell?_of_block (hg.block b (cell_lt h) hne)]
  exact h
set_option maxHeartbeats 8000000 in
theorem specOf_any (t : Int) (u : Value) (zs : List Int) (w : World) (hl : zs.length ≤ 1048576) (hv : SzI w u zs) :
    Calls Try.prog 8 #[u, .int .i64 t] w (DgR w (ofZ zs t)) := by
  have HV := hidd hv
  obtain ⟨ad, cap, rfl, -, hz⟩ := hv
  have HZ := hidd hz
  clear hz
  obtain ⟨n, hn⟩ : ∃ n, zs.length = n := ⟨_, rfl⟩
  rw [hn] at hl HV ⊢
  have HN := hidd hn
  clear hn
  obtain ⟨J, hJ⟩ : ∃ J, ofZ zs t = J := ⟨_, rfl⟩
  rw [hJ]
  have HJJ := hidd hJ
  clear hJ
  obtain ⟨W, hW⟩ : ∃ W, w.alloc (.cells #[.int .i64 0, .int .i64 0, .int .i64 0, .slice none 0 0] 27) = W := ⟨_, rfl⟩
  have HKr : Hid (W.heap[w.heap.size]? = some (.cells #[.int .i64 0, .int .i64 0, .int .i64 0, .slice none 0 0] 27)) := by show _ = _; rw [← hW]; exact heap_alloc_new _ _
  have HBa : Hid (Below w.heap.size w W) := by show Below _ _ _; rw [← hW]; exact (Below.refl _ _).alloc (Nat.le_refl _) _
  go_enter Try.func8, Try.ntmps8
  go_upto_region 1 with fail
  try rw [hW]
  clear hW
  by_cases hlong : 4096 < n
  · have e1 : (4096 : Int) < (n : Int) := by omega
    have HJ : Hid (J = ((0, 0, 0, []), 2)) := by show _ = _; rw [← HJJ.out]; exact ofZ_long (by rw [HN.out]; exact hlong)
    go_upto_region 2 with fail
    have x0 := blkc HKr.out 0
    have x1 := blkc HKr.out 1
    have x2 := blkc HKr.out 2
    have x3 := blkc HKr.out 3
    have f0 := blkf HKr.out 0
    have f1 := blkf HKr.out 1
    have f2 := blkf HKr.out 2
    have f3 := blkf HKr.out 3
    have HR := hidd (ret4 (.int .i64 0) (.int .i64 0) (.int .i64 0) (.slice none 0 0) HBa.out (Nat.le_refl _) HKr.out)
    have q0 := blkc HR.out.2 0
    have q1 := blkc HR.out.2 1
    have q2 := blkc HR.out.2 2
    have q3 := blkc HR.out.2 3
    go_wp2_with fail
    refine bodyPost_ret (v := .tuple #[.agg #[.int .i64 0, .int .i64 0, .int .i64 0, .slice none 0 0], .int .i64 2]) (by simp [results, Try.results8, go_sem, q0, q1, q2, q3]) rfl ?_
    rw [HJ.out]
    exact ⟨_, rfl, World.ownsRow_nil _ _ _ _, HR.out.1⟩
  have e1 : ¬ (4096 : Int) < (n : Int) := by omega
  by_cases hR : 1 ≤ t ∧ t ≤ 4096
  · obtain ⟨s, rfl⟩ : ∃ a : Nat, t = (a : Int) := ⟨t.toNat, by omega⟩
    have hs1 : 1 ≤ s := by omega
    have hs2 : s ≤ 4096 := by omega
    have e2 : ¬ (s : Int) < 1 := by omega
    have e3 : ¬ (4096 : Int) < (s : Int) := by omega
    have HR0 := hidd hR
    clear hR
    go_wp2_with fail
    go_loop [6] (fun iv => ∃ k : Nat, k ≤ n ∧ iv = .int .i64 (k : Int) ∧ ∀ i, i < k → NumZ (zs.getD i 0)) (fun iv => n - (intOf iv).toNat)
    case atStart => exact ⟨0, Nat.zero_le _, rfl, fun i hi => absurd hi (by omega)⟩
    case round =>
      obtain ⟨k, hk, rfl, hp⟩ := hrel
      have HP := hidd hp
      clear hp
      by_cases hkn : k < n
      · have hkz : (k : Int) < (n : Int) := by omega
        have hknz : k < zs.length := by have := HN.out; omega
        obtain ⟨g, off, rfl, hg, hc⟩ := HZ.out.resolve_left (fun h => by rw [h] at hknz; simp at hknz)
        have z1 := (HBa.out.cell (p := ⟨g, off + k, none⟩) hg).trans (hc k hknz)
        obtain ⟨x, hx⟩ : ∃ x, zs.getD k 0 = x := ⟨_, rfl⟩
        rw [hx] at z1
        have HX := hidd hx
        clear hx hc
        by_cases b1 : x < -1000000000000
        · have HJ : Hid (J = ((0, 0, 0, []), 12)) := by show _ = _; rw [← HJJ.out]; exact ofZ_range (by rw [HN.out]; exact hlong) (fun h => by have := (h.2 k hknz).1; rw [HX.out] at this; omega)
          go_upto_region 9 with fail
          have x0 := blkc HKr.out 0
          have x1 := blkc HKr.out 1
          have x2 := blkc HKr.out 2
          have x3 := blkc HKr.out 3
          have f0 := blkf HKr.out 0
          have f1 := blkf HKr.out 1
          have f2 := blkf HKr.out 2
          have f3 := blkf HKr.out 3
          have HR := hidd (ret4 (.int .i64 0) (.int .i64 0) (.int .i64 0) (.slice none 0 0) HBa.out (Nat.le_refl _) HKr.out)
          have q0 := blkc HR.out.2 0
          have q1 := blkc HR.out.2 1
          have q2 := blkc HR.out.2 2
          have q3 := blkc HR.out.2 3
          go_wp2_with fail
          refine bodyPost_ret (v := .tuple #[.agg #[.int .i64 0, .int .i64 0, .int .i64 0, .slice none 0 0], .int .i64 12]) (by simp [results, Try.results8, go_sem, q0, q1, q2, q3]) rfl ?_
          rw [HJ.out]
          exact ⟨_, rfl, World.ownsRow_nil _ _ _ _, HR.out.1⟩
        by_cases b2 : 1000000000000 < x
        · have HJ : Hid (J = ((0, 0, 0, []), 12)) := by show _ = _; rw [← HJJ.out]; exact ofZ_range (by rw [HN.out]; exact hlong) (fun h => by have := (h.2 k hknz).2; rw [HX.out] at this; omega)
          go_upto_region 9 with fail
          have x0 := blkc HKr.out 0
          have x1 := blkc HKr.out 1
          have x2 := blkc HKr.out 2
          have x3 := blkc HKr.out 3
          have f0 := blkf HKr.out 0
          have f1 := blkf HKr.out 1
          have f2 := blkf HKr.out 2
          have f3 := blkf HKr.out 3
          have HR := hidd (ret4 (.int .i64 0) (.int .i64 0) (.int .i64 0) (.slice none 0 0) HBa.out (Nat.le_refl _) HKr.out)
          have q0 := blkc HR.out.2 0
          have q1 := blkc HR.out.2 1
          have q2 := blkc HR.out.2 2
          have q3 := blkc HR.out.2 3
          go_wp2_with fail
          refine bodyPost_ret (v := .tuple #[.agg #[.int .i64 0, .int .i64 0, .int .i64 0, .slice none 0 0], .int .i64 12]) (by simp [results, Try.results8, go_sem, q0, q1, q2, q3]) rfl ?_
          rw [HJ.out]
          exact ⟨_, rfl, World.ownsRow_nil _ _ _ _, HR.out.1⟩
        go_wp2_with fail
        go_round
        case rel =>
          refine ⟨k + 1, by omega, by go_num, fun i hi => ?_⟩
          rcases (by omega : i < k ∨ i = k) with h | rfl
          · exact HP.out i h
          · rw [HX.out]; exact ⟨by omega, by omega⟩
        case measure => simp [intOf]; omega
      · have hkz : ¬ (k : Int) < (n : Int) := by omega
        have HPN : Hid (PtN zs) := fun i hi => HP.out i (by rw [HN.out] at hi; omega)
        clear HP
        have HSo := hidd (sort_any zs (.slice ad n cap) W (by rw [HN.out]; omega) (HV.out.below HBa.out))
        rw [HN.out] at HSo
        go_wp2_with fail
        refine HSo.out.mono ?_
        rintro e w1 ⟨gs, cs, rfl, ho1, hb1⟩
        have HO1 := hidd ho1
        have HB1 := hidd (HBa.out.trans (hb1.mono HBa.out.size))
        have HK1 := hidd (blko HKr.out hb1)
        have hgs : gs < w1.heap.size := own_lt ho1
        clear ho1 hb1 HSo HBa HKr
        have HBn : Hid (Below w1.heap.size w1 (w1.alloc (.cells #[.int .i64 (s : Int), .int .i64 1, .int .i64 (n : Int), .slice none 0 0] 27))) := (Below.refl _ _).alloc (Nat.le_refl _) _
        have HKn := hidd (heap_alloc_new w1 (.cells #[.int .i64 (s : Int), .int .i64 1, .int .i64 (n : Int), .slice none 0 0] 27))
        go_upto_region 12 with fail
        obtain ⟨w2, hw2⟩ : ∃ V, w1.alloc (.cells #[.int .i64 (s : Int), .int .i64 1, .int .i64 (n : Int), .slice none 0 0] 27) = V := ⟨_, rfl⟩
        rw [hw2] at HBn HKn
        try rw [hw2]
        have hz2 : w2.heap.size = w1.heap.size + 1 := by rw [← hw2]; simp
        clear hw2
        have HE0 : Hid (Ev w1 w2 w1.heap.size (w1.heap.size + 1) (s : Int) (n : Int) (.slice none 0 0) (evk s (srtZ zs) 0)) := ⟨HKn.out, World.ownsRow_nil _ _ _ _, HBn.out⟩
        have HZ2 := hidd hz2
        clear HKn HBn hz2
        go_wp2_with fail
        go_loopw [9] (fun iv wr => ∃ k I : Nat, I = k * s ∧ iv = .int .i64 (I : Int) ∧ I ≤ n + s ∧ (k ≤ cntE n s) ∧ ∃ v, Ev w1 wr w1.heap.size (w1.heap.size + 1) (s : Int) (n : Int) v (evk s (srtZ zs) k)) (fun iv _ => n + s - (intOf iv).toNat)
        case atStart => exact ⟨0, 0, by simp, by first | rfl | simp, by omega, Nat.zero_le _, _, HE0.out⟩
        case round =>
          clear HE0
          obtain ⟨k, I, hIk, rfl, hIl, hkc, v, hev⟩ := hrel
          obtain ⟨adv, cv, rfl⟩ := hev.sl
          have HEv := hidd hev
          have HIk := hidd hIk
          rw [evk_len] at HEv
          have hbz : w1.heap.size + 1 ≤ wr.heap.size := by have := (Array.getElem?_eq_some_iff.1 hev.box).1; omega
          clear hev hIk
          obtain ⟨K, hKk⟩ : ∃ K, k = K := ⟨_, rfl⟩
          have HKk := hidd hKk
          rw [show (Value.slice adv k cv) = .slice adv K cv by rw [hKk]] at HEv
          clear hKk
          by_cases hIn : I < n
          · have hIz : (I : Int) < (n : Int) := by omega
            have hkb : k < cntE n s := (cnt_lt hs1 k).2 (by rw [← HIk.out]; exact hIn)
            have hkn' : k ≤ 4096 := by have := cntE_le (n := n) hs1; omega
            have z0 : w1.cell? ⟨gs, I, none⟩ = some (.int .i64 ((srtZ zs).getD I 0)) := by
              have h0 := HO1.out.cellAt I (by omega)
              rw [h0]
              have hll : I < (srtZ zs).length := by rw [srtZ_len, HN.out]; exact hIn
              simp [zI, List.getD_eq_getElem?_getD, List.getElem?_eq_getElem hll]
            have z1 := (HEv.out.bel.cell (p := ⟨gs, I, none⟩) hgs).trans z0
            have HY0 : Hid ((srtZ zs).getD (k * s) 0 = (srtZ zs).getD I 0) := by show _ = _; rw [HIk.out]
            obtain ⟨y, hy⟩ : ∃ y, (srtZ zs).getD I 0 = y := ⟨_, rfl⟩
            rw [hy] at z1
            have HY : Hid ((srtZ zs).getD (k * s) 0 = y) := HY0.out.trans hy
            clear hy z0 HY0
            have HRow : Hid (∀ {V : World}, Below wr.heap.size wr V → V.ownsRow (w1.heap.size + 1) 3 1 (.slice adv K cv) k (zI (evk s (srtZ zs) k))) := fun {V} hV => by
              have h := (HEv.out.below hV).row
              rw [evk_len] at h
              exact h
            go_wp2_with fail
            refine wp_region_held (S := fun u => u.cell? ⟨gs, I, none⟩ = some (.int .i64 y)) (by kernel_rfl) ?_
            have hbd : Below wr.heap.size wr ({ heap := wr.heap, tape := wr.tape, drawn := wr.drawn + 1, os := wr.os, output := wr.output } : World) := (Below.refl _ _).drew
            generalize ({ heap := wr.heap, tape := wr.tape, drawn := wr.drawn + 1, os := wr.os, output := wr.output } : World) = Wd at *
            have hSd : (fun u => u.cell? ⟨gs, I, none⟩ = some (.int .i64 y)) Wd := (hbd.cell (cell_lt z1)).trans z1
            try simp only [Act.put, List.getElem_toArray, List.getElem_cons_succ, List.getElem_cons_zero, List.setIfInBounds_toArray, List.set_cons_zero, List.set_cons_succ]
            refine tkX 0 (hS := hSd) (h := ?_)
            try simp only [Act.put, List.getElem_toArray, List.getElem_cons_succ, List.getElem_cons_zero, List.setIfInBounds_toArray, List.set_cons_zero, List.set_cons_succ]
            refine tkX 2 (hS := hSd) (h := ?_)
            try simp only [Act.put, List.getElem_toArray, List.getElem_cons_succ, List.getElem_cons_zero, List.setIfInBounds_toArray, List.set_cons_zero, List.set_cons_succ]
            refine tkX 3 (hS := hSd) (h := ?_)
            try simp only [Act.put, List.getElem_toArray, List.getElem_cons_succ, List.getElem_cons_zero, List.setIfInBounds_toArray, List.set_cons_zero, List.set_cons_succ]
            refine wpAnyH_take (i := 4) (v := .pointer (some ⟨gs, I, none⟩)) rfl (by kernel_rfl) (by kernel_rfl) (by kernel_rfl) (fun _ _ _ h => h) (Or.inl ⟨by kernel_rfl, fun W hW => exec_idxZ W _ _ _ _ rfl gs I n cs (by kernel_rfl) (by kernel_rfl) hIn⟩) hSd ?_
            try simp only [Act.put, List.getElem_toArray, List.getElem_cons_succ, List.getElem_cons_zero, List.setIfInBounds_toArray, List.set_cons_zero, List.set_cons_succ]
            refine tkX 5 (v := .int .i64 y) (hS := hSd) (h := ?_)
            try simp only [Act.put, List.getElem_toArray, List.getElem_cons_succ, List.getElem_cons_zero, List.setIfInBounds_toArray, List.set_cons_zero, List.set_cons_succ]
            refine wpAnyH_two 1 6 (by kernel_rfl) ?_ ?_
            · refine wpOp_val _ _ rfl (by kernel_rfl) (exec_loadS _ _ _ _ rfl w1.heap.size _ _ _ adv K cv (by kernel_rfl) (blko HEv.out.box hbd)) ?_
              refine ⟨hSd, ?_⟩
              try simp only [Act.put, List.getElem_toArray, List.getElem_cons_succ, List.getElem_cons_zero, List.setIfInBounds_toArray, List.set_cons_zero, List.set_cons_succ]
              refine wpAnyH_one 6 (by kernel_rfl) ?_
              refine wpOp_val _ _ rfl (by kernel_rfl) (exec_boxN _ _ _ _ rfl y (by kernel_rfl)) ?_
              have hal : Below Wd.heap.size Wd (Wd.alloc (.cells #[.int .i64 y] 3)) := (Below.refl _ _).alloc (Nat.le_refl _) _
              have hxa := heap_alloc_new Wd (.cells #[.int .i64 y] 3)
              have hbV := hbd.trans (hal.mono hbd.size)
              obtain ⟨V, hVe⟩ : ∃ V, Wd.alloc (.cells #[.int .i64 y] 3) = V := ⟨_, rfl⟩
              rw [hVe] at hal hxa hbV
              rw [hVe]
              clear hVe
              have hSV : (fun u => u.cell? ⟨gs, I, none⟩ = some (.int .i64 y)) V := (hbV.cell (cell_lt z1)).trans z1
              refine ⟨hSV, ?_⟩
              try simp only [Act.put, List.getElem_toArray, List.getElem_cons_succ, List.getElem_cons_zero, List.setIfInBounds_toArray, List.set_cons_zero, List.set_cons_succ]
              refine wpAnyH_one 7 (by kernel_rfl) ?_
              refine wpOp_push1 (W0 := Wd) rfl (by kernel_rfl) _ _ rfl (w1.heap.size + 1) (.slice adv K cv) (evk s (srtZ zs) k) (by kernel_rfl) (by rw [evk_len]; first | exact HRow.out hbV | exact (HRow.out hbV)) Wd.heap.size y (by kernel_rfl) hxa (by rw [evk_len]; omega) (Nat.le_trans hbz hbV.size) ?_
              intro g7 c7 V2 N7 hN7 ho7 hgr7
              have hst := Ev.step HEv.out (Nat.le_refl _) (Nat.lt_succ_self _) hbz hbV hgr7 hN7.out ho7
              have HEn := hidd hst.2
              have hSV2 : (fun u => u.cell? ⟨gs, I, none⟩ = some (.int .i64 y)) V2 := (hgr7.cell_of hSV (fun e => by have := own_block (HRow.out hbV) gs e.symm; omega))
              refine ⟨hSV2, ?_⟩
              try simp only [Act.put, List.getElem_toArray, List.getElem_cons_succ, List.getElem_cons_zero, List.setIfInBounds_toArray, List.set_cons_zero, List.set_cons_succ]
              refine tkX 8 (hS := hSV2) (h := ?_)
              try simp only [Act.put, List.getElem_toArray, List.getElem_cons_succ, List.getElem_cons_zero, List.setIfInBounds_toArray, List.set_cons_zero, List.set_cons_succ]
              refine wpAnyH_one 9 (by kernel_rfl) ?_
              refine wpOp_skip _ rfl (by kernel_rfl) (exec_storeS V2 _ _ _ _ rfl w1.heap.size _ _ _ _ (some ⟨g7, 0, none⟩) N7 c7 (by kernel_rfl) (by kernel_rfl) hst.1) ?_
              refine ⟨by
                show (V2.setCell ⟨w1.heap.size, 3, none⟩ _).cell? ⟨gs, I, none⟩ = _
                rw [World.cell?_of_block (heap_set_other _ _ _ _ _ (show gs ≠ w1.heap.size by omega))]
                exact hSV2, ?_⟩
              try simp only [Act.put, List.getElem_toArray, List.getElem_cons_succ, List.getElem_cons_zero, List.setIfInBounds_toArray, List.set_cons_zero, List.set_cons_succ]
              refine wpAnyH_done (by kernel_rfl) ?_ _
              have HN7 : Hid (N7 = k + 1) := by show _ = _; rw [← hN7.out, List.length_append, evk_len]; rfl
              clear hSd hSV hSV2 hst hgr7 ho7 hN7 hbV hal hxa hbd
              rw [← HY.out, ← evk_succ] at HEn
              have hz9 := HEn.out.bel.size
              generalize V2.setCell ⟨w1.heap.size, 3, none⟩ (.slice (some ⟨g7, 0, none⟩) N7 c7) = V3 at *
              go_wp2_with fail
              go_roundw
              case rel => exact ⟨k + 1, I + s, by rw [HIk.out, Nat.add_mul, Nat.one_mul], by go_num, by omega, (cnt_lt hs1 k).2 (by rw [← HIk.out]; exact hIn), _, HEn.out⟩
              case measure => simp [intOf]; omega
            · refine wpOp_val _ _ rfl (by kernel_rfl) (exec_boxN _ _ _ _ rfl y (by kernel_rfl)) ?_
              have hal : Below Wd.heap.size Wd (Wd.alloc (.cells #[.int .i64 y] 3)) := (Below.refl _ _).alloc (Nat.le_refl _) _
              have hxa := heap_alloc_new Wd (.cells #[.int .i64 y] 3)
              have hbV := hbd.trans (hal.mono hbd.size)
              obtain ⟨V, hVe⟩ : ∃ V, Wd.alloc (.cells #[.int .i64 y] 3) = V := ⟨_, rfl⟩
              rw [hVe] at hal hxa hbV
              rw [hVe]
              clear hVe
              have hSV : (fun u => u.cell? ⟨gs, I, none⟩ = some (.int .i64 y)) V := (hbV.cell (cell_lt z1)).trans z1
              refine ⟨hSV, ?_⟩
              try simp only [Act.put, List.getElem_toArray, List.getElem_cons_succ, List.getElem_cons_zero, List.setIfInBounds_toArray, List.set_cons_zero, List.set_cons_succ]
              refine wpAnyH_one 1 (by kernel_rfl) ?_
              refine wpOp_val _ _ rfl (by kernel_rfl) (exec_loadS _ _ _ _ rfl w1.heap.size _ _ _ adv K cv (by kernel_rfl) (blko HEv.out.box hbV)) ?_
              refine ⟨hSV, ?_⟩
              try simp only [Act.put, List.getElem_toArray, List.getElem_cons_succ, List.getElem_cons_zero, List.setIfInBounds_toArray, List.set_cons_zero, List.set_cons_succ]
              refine wpAnyH_one 7 (by kernel_rfl) ?_
              refine wpOp_push1 (W0 := Wd) rfl (by kernel_rfl) _ _ rfl (w1.heap.size + 1) (.slice adv K cv) (evk s (srtZ zs) k) (by kernel_rfl) (by rw [evk_len]; first | exact HRow.out hbV | exact (HRow.out hbV)) Wd.heap.size y (by kernel_rfl) hxa (by rw [evk_len]; omega) (Nat.le_trans hbz hbV.size) ?_
              intro g7 c7 V2 N7 hN7 ho7 hgr7
              have hst := Ev.step HEv.out (Nat.le_refl _) (Nat.lt_succ_self _) hbz hbV hgr7 hN7.out ho7
              have HEn := hidd hst.2
              have hSV2 : (fun u => u.cell? ⟨gs, I, none⟩ = some (.int .i64 y)) V2 := (hgr7.cell_of hSV (fun e => by have := own_block (HRow.out hbV) gs e.symm; omega))
              refine ⟨hSV2, ?_⟩
              try simp only [Act.put, List.getElem_toArray, List.getElem_cons_succ, List.getElem_cons_zero, List.setIfInBounds_toArray, List.set_cons_zero, List.set_cons_succ]
              refine tkX 8 (hS := hSV2) (h := ?_)
              try simp only [Act.put, List.getElem_toArray, List.getElem_cons_succ, List.getElem_cons_zero, List.setIfInBounds_toArray, List.set_cons_zero, List.set_cons_succ]
              refine wpAnyH_one 9 (by kernel_rfl) ?_
              refine wpOp_skip _ rfl (by kernel_rfl) (exec_storeS V2 _ _ _ _ rfl w1.heap.size _ _ _ _ (some ⟨g7, 0, none⟩) N7 c7 (by kernel_rfl) (by kernel_rfl) hst.1) ?_
              refine ⟨by
                show (V2.setCell ⟨w1.heap.size, 3, none⟩ _).cell? ⟨gs, I, none⟩ = _
                rw [World.cell?_of_block (heap_set_other _ _ _ _ _ (show gs ≠ w1.heap.size by omega))]
                exact hSV2, ?_⟩
              try simp only [Act.put, List.getElem_toArray, List.getElem_cons_succ, List.getElem_cons_zero, List.setIfInBounds_toArray, List.set_cons_zero, List.set_cons_succ]
              refine wpAnyH_done (by kernel_rfl) ?_ _
              have HN7 : Hid (N7 = k + 1) := by show _ = _; rw [← hN7.out, List.length_append, evk_len]; rfl
              clear hSd hSV hSV2 hst hgr7 ho7 hN7 hbV hal hxa hbd
              rw [← HY.out, ← evk_succ] at HEn
              have hz9 := HEn.out.bel.size
              generalize V2.setCell ⟨w1.heap.size, 3, none⟩ (.slice (some ⟨g7, 0, none⟩) N7 c7) = V3 at *
              go_wp2_with fail
              go_roundw
              case rel => exact ⟨k + 1, I + s, by rw [HIk.out, Nat.add_mul, Nat.one_mul], by go_num, by omega, (cnt_lt hs1 k).2 (by rw [← HIk.out]; exact hIn), _, HEn.out⟩
              case measure => simp [intOf]; omega
          · have hIz : ¬ (I : Int) < (n : Int) := by omega
            have hke : k = cntE n s := by
              rcases Nat.lt_or_ge k (cntE n s) with h | h
              · exact absurd ((cnt_lt hs1 k).1 h) (by rw [← HIk.out]; exact hIn)
              · omega
            have x3 : wr.cell? ⟨w1.heap.size, 3, none⟩ = some (.slice adv K cv) := blkc HEv.out.box 3
            have hKc : K = cntE n s := by have := HKk.out; omega
            have HKr2 : Hid (wr.heap[w.heap.size]? = some (.cells #[.int .i64 0, .int .i64 0, .int .i64 0, .slice none 0 0] 27)) := (HEv.out.bel.block w.heap.size (Array.getElem?_eq_some_iff.1 HK1.out).1).trans HK1.out
            have HBr : Hid (Below w.heap.size w wr) := HB1.out.trans (HEv.out.bel.mono HB1.out.size)
            have hKb : K ≤ 4096 := by have := cntE_le (n := n) hs1; omega
            by_cases hM : 512 < K
            · have hMz : (512 : Int) < (K : Int) := by omega
              have HJ : Hid (J = ((0, 0, 0, []), 11)) := by show _ = _; rw [← HJJ.out]; exact ofZ_many (by rw [HN.out]; exact hlong) ⟨HR0.out, HPN.out⟩ (by rw [HN.out, ← hKc]; exact hM)
              clear hke hKc
              go_upto_region 17 with fail
              have x0 := blkc HKr2.out 0
              have x1 := blkc HKr2.out 1
              have x2 := blkc HKr2.out 2
              have x3 := blkc HKr2.out 3
              have f0 := blkf HKr2.out 0
              have f1 := blkf HKr2.out 1
              have f2 := blkf HKr2.out 2
              have f3 := blkf HKr2.out 3
              have HR := hidd (ret4 (.int .i64 0) (.int .i64 0) (.int .i64 0) (.slice none 0 0) HBr.out (Nat.le_refl _) HKr2.out)
              have q0 := blkc HR.out.2 0
              have q1 := blkc HR.out.2 1
              have q2 := blkc HR.out.2 2
              have q3 := blkc HR.out.2 3
              go_wp2_with fail
              refine bodyPost_ret (v := .tuple #[.agg #[.int .i64 0, .int .i64 0, .int .i64 0, .slice none 0 0], .int .i64 11]) (by simp [results, Try.results8, go_sem, q0, q1, q2, q3]) rfl ?_
              rw [HJ.out]
              exact ⟨_, rfl, World.ownsRow_nil _ _ _ _, HR.out.1⟩
            · have hMz : ¬ (512 : Int) < (K : Int) := by omega
              have HJ : Hid (J = (((s : Int), 1, (n : Int), evk s (srtZ zs) (cntE n s)), 0)) := by show _ = _; rw [← HJJ.out]; have := ofZ_ok (zs := zs) (s := s) (by rw [HN.out]; exact hlong) ⟨HR0.out, HPN.out⟩ (by rw [HN.out, ← hKc]; exact hM); rw [HN.out] at this; exact this
              have HKe := hidd hke
              clear hke hKc
              have r0 := blkc HKr2.out 0
              have r1 := blkc HKr2.out 1
              have r2 := blkc HKr2.out 2
              have r3 := blkc HKr2.out 3
              have f0 := blkf HKr2.out 0
              have f1 := blkf HKr2.out 1
              have f2 := blkf HKr2.out 2
              have f3 := blkf HKr2.out 3
              have x0 : wr.cell? ⟨w1.heap.size, 0, none⟩ = some (.int .i64 (s : Int)) := blkc HEv.out.box 0
              have x1 : wr.cell? ⟨w1.heap.size, 1, none⟩ = some (.int .i64 1) := blkc HEv.out.box 1
              have x2 : wr.cell? ⟨w1.heap.size, 2, none⟩ = some (.int .i64 (n : Int)) := blkc HEv.out.box 2
              have HR := hidd (ret4 (.int .i64 (s : Int)) (.int .i64 1) (.int .i64 (n : Int)) (.slice adv K cv) HBr.out (Nat.le_refl _) HKr2.out)
              have q0 := blkc HR.out.2 0
              have q1 := blkc HR.out.2 1
              have q2 := blkc HR.out.2 2
              have q3 := blkc HR.out.2 3
              go_wp2_with fail
              refine bodyPost_ret (v := .tuple #[.agg #[.int .i64 (s : Int), .int .i64 1, .int .i64 (n : Int), .slice adv K cv], .int .i64 0]) (by simp [results, Try.results8, go_sem, q0, q1, q2, q3]) rfl ?_
              rw [HJ.out]
              refine ⟨_, rfl, ?_, HR.out.1⟩
              show World.ownsRow _ _ _ _ _ (evk s (srtZ zs) (cntE n s)).length (zI (evk s (srtZ zs) (cntE n s)))
              rw [← HKe.out]
              refine own_congr (own_mono HEv.out.row (Nat.le_trans HB1.out.size (Nat.le_succ _))) (fun b hb => set4o _ _ _ _ (fun e => ?_))
              subst e
              obtain ⟨_, cur, h5⟩ := own_blk HEv.out.row hb
              exact blk_ne HKr2.out h5 (by decide) rfl
  · have HJ : Hid (J = ((0, 0, 0, []), 12)) := by show _ = _; rw [← HJJ.out]; exact ofZ_range (by rw [HN.out]; exact hlong) (fun h => hR h.1)
    by_cases e2 : t < 1
    · clear hR
      go_upto_region 4 with fail
      have x0 := blkc HKr.out 0
      have x1 := blkc HKr.out 1
      have x2 := blkc HKr.out 2
      have x3 := blkc HKr.out 3
      have f0 := blkf HKr.out 0
      have f1 := blkf HKr.out 1
      have f2 := blkf HKr.out 2
      have f3 := blkf HKr.out 3
      have HR := hidd (ret4 (.int .i64 0) (.int .i64 0) (.int .i64 0) (.slice none 0 0) HBa.out (Nat.le_refl _) HKr.out)
      have q0 := blkc HR.out.2 0
      have q1 := blkc HR.out.2 1
      have q2 := blkc HR.out.2 2
      have q3 := blkc HR.out.2 3
      go_wp2_with fail
      refine bodyPost_ret (v := .tuple #[.agg #[.int .i64 0, .int .i64 0, .int .i64 0, .slice none 0 0], .int .i64 12]) (by simp [results, Try.results8, go_sem, q0, q1, q2, q3]) rfl ?_
      rw [HJ.out]
      exact ⟨_, rfl, World.ownsRow_nil _ _ _ _, HR.out.1⟩
    · have e3 : 4096 < t := by omega
      clear hR
      go_upto_region 4 with fail
      have x0 := blkc HKr.out 0
      have x1 := blkc HKr.out 1
      have x2 := blkc HKr.out 2
      have x3 := blkc HKr.out 3
      have f0 := blkf HKr.out 0
      have f1 := blkf HKr.out 1
      have f2 := blkf HKr.out 2
      have f3 := blkf HKr.out 3
      have HR := hidd (ret4 (.int .i64 0) (.int .i64 0) (.int .i64 0) (.slice none 0 0) HBa.out (Nat.le_refl _) HKr.out)
      have q0 := blkc HR.out.2 0
      have q1 := blkc HR.out.2 1
      have q2 := blkc HR.out.2 2
      have q3 := blkc HR.out.2 3
      go_wp2_with fail
      refine bodyPost_ret (v := .tuple #[.agg #[.int .i64 0, .int .i64 0, .int .i64 0, .slice none 0 0], .int .i64 12]) (by simp [results, Try.results8, go_sem, q0, q1, q2, q3]) rfl ?_
      rw [HJ.out]
      exact ⟨_, rfl, World.ownsRow_nil _ _ _ _, HR.out.1⟩
end Go.Proofs.Ytboocdiilbcdcaa
