import Derived.Test.YtboocdiilbcdcaaDgOc
namespace Go.Proofs.Ytboocdiilbcdcaa
open Go Go.RowKit Go.Shelf
set_option linter.unusedVariables false
set_option linter.unusedSimpArgs false
set_option maxRecDepth 100000

/-! impl.DigestOf. -/
attribute [local go_sem] Oper.semAt_some
theorem cntE_eq {n s : Nat} (hs : 1 ≤ s) : ((n : Int) + (s : Int) - 1) / (s : Int) = ((cntE n s : Nat) : Int) := by
  unfold cntE
  have e : (n : Int) + (s : Int) - 1 = ((n + s - 1 : Nat) : Int) := by omega
  rw [e]; simp
/-- What DigestOf has in memory behind c chunks. -/
structure CkI (w0 w3 w5 : World) (s n : Int) (S N cs : Nat) (ad : Option Addr) (Bs : Nat) (zs : List Int) (c : Nat) (W : World) : Prop where
  ev : ∃ v, Ev w0 W w0.heap.size (w5.heap.size + 2) s n v (evk S (srtZ zs) c)
  bs : W.heap[Bs]? = some (.cells #[.slice ad N cs] 23)
  bn : W.heap[Bs + 1]? = some (.cells #[.int .i64 s] 3)
  row : W.ownsRow w3.heap.size 3 1 (.slice ad N cs) N (zI (srtZ zs))
  sz : w5.heap.size + 2 ≤ W.heap.size
theorem CkI.of_heap {w0 w3 w5 : World} {s n : Int} {S N cs : Nat} {ad : Option Addr} {Bs : Nat} {zs : List Int} {c : Nat} {W W' : World} (h : CkI w0 w3 w5 s n S N cs ad Bs zs c W) (hh : ∀ b, b ≠ w5.heap.size + 1 → W'.heap[b]? = W.heap[b]?) (hz : W.heap.size ≤ W'.heap.size) (hos : W'.os = W.os) (htp : W'.tape = W.tape) (hou : W'.output = W.output)
    (h0 : w0.heap.size < w5.heap.size) (hB : Bs + 1 < w5.heap.size) (hv : ∀ b, (Value.slice ad N cs).ownBlock = some b → b < w5.heap.size) : CkI w0 w3 w5 s n S N cs ad Bs zs c W' := by
  obtain ⟨v, hev⟩ := h.ev
  refine ⟨⟨v, ?_, ?_, ?_⟩, ?_, ?_, ?_, Nat.le_trans h.sz hz⟩
  · rw [hh _ (by omega)]; exact hev.box
  · exact own_congr hev.row (fun b hb => hh b (by have := (own_blk hev.row hb).1; omega))
  · exact ⟨hos.trans hev.bel.os, htp.trans hev.bel.tape, hou.trans hev.bel.output, Nat.le_trans hev.bel.size hz, fun b hb => (hh b (by omega)).trans (hev.bel.block b hb)⟩
  · rw [hh _ (by omega)]; exact h.bs
  · rw [hh _ (by omega)]; exact h.bn
  · exact own_congr h.row (fun b hb => hh b (by have := hv b hb; omega))
set_option maxHeartbeats 8000000 in
theorem implOf_any (t : Int) (u : Value) (zs : List Int) (w : World) (hl : zs.length ≤ 1048576) (hv : SzI w u zs) :
    Calls Try.prog 9 #[u, .int .i64 t] w (DgR w (ofZ zs t)) := by
  have HV := hidd hv
  obtain ⟨ad0, cap0, rfl, -⟩ := hv
  obtain ⟨n, hn⟩ : ∃ n, zs.length = n := ⟨_, rfl⟩
  rw [hn] at hl HV ⊢
  have HN := hidd hn
  clear hn
  obtain ⟨J, hJ⟩ : ∃ J, ofZ zs t = J := ⟨_, rfl⟩
  rw [hJ]
  have HJJ := hidd hJ
  clear hJ
  obtain ⟨W, hW⟩ : ∃ W, w.alloc (.cells #[.int .i64 0, .int .i64 0, .int .i64 0, .slice none 0 0] 27) = W := ⟨_, rfl⟩
  have HKr : Hid (W.heap[w.heap.size]? = some (.cells #[.int .i64 0, .int .i64 0, .int .i64 0, .slice none 0 0] 27)) := by show _ = _; rw [← hW]; exact heap_alloc_new _ _
  have HBa : Hid (Below w.heap.size w W) := by show Below _ _ _; rw [← hW]; exact (Below.refl _ _).alloc (Nat.le_refl _) _
  have hWz : W.heap.size = w.heap.size + 1 := by rw [← hW]; simp
  have HWZ := hidd hWz
  clear hWz
  by_cases hlong : 4096 < n
  · have e1 : (4096 : Int) < (n : Int) := by omega
    have HJ : Hid (J = ((0, 0, 0, []), 2)) := by show _ = _; rw [← HJJ.out]; exact ofZ_long (by rw [HN.out]; exact hlong)
    go_enter Try.func9, Try.ntmps9
    go_upto_region 1 with fail
    try rw [hW]
    clear hW
    go_upto_region 2 with fail
    have x0 := blkc HKr.out 0
    have x1 := blkc HKr.out 1
    have x2 := blkc HKr.out 2
    have x3 := blkc HKr.out 3
    have f0 := blkf HKr.out 0
    have f1 := blkf HKr.out 1
    have f2 := blkf HKr.out 2
    have f3 := blkf HKr.out 3
    have HR := hidd (ret4 (.int .i64 0) (.int .i64 0) (.int .i64 0) (.slice none 0 0) HBa.out (Nat.le_refl _) HKr.out)
    have q0 := blkc HR.out.2 0
    have q1 := blkc HR.out.2 1
    have q2 := blkc HR.out.2 2
    have q3 := blkc HR.out.2 3
    go_wp2_with fail
    refine bodyPost_ret (v := .tuple #[.agg #[.int .i64 0, .int .i64 0, .int .i64 0, .slice none 0 0], .int .i64 2]) (by simp [results, Try.results9, go_sem, q0, q1, q2, q3]) rfl ?_
    rw [HJ.out]
    exact ⟨_, rfl, World.ownsRow_nil _ _ _ _, HR.out.1⟩
  have e1 : ¬ (4096 : Int) < (n : Int) := by omega
  have HSt := hidd (storable_any (.slice ad0 n cap0) zs W (by rw [HN.out]; omega) (HV.out.below HBa.out).hold)
  by_cases hR : 1 ≤ t ∧ t ≤ 4096
  · obtain ⟨s, rfl⟩ : ∃ a : Nat, t = (a : Int) := ⟨t.toNat, by omega⟩
    have hs1 : 1 ≤ s := by omega
    have hs2 : s ≤ 4096 := by omega
    cases hP : bOf (PtN zs) with
    | false =>
      rw [hP] at HSt
      have HJ : Hid (J = ((0, 0, 0, []), 12)) := by show _ = _; rw [← HJJ.out]; exact ofZ_range (by rw [HN.out]; exact hlong) (fun h => bOf_no hP h.2)
      go_enter Try.func9, Try.ntmps9
      go_upto_region 1 with fail
      try rw [hW]
      clear hW
      go_wp2_with fail
      refine (within_t (s : Int) _ _ _ hR).mono ?_
      rintro e w1 ⟨rfl, hw1⟩
      obtain rfl := hw1.symm
      clear hw1
      go_wp2_with fail
      refine HSt.out.mono ?_
      rintro e w1 ⟨rfl, hw1⟩
      obtain rfl := hw1.symm
      clear hw1
      go_upto_region 4 with fail
      have x0 := blkc HKr.out 0
      have x1 := blkc HKr.out 1
      have x2 := blkc HKr.out 2
      have x3 := blkc HKr.out 3
      have f0 := blkf HKr.out 0
      have f1 := blkf HKr.out 1
      have f2 := blkf HKr.out 2
      have f3 := blkf HKr.out 3
      have HR := hidd (ret4 (.int .i64 0) (.int .i64 0) (.int .i64 0) (.slice none 0 0) HBa.out (Nat.le_refl _) HKr.out)
      have q0 := blkc HR.out.2 0
      have q1 := blkc HR.out.2 1
      have q2 := blkc HR.out.2 2
      have q3 := blkc HR.out.2 3
      go_wp2_with fail
      refine bodyPost_ret (v := .tuple #[.agg #[.int .i64 0, .int .i64 0, .int .i64 0, .slice none 0 0], .int .i64 12]) (by simp [results, Try.results9, go_sem, q0, q1, q2, q3]) rfl ?_
      rw [HJ.out]
      exact ⟨_, rfl, World.ownsRow_nil _ _ _ _, HR.out.1⟩
    | true =>
      rw [hP] at HSt
      have HPN := hidd (bOf_ok hP)
      have HSI := hidd (stepsIn_any n s (cntE n s) W (by omega) hs1 hs2 (cntE_eq hs1))
      have hKb : cntE n s ≤ 4096 := by have := cntE_le (n := n) hs1; omega
      by_cases hM : 512 < cntE n s
      · have HJ : Hid (J = ((0, 0, 0, []), 11)) := by show _ = _; rw [← HJJ.out]; exact ofZ_many (by rw [HN.out]; exact hlong) ⟨hR, HPN.out⟩ (by rw [HN.out]; exact hM)
        generalize cntE n s = K at *
        have hMz : (512 : Int) < (K : Int) := by omega
        go_enter Try.func9, Try.ntmps9
        go_upto_region 1 with fail
        try rw [hW]
        clear hW
        go_wp2_with fail
        refine (within_t (s : Int) _ _ _ hR).mono ?_
        rintro e w1 ⟨rfl, hw1⟩
        obtain rfl := hw1.symm
        clear hw1
        go_wp2_with fail
        refine HSt.out.mono ?_
        rintro e w1 ⟨rfl, hw1⟩
        obtain rfl := hw1.symm
        clear hw1
        go_wp2_with fail
        refine HSI.out.mono ?_
        rintro e w1 ⟨rfl, hw1⟩
        obtain rfl := hw1.symm
        clear hw1
        go_upto_region 6 with fail
        have x0 := blkc HKr.out 0
        have x1 := blkc HKr.out 1
        have x2 := blkc HKr.out 2
        have x3 := blkc HKr.out 3
        have f0 := blkf HKr.out 0
        have f1 := blkf HKr.out 1
        have f2 := blkf HKr.out 2
        have f3 := blkf HKr.out 3
        have HR := hidd (ret4 (.int .i64 0) (.int .i64 0) (.int .i64 0) (.slice none 0 0) HBa.out (Nat.le_refl _) HKr.out)
        have q0 := blkc HR.out.2 0
        have q1 := blkc HR.out.2 1
        have q2 := blkc HR.out.2 2
        have q3 := blkc HR.out.2 3
        go_wp2_with fail
        refine bodyPost_ret (v := .tuple #[.agg #[.int .i64 0, .int .i64 0, .int .i64 0, .slice none 0 0], .int .i64 11]) (by simp [results, Try.results9, go_sem, q0, q1, q2, q3]) rfl ?_
        rw [HJ.out]
        exact ⟨_, rfl, World.ownsRow_nil _ _ _ _, HR.out.1⟩
      · have HJ : Hid (J = (((s : Int), 1, (n : Int), evk s (srtZ zs) (cntE n s)), 0)) := by show _ = _; rw [← HJJ.out]; have := ofZ_ok (zs := zs) (s := s) (by rw [HN.out]; exact hlong) ⟨hR, HPN.out⟩ (by rw [HN.out]; exact hM); rw [HN.out] at this; exact this
        obtain ⟨K0, hK0⟩ : ∃ K0, cntE n s = K0 := ⟨_, rfl⟩
        have hMz : ¬ (512 : Int) < (K0 : Int) := by omega
        rw [hK0] at HSI
        have HK0 := hidd hK0
        clear hK0 hM
        refine (callsIn_wide (n := 4)).1 ?_
        refine callsIn_of_wp_marks Try.func9 rfl trivial ?_ rfl
        simp only [Try.ntmps9, List.size_toArray, List.length_cons, List.length_nil, Nat.reduceAdd, Nat.reduceSub, Array.replicate_succ, Array.replicate_zero, List.push_toArray, List.append_toArray, List.nil_append, List.cons_append]
        refine wpIn_wide.2 ?_
        go_upto_region 1 with fail
        try rw [hW]
        clear hW
        go_wp2_with fail
        refine (within_t (s : Int) _ _ _ hR).mono ?_
        rintro e w1 ⟨rfl, hw1⟩
        obtain rfl := hw1.symm
        clear hw1
        go_wp2_with fail
        refine HSt.out.mono ?_
        rintro e w1 ⟨rfl, hw1⟩
        obtain rfl := hw1.symm
        clear hw1
        go_wp2_with fail
        refine HSI.out.mono ?_
        rintro e w1 ⟨rfl, hw1⟩
        obtain rfl := hw1.symm
        clear hw1
        have HBn : Hid (Below W.heap.size W (W.alloc (.cells #[.int .i64 (s : Int), .int .i64 1, .int .i64 (n : Int), .slice none 0 0] 27))) := (Below.refl _ _).alloc (Nat.le_refl _) _
        have HKn := hidd (heap_alloc_new W (.cells #[.int .i64 (s : Int), .int .i64 1, .int .i64 (n : Int), .slice none 0 0] 27))
        go_upto_region 8 with fail
        obtain ⟨w2, hw2⟩ : ∃ V, W.alloc (.cells #[.int .i64 (s : Int), .int .i64 1, .int .i64 (n : Int), .slice none 0 0] 27) = V := ⟨_, rfl⟩
        rw [hw2] at HBn HKn
        try rw [hw2]
        have hz2 : W.heap.size + 1 ≤ w2.heap.size := by rw [← hw2]; simp
        clear hw2
        go_wp2_with fail
        refine (valsF_any ad0 n cap0 w2).mono ?_
        rintro e w3 ⟨rfl, hw3⟩
        have hb3 : Below w2.heap.size w2 w3 := by rw [hw3]; exact (Below.refl _ _).alloc (Nat.le_refl _) _
        have hn3 : w3.heap[w2.heap.size]? = some (.cells #[.slice ad0 n cap0] 23) := by rw [hw3]; exact heap_alloc_new _ _
        have hz3 : w2.heap.size + 1 ≤ w3.heap.size := by rw [hw3]; simp
        have hbW3 : Below W.heap.size W w3 := HBn.out.trans (hb3.mono HBn.out.size)
        have hbw3 : Below w.heap.size w w3 := HBa.out.trans (hbW3.mono HBa.out.size)
        have HKd3 := hidd (blko HKn.out hb3)
        have HSo := hidd (sorted_any w2.heap.size cap0 ad0 zs w3 (by rw [HN.out]; omega) (by rw [HN.out]; exact blkc hn3 0) (fun i hi => by
          obtain ⟨ad', cap', e, _, h⟩ := HV.out
          simp only [Value.slice.injEq] at e
          obtain ⟨rfl, _, _⟩ := e
          obtain ⟨g, off, e1, e2, e3⟩ := h.resolve_left (fun h => by rw [h] at hi; simp at hi)
          exact ⟨g, off, e1, (hbw3.cell (p := ⟨g, off + i, none⟩) e2).trans (e3 i hi)⟩))
        rw [HN.out] at HSo
        clear hw3 hn3 hb3
        go_wp2_with fail
        refine HSo.out.mono ?_
        rintro e w4 ⟨v4, rfl, ho4, hb4⟩
        obtain ⟨ad4, cs, rfl⟩ := own_sl1 ho4
        have hcs : n ≤ cs := by
          rcases own_cases ho4 with ⟨e, h0⟩ | ⟨g, c', e, _, _⟩
          · omega
          · simp only [Value.slice.injEq] at e
            obtain ⟨rfl, _, rfl⟩ := e
            exact own_cap ho4
        obtain ⟨gs, had⟩ : ∃ gs, n = 0 ∨ ad4 = some ⟨gs, 0, none⟩ := by
          rcases own_cases ho4 with ⟨e, h0⟩ | ⟨g, c', e, _, _⟩
          · exact ⟨0, Or.inl h0⟩
          · simp only [Value.slice.injEq] at e
            exact ⟨g, Or.inr e.1⟩
        have HO4 := hidd ho4
        have HAd := hidd had
        have hbW4 : Below W.heap.size W w4 := hbW3.trans (hb4.mono hbW3.size)
        have HKd4 := hidd (blko HKd3.out hb4)
        have hz4 : w3.heap.size ≤ w4.heap.size := hb4.size
        clear ho4 hb4 HSo HKd3 had
        go_wp2_with fail
        refine (chunkF_any ad4 n cs s hs1 w4).mono ?_
        rintro e w5 ⟨rfl, hw5⟩
        have hb5 : Below w4.heap.size w4 w5 := by rw [hw5]; exact ((Below.refl _ _).alloc (Nat.le_refl _) _).alloc (by simp) _
        have hk5 := box_two w4 (.cells #[.slice ad4 n cs] 23) (.cells #[.int .i64 (s : Int)] 3)
        rw [← hw5] at hk5
        have hz5 : w4.heap.size + 2 ≤ w5.heap.size := by rw [hw5]; simp
        have HO5 := hidd (own_below HO4.out hb5)
        have hbW5 : Below W.heap.size W w5 := hbW4.trans (hb5.mono hbW4.size)
        have HKd5 := hidd (blko HKd4.out hb5)
        have Hvl : Hid (∀ b, (Value.slice ad4 n cs).ownBlock = some b → b < w4.heap.size) := fun b hb => by
          obtain ⟨_, cur, h5⟩ := own_blk HO4.out hb
          exact (Array.getElem?_eq_some_iff.1 h5).1
        have HK5 := hidd hk5
        have HBW5 := hidd hbW5
        clear hw5 hb5 hk5 HO4 HKd4 hbW3 hbw3 hbW4 hbW5 HBn HKn
        have hW0w : w.heap.size < W.heap.size := by have := HWZ.out; omega
        have hW5 : W.heap.size < w4.heap.size := by omega
        have hvl5 : ∀ b, (Value.slice ad4 n cs).ownBlock = some b → b < w5.heap.size := fun b hb => by have := Hvl.out b hb; omega
        have HVL5 := hidd hvl5
        clear hvl5
        go_wp2_with fail
        refine (wpIn_wide (n := 4)).1 ?_
        apply range_inv (gf := 53) (lb := #[.pointer (some ⟨w4.heap.size, 0, none⟩), .pointer (some ⟨w4.heap.size + 1, 0, none⟩)]) (I := fun (c : Nat × Nat) Wx => CkI W w3 w5 (s : Int) (n : Int) s n cs ad4 w4.heap.size zs c.1 Wx) (live := fun c => c.1 * s < n ∧ 1 ≤ c.2) (args := fun c => #[.slice (some ⟨gs, c.1 * s, none⟩) c.2 c.2]) (next := fun c => (c.1 + 1, 0)) (x0 := (0, 0)) (xN := (cntE n s, 0))
        case hassign =>
          intro l m x Wx K hK
          gi_wp2
          exact hK
        case hg => rfl
        case eg => exact enters_of Try.func53 (by kernel_rfl) rfl
        case hps => intro x; rfl
        case hput =>
          intro x Wx o hI
          exact hI.of_heap (fun b hb => World.putObj_heap_other hb) (by simp) rfl rfl rfl (by omega) (by omega) HVL5.out
        case h0 =>
          intro Wx hbx hszx
          refine ⟨⟨.slice none 0 0, blko HKd5.out hbx, World.ownsRow_nil _ _ _ _, HBW5.out.trans (hbx.mono HBW5.out.size)⟩, blko HK5.out.1 hbx, blko HK5.out.2 hbx, own_below HO5.out hbx, by omega⟩
        case hit =>
          intro r Wx hbx hy hI hrec
          refine (chunkN_any 3 (by omega) _ w4.heap.size (w4.heap.size + 1) n cs s ad4 (by omega) hcs hs1 hs2 gs HAd.out (fun c Wy => CkI W w3 w5 (s : Int) (n : Int) s n cs ad4 w4.heap.size zs c Wy ∧ RecAt w5.heap.size r Wy) ?_ ?_ ?_ Wx ⟨hI, hrec⟩).mono ?_
          · rintro c Wy ⟨h1, h2⟩
            exact ⟨blkc h1.bs 0, blkc h1.bn 0⟩
          · rintro c Wy ⟨h1, h2⟩
            exact ⟨h1.of_heap (fun b hb => rfl) (Nat.le_refl _) rfl rfl rfl (by omega) (by omega) HVL5.out, ⟨h2.rc, h2.df⟩⟩
          · rintro c I m Wy hI' hlt hm ⟨h1, h2⟩
            subst hI'
            exact hy 2 (c, m) Wy ⟨hlt, hm⟩ h1 h2
          · rintro e Wy ⟨h1, h2, h3⟩
            exact ⟨h1, h2, h3⟩
        case hbody =>
          rintro mf ⟨k, m⟩ Wx ⟨hlt, hm0⟩ hI hszx0 hrec hdf
          dsimp only at hlt hm0 hI
          obtain ⟨v, hev⟩ := hI.ev
          obtain ⟨adv, cv, rfl⟩ := hev.sl
          have HEv := hidd hev
          rw [evk_len] at HEv
          have HCk := hidd hI
          have hszx := hI.sz
          have hmix : Try.prog.follows .mixedOrders = true := by kernel_rfl
          obtain rfl := HAd.out.resolve_left (by omega)
          obtain ⟨I, hIk⟩ : ∃ I, k * s = I := ⟨_, rfl⟩
          have HIk := hidd hIk
          rw [hIk] at hlt
          have z1 : Wx.cell? ⟨gs, I, none⟩ = some (.int .i64 ((srtZ zs).getD I 0)) := by
            have h0 := hI.row.cellAt I (by omega)
            rw [h0]
            have hll : I < (srtZ zs).length := by rw [srtZ_len, HN.out]; exact hlt
            simp [zI, List.getD_eq_getElem?_getD, List.getElem?_eq_getElem hll]
          have HY0 : Hid ((srtZ zs).getD (k * s) 0 = (srtZ zs).getD I 0) := by show _ = _; rw [hIk]
          obtain ⟨y, hy⟩ : ∃ y, (srtZ zs).getD I 0 = y := ⟨_, rfl⟩
          rw [hy] at z1
          have HY : Hid ((srtZ zs).getD (k * s) 0 = y) := HY0.out.trans hy
          have hgs : gs < w4.heap.size := Hvl.out gs rfl
          have hgsw : w3.heap.size ≤ gs := (own_blk hI.row rfl).1
          have hkn' : k ≤ 4096 := by have h1 := (cnt_lt hs1 (n := n) k).2 (by rw [hIk]; exact hlt); have h2 := cntE_le (n := n) hs1; omega
          obtain ⟨K, hKk⟩ : ∃ K, k = K := ⟨_, rfl⟩
          rw [show (Value.slice adv k cv) = .slice adv K cv by rw [hKk]] at HEv
          have HRow : Hid (∀ {V : World}, Below Wx.heap.size Wx V → V.ownsRow (w5.heap.size + 2) 3 1 (.slice adv K cv) k (zI (evk s (srtZ zs) k))) := fun {V} hV => by
            have h := (HEv.out.below hV).row
            rw [evk_len] at h
            exact h
          rw [hIk]
          clear hy HY0 hev hI hIk hKk hrec hdf
          gi_wp2
          refine region_round (S := fun u => u.cell? ⟨gs, I, none⟩ = some (.int .i64 y)) hmix (by kernel_rfl) ?lo z1 (fun hHeld => ?go)
          case lo =>
            rintro ⟨_, _, h, _⟩
            cases h
          case go =>
            have hbd : Below Wx.heap.size Wx Wx.drew := below_drewN (Below.refl _ _) 1
            generalize Wx.drew = Wd at *
            have hSd : (fun u => u.cell? ⟨gs, I, none⟩ = some (.int .i64 y)) Wd := hHeld
            try simp only [Act.put, List.getElem_toArray, List.getElem_cons_succ, List.getElem_cons_zero, List.setIfInBounds_toArray, List.set_cons_zero, List.set_cons_succ]
            refine tkX 0 (hS := hSd) (h := ?_)
            try simp only [Act.put, List.getElem_toArray, List.getElem_cons_succ, List.getElem_cons_zero, List.setIfInBounds_toArray, List.set_cons_zero, List.set_cons_succ]
            refine tkX 2 (hS := hSd) (h := ?_)
            try simp only [Act.put, List.getElem_toArray, List.getElem_cons_succ, List.getElem_cons_zero, List.setIfInBounds_toArray, List.set_cons_zero, List.set_cons_succ]
            refine wpAnyH_take (i := 3) (v := .pointer (some ⟨gs, I, none⟩)) rfl (by kernel_rfl) (by kernel_rfl) (by kernel_rfl) (fun _ _ _ h => h) (Or.inl ⟨by kernel_rfl, fun W hW => exec_idx0 W _ _ _ _ rfl gs I m m (by kernel_rfl) (by kernel_rfl) hm0⟩) hSd ?_
            try simp only [Act.put, List.getElem_toArray, List.getElem_cons_succ, List.getElem_cons_zero, List.setIfInBounds_toArray, List.set_cons_zero, List.set_cons_succ]
            refine tkX 4 (v := .int .i64 y) (hS := hSd) (h := ?_)
            try simp only [Act.put, List.getElem_toArray, List.getElem_cons_succ, List.getElem_cons_zero, List.setIfInBounds_toArray, List.set_cons_zero, List.set_cons_succ]
            refine wpAnyH_two 1 5 (by kernel_rfl) ?_ ?_
            · refine wpOp_val _ _ rfl (by kernel_rfl) (exec_loadS _ _ _ _ rfl W.heap.size _ _ _ adv K cv (by kernel_rfl) (blko HEv.out.box hbd)) ?_
              refine ⟨hSd, ?_⟩
              try simp only [Act.put, List.getElem_toArray, List.getElem_cons_succ, List.getElem_cons_zero, List.setIfInBounds_toArray, List.set_cons_zero, List.set_cons_succ]
              refine wpAnyH_one 5 (by kernel_rfl) ?_
              refine wpOp_val _ _ rfl (by kernel_rfl) (exec_boxN _ _ _ _ rfl y (by kernel_rfl)) ?_
              have hal : Below Wd.heap.size Wd (Wd.alloc (.cells #[.int .i64 y] 3)) := (Below.refl _ _).alloc (Nat.le_refl _) _
              have hxa := heap_alloc_new Wd (.cells #[.int .i64 y] 3)
              have hbV := hbd.trans (hal.mono hbd.size)
              obtain ⟨V, hVe⟩ : ∃ V, Wd.alloc (.cells #[.int .i64 y] 3) = V := ⟨_, rfl⟩
              rw [hVe] at hal hxa hbV
              rw [hVe]
              clear hVe
              have hSV : (fun u => u.cell? ⟨gs, I, none⟩ = some (.int .i64 y)) V := (hbV.cell (cell_lt z1)).trans z1
              refine ⟨hSV, ?_⟩
              try simp only [Act.put, List.getElem_toArray, List.getElem_cons_succ, List.getElem_cons_zero, List.setIfInBounds_toArray, List.set_cons_zero, List.set_cons_succ]
              refine wpAnyH_one 6 (by kernel_rfl) ?_
              refine wpOp_push1 (W0 := Wd) rfl (by kernel_rfl) _ _ rfl (w5.heap.size + 2) (.slice adv K cv) (evk s (srtZ zs) k) (by kernel_rfl) (by rw [evk_len]; exact HRow.out hbV) Wd.heap.size y (by kernel_rfl) hxa (by rw [evk_len]; omega) (Nat.le_trans hszx hbV.size) ?_
              intro g7 c7 V2 N7 hN7 ho7 hgr7
              have hst := Ev.step HEv.out (Nat.le_refl _) (by omega) hszx hbV hgr7 hN7.out ho7
              have hSV2 : (fun u => u.cell? ⟨gs, I, none⟩ = some (.int .i64 y)) V2 := (hgr7.cell_of hSV (fun e => by have := own_block (HRow.out hbV) gs e.symm; omega))
              refine ⟨hSV2, ?_⟩
              try simp only [Act.put, List.getElem_toArray, List.getElem_cons_succ, List.getElem_cons_zero, List.setIfInBounds_toArray, List.set_cons_zero, List.set_cons_succ]
              refine tkX 7 (hS := hSV2) (h := ?_)
              try simp only [Act.put, List.getElem_toArray, List.getElem_cons_succ, List.getElem_cons_zero, List.setIfInBounds_toArray, List.set_cons_zero, List.set_cons_succ]
              refine wpAnyH_one 8 (by kernel_rfl) ?_
              refine wpOp_skip _ rfl (by kernel_rfl) (exec_storeS V2 _ _ _ _ rfl W.heap.size _ _ _ _ (some ⟨g7, 0, none⟩) N7 c7 (by kernel_rfl) (by kernel_rfl) hst.1) ?_
              refine ⟨by
                show (V2.setCell ⟨W.heap.size, 3, none⟩ _).cell? ⟨gs, I, none⟩ = _
                rw [World.cell?_of_block (heap_set_other _ _ _ _ _ (show gs ≠ W.heap.size by omega))]
                exact hSV2, ?_⟩
              try simp only [Act.put, List.getElem_toArray, List.getElem_cons_succ, List.getElem_cons_zero, List.setIfInBounds_toArray, List.set_cons_zero, List.set_cons_succ]
              refine wpAnyH_done (by kernel_rfl) ?_ _
              have hkeep : ∀ b, b < Wx.heap.size → b ≠ W.heap.size → (∀ x, (Value.slice adv K cv).ownBlock = some x → x ≠ b) → (V2.setCell ⟨W.heap.size, 3, none⟩ (.slice (some ⟨g7, 0, none⟩) N7 c7)).heap[b]? = Wx.heap[b]? := fun b hb h1 h2 => by
                rw [heap_set_other _ _ _ _ _ h1, hgr7.block b (Nat.lt_of_lt_of_le hb hbV.size) (fun e => h2 b e.symm rfl)]
                exact hbV.block b hb
              have hnr : ∀ x, (Value.slice adv K cv).ownBlock = some x → w5.heap.size + 2 ≤ x := fun x hx => (own_blk HEv.out.row hx).1
              refine ⟨rfl, ⟨⟨_, by rw [evk_succ, HY.out]; exact hst.2⟩, ?_, ?_, ?_, ?_⟩, ?_, ?_⟩
              · rw [hkeep _ (by omega) (by omega) (fun x hx => by have := hnr x hx; omega)]; exact HCk.out.bs
              · rw [hkeep _ (by omega) (by omega) (fun x hx => by have := hnr x hx; omega)]; exact HCk.out.bn
              · exact own_congr HCk.out.row (fun b hb => hkeep b (by have := Hvl.out b hb; omega) (by have := (own_blk HCk.out.row hb).1; omega) (fun x hx => by have := hnr x hx; have := Hvl.out b hb; omega))
              · have := hbV.size; have := hgr7.size; simp [World.setCell]; omega
              · exact hkeep _ (by omega) (by omega) (fun x hx => by have := hnr x hx; omega)
              · exact hkeep _ (by omega) (by omega) (fun x hx => by have := hnr x hx; omega)
            · refine wpOp_val _ _ rfl (by kernel_rfl) (exec_boxN _ _ _ _ rfl y (by kernel_rfl)) ?_
              have hal : Below Wd.heap.size Wd (Wd.alloc (.cells #[.int .i64 y] 3)) := (Below.refl _ _).alloc (Nat.le_refl _) _
              have hxa := heap_alloc_new Wd (.cells #[.int .i64 y] 3)
              have hbV := hbd.trans (hal.mono hbd.size)
              obtain ⟨V, hVe⟩ : ∃ V, Wd.alloc (.cells #[.int .i64 y] 3) = V := ⟨_, rfl⟩
              rw [hVe] at hal hxa hbV
              rw [hVe]
              clear hVe
              have hSV : (fun u => u.cell? ⟨gs, I, none⟩ = some (.int .i64 y)) V := (hbV.cell (cell_lt z1)).trans z1
              refine ⟨hSV, ?_⟩
              try simp only [Act.put, List.getElem_toArray, List.getElem_cons_succ, List.getElem_cons_zero, List.setIfInBounds_toArray, List.set_cons_zero, List.set_cons_succ]
              refine wpAnyH_one 1 (by kernel_rfl) ?_
              refine wpOp_val _ _ rfl (by kernel_rfl) (exec_loadS _ _ _ _ rfl W.heap.size _ _ _ adv K cv (by kernel_rfl) (blko HEv.out.box hbV)) ?_
              refine ⟨hSV, ?_⟩
              try simp only [Act.put, List.getElem_toArray, List.getElem_cons_succ, List.getElem_cons_zero, List.setIfInBounds_toArray, List.set_cons_zero, List.set_cons_succ]
              refine wpAnyH_one 6 (by kernel_rfl) ?_
              refine wpOp_push1 (W0 := Wd) rfl (by kernel_rfl) _ _ rfl (w5.heap.size + 2) (.slice adv K cv) (evk s (srtZ zs) k) (by kernel_rfl) (by rw [evk_len]; exact HRow.out hbV) Wd.heap.size y (by kernel_rfl) hxa (by rw [evk_len]; omega) (Nat.le_trans hszx hbV.size) ?_
              intro g7 c7 V2 N7 hN7 ho7 hgr7
              have hst := Ev.step HEv.out (Nat.le_refl _) (by omega) hszx hbV hgr7 hN7.out ho7
              have hSV2 : (fun u => u.cell? ⟨gs, I, none⟩ = some (.int .i64 y)) V2 := (hgr7.cell_of hSV (fun e => by have := own_block (HRow.out hbV) gs e.symm; omega))
              refine ⟨hSV2, ?_⟩
              try simp only [Act.put, List.getElem_toArray, List.getElem_cons_succ, List.getElem_cons_zero, List.setIfInBounds_toArray, List.set_cons_zero, List.set_cons_succ]
              refine tkX 7 (hS := hSV2) (h := ?_)
              try simp only [Act.put, List.getElem_toArray, List.getElem_cons_succ, List.getElem_cons_zero, List.setIfInBounds_toArray, List.set_cons_zero, List.set_cons_succ]
              refine wpAnyH_one 8 (by kernel_rfl) ?_
              refine wpOp_skip _ rfl (by kernel_rfl) (exec_storeS V2 _ _ _ _ rfl W.heap.size _ _ _ _ (some ⟨g7, 0, none⟩) N7 c7 (by kernel_rfl) (by kernel_rfl) hst.1) ?_
              refine ⟨by
                show (V2.setCell ⟨W.heap.size, 3, none⟩ _).cell? ⟨gs, I, none⟩ = _
                rw [World.cell?_of_block (heap_set_other _ _ _ _ _ (show gs ≠ W.heap.size by omega))]
                exact hSV2, ?_⟩
              try simp only [Act.put, List.getElem_toArray, List.getElem_cons_succ, List.getElem_cons_zero, List.setIfInBounds_toArray, List.set_cons_zero, List.set_cons_succ]
              refine wpAnyH_done (by kernel_rfl) ?_ _
              have hkeep : ∀ b, b < Wx.heap.size → b ≠ W.heap.size → (∀ x, (Value.slice adv K cv).ownBlock = some x → x ≠ b) → (V2.setCell ⟨W.heap.size, 3, none⟩ (.slice (some ⟨g7, 0, none⟩) N7 c7)).heap[b]? = Wx.heap[b]? := fun b hb h1 h2 => by
                rw [heap_set_other _ _ _ _ _ h1, hgr7.block b (Nat.lt_of_lt_of_le hb hbV.size) (fun e => h2 b e.symm rfl)]
                exact hbV.block b hb
              have hnr : ∀ x, (Value.slice adv K cv).ownBlock = some x → w5.heap.size + 2 ≤ x := fun x hx => (own_blk HEv.out.row hx).1
              refine ⟨rfl, ⟨⟨_, by rw [evk_succ, HY.out]; exact hst.2⟩, ?_, ?_, ?_, ?_⟩, ?_, ?_⟩
              · rw [hkeep _ (by omega) (by omega) (fun x hx => by have := hnr x hx; omega)]; exact HCk.out.bs
              · rw [hkeep _ (by omega) (by omega) (fun x hx => by have := hnr x hx; omega)]; exact HCk.out.bn
              · exact own_congr HCk.out.row (fun b hb => hkeep b (by have := Hvl.out b hb; omega) (by have := (own_blk HCk.out.row hb).1; omega) (fun x hx => by have := hnr x hx; have := Hvl.out b hb; omega))
              · have := hbV.size; have := hgr7.size; simp [World.setCell]; omega
              · exact hkeep _ (by omega) (by omega) (fun x hx => by have := hnr x hx; omega)
              · exact hkeep _ (by omega) (by omega) (fun x hx => by have := hnr x hx; omega)
        case hdone =>
          intro Wx hI hdf
          dsimp only at hI
          obtain ⟨v, hev⟩ := hI.ev
          obtain ⟨adv, cv, rfl⟩ := hev.sl
          have HEv := hidd hev
          rw [evk_len, HK0.out] at HEv
          have HKr2 : Hid (Wx.heap[w.heap.size]? = some (.cells #[.int .i64 0, .int .i64 0, .int .i64 0, .slice none 0 0] 27)) := (hev.bel.block w.heap.size hW0w).trans HKr.out
          have HBr : Hid (Below w.heap.size w Wx) := HBa.out.trans (hev.bel.mono HBa.out.size)
          have Hdf := hidd hdf
          have r0 := blkc HKr2.out 0
          have r1 := blkc HKr2.out 1
          have r2 := blkc HKr2.out 2
          have r3 := blkc HKr2.out 3
          have f0 := blkf HKr2.out 0
          have f1 := blkf HKr2.out 1
          have f2 := blkf HKr2.out 2
          have f3 := blkf HKr2.out 3
          have x0 : Wx.cell? ⟨W.heap.size, 0, none⟩ = some (.int .i64 (s : Int)) := blkc HEv.out.box 0
          have x1 : Wx.cell? ⟨W.heap.size, 1, none⟩ = some (.int .i64 1) := blkc HEv.out.box 1
          have x2 : Wx.cell? ⟨W.heap.size, 2, none⟩ = some (.int .i64 (n : Int)) := blkc HEv.out.box 2
          have x3 : Wx.cell? ⟨W.heap.size, 3, none⟩ = some (.slice adv K0 cv) := blkc HEv.out.box 3
          have hszx := hI.sz
          clear hev hI hdf
          have HR := hidd (ret4 (.int .i64 (s : Int)) (.int .i64 1) (.int .i64 (n : Int)) (.slice adv K0 cv) HBr.out (Nat.le_refl _) HKr2.out)
          have HRw : Hid (((((Wx.setCell ⟨w.heap.size, 0, none⟩ (.int .i64 (s : Int))).setCell ⟨w.heap.size, 1, none⟩ (.int .i64 1)).setCell ⟨w.heap.size, 2, none⟩ (.int .i64 (n : Int))).setCell ⟨w.heap.size, 3, none⟩ (.slice adv K0 cv)).ownsRow w.heap.size 3 1 (.slice adv K0 cv) K0 (zI (evk s (srtZ zs) K0))) := by
            have hrow := HEv.out.row
            rw [evk_len] at hrow
            refine own_congr (own_mono hrow (by omega)) (fun b hb => set4o _ _ _ _ (fun e => ?_))
            subst e
            obtain ⟨_, cur, h5⟩ := own_blk hrow hb
            exact blk_ne HKr2.out h5 (by decide) rfl
          have Hdf2 : Hid (((((Wx.setCell ⟨w.heap.size, 0, none⟩ (.int .i64 (s : Int))).setCell ⟨w.heap.size, 1, none⟩ (.int .i64 1)).setCell ⟨w.heap.size, 2, none⟩ (.int .i64 (n : Int))).setCell ⟨w.heap.size, 3, none⟩ (.slice adv K0 cv)).heap[w5.heap.size]? = some (.deferred (some []))) := (set4o _ _ _ _ (by omega)).trans Hdf.out
          go_wp2_with fail
          generalize ((((Wx.setCell ⟨w.heap.size, 0, none⟩ (.int .i64 (s : Int))).setCell ⟨w.heap.size, 1, none⟩ (.int .i64 1)).setCell ⟨w.heap.size, 2, none⟩ (.int .i64 (n : Int))).setCell ⟨w.heap.size, 3, none⟩ (.slice adv K0 cv)) = Wf at *
          rw [HJ.out]
          refine leaves_marks (B := w.heap.size) [w5.heap.size] _ _ ⟨by simp, fun D hD => ?_⟩ (AllBut.refl _) (Below.refl _ _) (fun w' hab hbw => ?_)
          · have : D = w5.heap.size := by simpa using hD
            subst this
            exact ⟨by omega, Hdf2.out⟩
          · have hq := hab.block w.heap.size (by rw [HR.out.2]; intro e; cases e)
            have hq2 := hq.trans HR.out.2
            have q0 := blkc hq2 0
            have q1 := blkc hq2 1
            have q2 := blkc hq2 2
            have q3 := blkc hq2 3
            refine ⟨.tuple #[.agg #[.int .i64 (s : Int), .int .i64 1, .int .i64 (n : Int), .slice adv K0 cv], .int .i64 0], (by simp [results, Try.results9, go_sem, q0, q1, q2, q3]), ?_⟩
            refine ⟨_, rfl, ?_, HR.out.1.trans hbw⟩
            show World.ownsRow _ _ _ _ _ (evk s (srtZ zs) (cntE n s)).length (zI (evk s (srtZ zs) (cntE n s)))
            rw [evk_len, HK0.out]
            refine own_congr HRw.out (fun b hb => ?_)
            obtain ⟨_, cur, hc⟩ := own_blk HRw.out hb
            exact hab.block b (by rw [hc]; intro e; cases e)
  · have HJ : Hid (J = ((0, 0, 0, []), 12)) := by show _ = _; rw [← HJJ.out]; exact ofZ_range (by rw [HN.out]; exact hlong) (fun h => hR h.1)
    go_enter Try.func9, Try.ntmps9
    go_upto_region 1 with fail
    try rw [hW]
    clear hW
    go_wp2_with fail
    refine (within_f t _ _ _ hR).mono ?_
    rintro e w1 ⟨rfl, hw1⟩
    obtain rfl := hw1.symm
    clear hw1
    go_upto_region 4 with fail
    have x0 := blkc HKr.out 0
    have x1 := blkc HKr.out 1
    have x2 := blkc HKr.out 2
    have x3 := blkc HKr.out 3
    have f0 := blkf HKr.out 0
    have f1 := blkf HKr.out 1
    have f2 := blkf HKr.out 2
    have f3 := blkf HKr.out 3
    have HR := hidd (ret4 (.int .i64 0) (.int .i64 0) (.int .i64 0) (.slice none 0 0) HBa.out (Nat.le_refl _) HKr.out)
    have q0 := blkc HR.out.2 0
    have q1 := blkc HR.out.2 1
    have q2 := blkc HR.out.2 2
    have q3 := blkc HR.out.2 3
    go_wp2_with fail
    refine bodyPost_ret (v := .tuple #[.agg #[.int .i64 0, .int .i64 0, .int .i64 0, .slice none 0 0], .int .i64 12]) (by simp [results, Try.results9, go_sem, q0, q1, q2, q3]) rfl ?_
    rw [HJ.out]
    exact ⟨_, rfl, World.ownsRow_nil _ _ _ _, HR.out.1⟩
end Go.Proofs.Ytboocdiilbcdcaa
