import Derived.Test.YtibomnmgiimejadPkX
namespace Go.Proofs.Ytibomnmgiimejad
open Go Go.RowKit
set_option linter.unusedVariables false
set_option linter.unusedSimpArgs false

set_option maxHeartbeats 4000000 in
set_option maxRecDepth 100000 in
theorem leadingBlock_good (b off cap n : Nat) (bs : List UInt8) (w : World) (hn : n ≤ 128) (hpos : 0 < bs.length) (hle : bs.length ≤ 1048576) (hcap : bs.length ≤ cap) (hc : BytesAt w b off bs) (h62 : (bs.getD 0 0).toNat ≤ 62) (hsz : 1 + sizeL n (bs.getD 0 0).toNat ≤ bs.length) (hcap1 : cap ≠ 1) :
    Calls Try.prog 71 #[.slice (some ⟨b, off, none⟩) bs.length cap, .int .i64 (n : Int)] w fun e w' => Below w.heap.size w w' ∧ ∃ X s, BlockOut bs n X s ∧ e = .returned (.tuple #[.agg (uArr X), .int .i64 s]) := by
  have Hc := hidd hc
  have g0 := hc 0 hpos
  rw [Nat.add_zero] at g0
  have hlz : ¬ (bs.length : Int) = 0 := by omega
  have hlz2 : ((bs.length : Int) == 0) = false := beq_false_of_ne hlz
  have Hbs : Hid (∃ t, bs = bs.getD 0 0 :: t ∧ bs.drop 1 = t) := by
    cases bs with
    | nil => simp at hpos
    | cons x t => exact ⟨t, by simp, rfl⟩
  generalize bs.getD 0 0 = c0 at *
  have g1 := (((Below.refl w.heap.size w).alloc (Nat.le_refl _) (.cells (uArr zeros) 112)).cell (p := ⟨b, off, none⟩) (cell_lt g0)).trans g0
  have hb : b < w.heap.size := cell_lt g0
  clear hc
  have h62z : ¬ (62 : Int) < (c0.toNat : Int) := by omega
  have hsl := sizeL_le n c0.toNat hn h62
  have HW := hidd (bytesFor_any n c0.toNat)
  have Hout : Hid (∀ t, bs = c0 :: t → readBlock bs n = if (widthL (takeN n c0.toNat (leNum (t.take (sizeL n c0.toNat)))) = c0.toNat ∧ numL c0.toNat (takeN n c0.toNat (leNum (t.take (sizeL n c0.toNat)))) = leNum (t.take (sizeL n c0.toNat))) then some (takeN n c0.toNat (leNum (t.take (sizeL n c0.toNat))), 1 + sizeL n c0.toNat) else none) := by
    intro t ht
    have htl : sizeL n c0.toNat ≤ t.length := by rw [ht, List.length_cons] at hsz; omega
    have hba := block_again c0 t n h62 htl
    have hraw : rawBlock bs n = some (takeN n c0.toNat (leNum (t.take (sizeL n c0.toNat))), 1 + sizeL n c0.toNat) := by
      rw [ht, rawBlock, if_neg (by omega), if_neg (by omega)]
    rw [readBlock, hraw]
    simp only
    by_cases hg : widthL (takeN n c0.toNat (leNum (t.take (sizeL n c0.toNat)))) = c0.toNat ∧ numL c0.toNat (takeN n c0.toNat (leNum (t.take (sizeL n c0.toNat)))) = leNum (t.take (sizeL n c0.toNat))
    · rw [if_pos hg, if_pos (by rw [ht]; exact hba.1 hg)]
    · rw [if_neg hg, if_neg (fun h => hg (hba.2 (by rw [← ht]; exact h)))]
  generalize hwidth : c0.toNat = width at *
  generalize hszd : sizeL n width = sz at *
  have hszz : ¬ (bs.length : Int) < 1 + (sz : Int) := by omega
  go_enter Try.func71, Try.ntmps71
  go_wp2_with (first | (go_at_call 98; refine (HW.out _ (by omega) (by omega)).mono ?_; rintro e w' ⟨rfl, hw'⟩; obtain rfl := hw'.symm; clear hw') | (refine wpB_alloc rfl rfl ?_))
  go_loopw [39] (fun i wr => ∃ k : Nat, k ≤ sz ∧ i = .int .i64 k ∧ Blk wr w.heap.size (w.heap.size + 1) (wordsL (leNum ((bs.drop 1).take k))) ∧ Blk wr w.heap.size w.heap.size zeros ∧ Below w.heap.size w wr) (fun i _ => sz - (intOf i).toNat)
  case atStart =>
    refine ⟨0, by omega, rfl, ?_, (Blk.new (Nat.le_refl _) zeros_length).alloc _, ((Below.refl _ _).alloc (Nat.le_refl _) _).alloc (by simp) _⟩
    rw [show leNum ((bs.drop 1).take 0) = 0 from rfl, wordsL_zero]
    have := Blk.new (w := w.alloc (.cells (uArr zeros) 112)) (base := w.heap.size) (by simp) zeros_length
    simpa using this
  case round =>
    obtain ⟨k, hk, rfl, hB, hR, hbel⟩ := hrel
    have HB := hidd hB
    have HR := hidd hR
    have Hbel := hidd hbel
    clear hB hR hbel
    by_cases hlt : k < sz
    · have q0 := Hc.out (1 + k) (by omega)
      have q1 := (Hbel.out.cell (p := ⟨b, off + (1 + k), none⟩) hb).trans q0
      rw [← Nat.add_assoc] at q1
      have hcc : (bs.getD (1 + k) 0).toNat < 256 := UInt8.toNat_lt _
      have hdl : (bs.drop 1).length = bs.length - 1 := List.length_drop
      have Hle := hidd (leNum_take (bs.drop 1) k (by omega))
      have e1 : (bs.drop 1).getD k 0 = bs.getD (1 + k) 0 := by rw [List.getD_eq_getElem?_getD, List.getD_eq_getElem?_getD, List.getElem?_drop]
      rw [e1] at Hle
      have Hlt := hidd (leNum_take_lt (bs.drop 1) k)
      generalize bs.getD (1 + k) 0 = cb at *
      generalize leNum ((bs.drop 1).take k) = N at *
      clear q0 e1
      obtain ⟨wd, hwd⟩ : ∃ wd, k / 8 = wd := ⟨_, rfl⟩
      have hwd1 : wd ≤ 124 := by omega
      have hq1 : (k : Int) / 8 = (wd : Int) := by omega
      obtain ⟨sh, hsh⟩ : ∃ sh, k % 8 * 8 = sh := ⟨_, rfl⟩
      have hsh1 : sh < 64 := by omega
      have hq2 : (k : Int) % 8 * 8 = (sh : Int) := by omega
      have HS := hidd (wordsL_byte N cb.toNat k Hlt.out hcc (by omega))
      rw [hwd, hsh] at HS
      have c1 := HB.out.cell wd (by omega)
      rw [wordsL_at N wd (by omega)] at c1
      have f1 := HB.out.frozen wd
      have hA1 := wordAt_lt N wd
      generalize hA : wordAt N wd = A at *
      obtain ⟨S, hS, HSS⟩ : ∃ S : Nat, IntKind.u64.wrap ((cb.toNat : Int) * 2 ^ sh) = (S : Int) ∧ Hid (cb.toNat * 2 ^ sh % 18446744073709551616 = S) := by
        refine ⟨_, ?_, rfl⟩
        rw [IntKind.wrap_u64]
        have : (cb.toNat : Int) * 2 ^ sh = ((cb.toNat * 2 ^ sh : Nat) : Int) := by rw [Int.natCast_mul, Int.natCast_pow]; rfl
        rw [this]; omega
      have hS64 : S < 18446744073709551616 := by rw [← HSS.out]; exact Nat.mod_lt _ (by omega)
      obtain ⟨R1, hR1, HR1⟩ : ∃ R1 : Nat, bits .or .u64 (A : Int) (S : Int) = (R1 : Int) ∧ Hid (A ||| S = R1) := ⟨_, u64_or_nat A S hA1 hS64, rfl⟩
      go_wp2
      go_region
      go_wp2
      go_roundw
      case rel =>
        have B1 := HB.out.set wd R1
        refine ⟨k + 1, by omega, by go_num, ?_, (HR.out.kept B1.2 (by simp)).drew 1, below_drewN (Hbel.out.setCell (p := ⟨w.heap.size + 1, wd, none⟩) (by simp) _) 1⟩
        have B3 := B1.1.drew 1
        rw [← HR1.out, ← HSS.out, HS.out, ← Hle.out] at B3
        rw [← HR1.out, ← HSS.out]
        exact B3
      case measure => simp [intOf]; omega
    · obtain rfl : k = sz := by omega
      obtain ⟨t, ht, htd⟩ := Hbs.out
      have Hrd := hidd (Hout.out t ht)
      rw [htd] at HB
      clear hlt Hbs Hout ht htd
      have HM := hidd (leNum_take_lt t k)
      generalize leNum (t.take k) = M at *
      have hvl : (takeN n width M).length = n := takeN_length n width M
      have hv62 := takeN_62 n width M h62
      have Hvlt := hidd (takeN_lt n width M)
      have Htk := hidd (taken_any M n width)
      generalize takeN n width M = vs at *
      have hwl := wordsL_length M
      have hpl := padL_length vs (by omega)
      generalize hws : wordsL M = ws at *
      have Hws := hidd hws
      clear hws
      generalize hps : padL vs = ps at *
      have Hps := hidd hps
      clear hps
      go_wp2_with (first | (refine wpB_load rfl _ rfl w.heap.size (w.heap.size + 1) ws rfl HB.out ?_))
      refine (Htk.out _ hn h62).mono ?_
      rintro e w3 ⟨rfl, hb3⟩
      have HB3 := hidd (HB.out.below hb3)
      have HR3 := hidd (HR.out.below hb3)
      have Hbel3 : Hid (Below w.heap.size w w3) := Hbel.out.trans (hb3.mono Hbel.out.size)
      have hzz : wr.heap.size ≤ w3.heap.size := hb3.size
      have hzw : w.heap.size + 1 < w3.heap.size := by have := HB3.out.lt; omega
      clear HB HR Hbel hb3
      go_wp2_with (first | (refine wpB_alloc rfl rfl ?_) | (refine wpB_store rfl _ _ rfl w.heap.size w3.heap.size zeros ps rfl rfl hpl (Blk.new (by omega) zeros_length) ?_; intro W4 hB4 hg4))
      have HN4 := hidd hB4
      have HB4 := hidd ((HB3.out.alloc (.cells (uArr zeros) 112)).kept hg4 (by simp; omega))
      have HR4 := hidd ((HR3.out.alloc (.cells (uArr zeros) 112)).kept hg4 (by simp; omega))
      have Hbel4 : Hid (Below w.heap.size w W4) := (Hbel3.out.alloc (by omega) _).grown hg4 (by simp; omega) (fun j e => by cases e; omega)
      clear hB4 hg4 HB3 HR3 Hbel3
      have hwp : widthL ps = widthL vs := by rw [← Hps.out]; exact widthL_pad vs
      have hnp : numL width ps = numL width vs := by rw [← Hps.out]; exact numL_pad width vs
      have Hpu : Hid (∀ v ∈ ps, v < 18446744073709551616) := by rw [← Hps.out]; exact padL_mem vs _ (by omega) (fun v hv => Nat.lt_trans (hv62 v hv) (by omega))
      have Hpw : Hid (∀ v ∈ ps, v < 2 ^ width) := by rw [← Hps.out]; exact padL_mem vs _ (Nat.pow_pos (by omega)) Hvlt.out
      have HS1 : Hid (∀ m, Blk (W4.drewN m) w.heap.size (w.heap.size + 1) ws ∧ Blk (W4.drewN m) w.heap.size w3.heap.size ps ∧ Blk (W4.drewN m) w.heap.size w.heap.size zeros ∧ Below w.heap.size w (W4.drewN m)) := fun m => ⟨HB4.out.drew m, HN4.out.drew m, HR4.out.drew m, below_drewN Hbel4.out m⟩
      clear HB4 HN4 HR4 Hbel4
      refine wp_region_held (S := fun W' => Blk W' w.heap.size (w.heap.size + 1) ws ∧ Blk W' w.heap.size w3.heap.size ps ∧ Blk W' w.heap.size w.heap.size zeros ∧ Below w.heap.size w W') (by kernel_rfl) ?_
      try simp only [Act.put, List.getElem_toArray, List.getElem_cons_succ, List.getElem_cons_zero, List.setIfInBounds_toArray, List.set_cons_zero, List.set_cons_succ]
      refine wpAnyH_take (i := 0) (v := .agg (uArr ps)) rfl (by kernel_rfl) (by kernel_rfl) (by kernel_rfl) (fun _ _ _ h => h) (Or.inl ⟨by kernel_rfl, fun W hW => exec_load W _ _ _ rfl _ _ ps (by kernel_rfl) hW.2.1⟩) (HS1.out 1) ?_
      try simp only [Act.put, List.getElem_toArray, List.getElem_cons_succ, List.getElem_cons_zero, List.setIfInBounds_toArray, List.set_cons_zero, List.set_cons_succ]
      refine wpAnyH_take (i := 2) (v := .int .i64 (width : Int)) rfl (by kernel_rfl) (by kernel_rfl) (by kernel_rfl) (fun _ _ _ h => h) (Or.inl ⟨by kernel_rfl, fun W hW => exec_move W _ _ _ rfl _ (by kernel_rfl)⟩) (HS1.out 1) ?_
      try simp only [Act.put, List.getElem_toArray, List.getElem_cons_succ, List.getElem_cons_zero, List.setIfInBounds_toArray, List.set_cons_zero, List.set_cons_succ]
      refine wpAnyH_one 1 (by kernel_rfl) ?_
      refine wpOp_call 96 #[.agg (uArr ps)] rfl (by kernel_rfl) (exec_call1 _ _ _ _ _ _ rfl _ (by kernel_rfl) (Try.call96 _ _)) ?_
      refine (width_any ps _ hpl Hpu.out).mono ?_
      rintro e w5 ⟨rfl, hb5⟩
      have HS5 : Hid (Blk w5 w.heap.size (w.heap.size + 1) ws ∧ Blk w5 w.heap.size w3.heap.size ps ∧ Blk w5 w.heap.size w.heap.size zeros ∧ Below w.heap.size w w5) := ⟨(HS1.out 1).1.below hb5, (HS1.out 1).2.1.below hb5, (HS1.out 1).2.2.1.below hb5, (HS1.out 1).2.2.2.trans (hb5.mono (HS1.out 1).2.2.2.size)⟩
      clear hb5 HS1
      refine ⟨HS5.out, ?_⟩
      try simp only [Act.put, List.getElem_toArray, List.getElem_cons_succ, List.getElem_cons_zero, List.setIfInBounds_toArray, List.set_cons_zero, List.set_cons_succ]
      by_cases hW0 : widthL ps = width
      · refine wpAnyH_take (i := 3) (v := .bool false) rfl (by kernel_rfl) (by kernel_rfl) (by kernel_rfl) (fun _ _ _ h => h) (Or.inl ⟨by kernel_rfl, fun W hW => by rw [exec_neqInt W _ _ _ _ _ _ rfl ((widthL ps : Nat) : Int) (width : Int) (by kernel_rfl) (by kernel_rfl)]; simp [hW0]⟩) HS5.out ?_
        try simp only [Act.put, List.getElem_toArray, List.getElem_cons_succ, List.getElem_cons_zero, List.setIfInBounds_toArray, List.set_cons_zero, List.set_cons_succ]
        refine wpAnyH_take (i := 4) (v := .bool false) rfl (by kernel_rfl) (by kernel_rfl) (by kernel_rfl) (fun _ _ _ h => h) (Or.inl ⟨by kernel_rfl, fun W hW => exec_move W _ _ _ rfl _ (by kernel_rfl)⟩) HS5.out ?_
        try simp only [Act.put, List.getElem_toArray, List.getElem_cons_succ, List.getElem_cons_zero, List.setIfInBounds_toArray, List.set_cons_zero, List.set_cons_succ]
        refine wpAnyH_take (i := 5) (v := .agg (uArr ps)) rfl (by kernel_rfl) (by kernel_rfl) (by kernel_rfl) (fun _ _ _ h => h) (Or.inl ⟨by kernel_rfl, fun W hW => exec_load W _ _ _ rfl _ _ ps (by kernel_rfl) hW.2.1⟩) HS5.out ?_
        try simp only [Act.put, List.getElem_toArray, List.getElem_cons_succ, List.getElem_cons_zero, List.setIfInBounds_toArray, List.set_cons_zero, List.set_cons_succ]
        refine wpAnyH_take (i := 6) (v := .int .i64 (width : Int)) rfl (by kernel_rfl) (by kernel_rfl) (by kernel_rfl) (fun _ _ _ h => h) (Or.inl ⟨by kernel_rfl, fun W hW => exec_move W _ _ _ rfl _ (by kernel_rfl)⟩) HS5.out ?_
        try simp only [Act.put, List.getElem_toArray, List.getElem_cons_succ, List.getElem_cons_zero, List.setIfInBounds_toArray, List.set_cons_zero, List.set_cons_succ]
        refine wpAnyH_take (i := 8) (v := .agg (uArr ws)) rfl (by kernel_rfl) (by kernel_rfl) (by kernel_rfl) (fun _ _ _ h => h) (Or.inl ⟨by kernel_rfl, fun W hW => exec_load W _ _ _ rfl _ _ ws (by kernel_rfl) hW.1⟩) HS5.out ?_
        try simp only [Act.put, List.getElem_toArray, List.getElem_cons_succ, List.getElem_cons_zero, List.setIfInBounds_toArray, List.set_cons_zero, List.set_cons_succ]
        refine wpAnyH_one 7 (by kernel_rfl) ?_
        refine wpOp_call 97 #[.agg (uArr ps), .int .i64 (width : Int)] rfl (by kernel_rfl) (exec_call2 _ _ _ _ _ _ _ _ rfl _ _ (by kernel_rfl) (by kernel_rfl) (Try.call97 _ _)) ?_
        refine (laid_any ps width _ hpl h62 Hpw.out).mono ?_
        rintro e w6 ⟨rfl, hb6⟩
        have HS6 : Hid (Blk w6 w.heap.size (w.heap.size + 1) ws ∧ Blk w6 w.heap.size w3.heap.size ps ∧ Blk w6 w.heap.size w.heap.size zeros ∧ Below w.heap.size w w6) := ⟨HS5.out.1.below hb6, HS5.out.2.1.below hb6, HS5.out.2.2.1.below hb6, HS5.out.2.2.2.trans (hb6.mono HS5.out.2.2.2.size)⟩
        clear hb6 HS5
        refine ⟨HS6.out, ?_⟩
        try simp only [Act.put, List.getElem_toArray, List.getElem_cons_succ, List.getElem_cons_zero, List.setIfInBounds_toArray, List.set_cons_zero, List.set_cons_succ]
        by_cases hM0 : wordsL (numL width ps) = ws
        · have hdec : decide (wordsL (numL width ps) = ws) = true := decide_eq_true hM0
          have Hyes : Hid (readBlock bs n = some (vs, 1 + k)) := by
            show _ = _
            rw [Hrd.out, if_pos]
            refine ⟨by rw [← hwp]; exact hW0, ?_⟩
            exact words_inj 128 _ _ (width * vs.length) (8 * k) rfl (numL_lt width vs Hvlt.out) HM.out (by rw [hvl]; exact Nat.le_trans (Nat.mul_le_mul h62 hn) (by omega)) (by omega) (by rw [← hnp, hM0, Hws.out])
          refine wpAnyH_take (i := 9) (v := .bool false) rfl (by kernel_rfl) (by kernel_rfl) (by kernel_rfl) (fun _ _ _ h => h) (Or.inl ⟨by kernel_rfl, fun W hW => by rw [exec_neq W _ _ _ _ _ rfl (wordsL (numL width ps)) ws (wordsL_length _) hwl (by kernel_rfl) (by kernel_rfl), hdec]; rfl⟩) HS6.out ?_
          try simp only [Act.put, List.getElem_toArray, List.getElem_cons_succ, List.getElem_cons_zero, List.setIfInBounds_toArray, List.set_cons_zero, List.set_cons_succ]
          refine wpAnyH_take (i := 10) (v := .bool false) rfl (by kernel_rfl) (by kernel_rfl) (by kernel_rfl) (fun _ _ _ h => h) (Or.inl ⟨by kernel_rfl, fun W hW => exec_pick W _ _ _ _ _ rfl false (by kernel_rfl) _ (by kernel_rfl)⟩) HS6.out ?_
          try simp only [Act.put, List.getElem_toArray, List.getElem_cons_succ, List.getElem_cons_zero, List.setIfInBounds_toArray, List.set_cons_zero, List.set_cons_succ]
          refine wpAnyH_done (by kernel_rfl) ?_ _
          have HS := HS6
          clear HS6 hM0
          go_wp2_with (first | (refine wpB_load rfl _ rfl w.heap.size w3.heap.size ps rfl HS.out.2.1 ?_) | (refine wpB_store rfl _ _ rfl w.heap.size w.heap.size zeros ps rfl rfl hpl HS.out.2.2.1 ?_; intro W7 hB7 hg7))
          have HB7 : Hid (Below w.heap.size w W7) := HS.out.2.2.2.grown hg7 HS.out.2.2.2.size (fun j e => by cases e; exact Nat.le_refl _)
          have hld := blk_load hB7
          refine bodyPost_ret (v := .tuple #[.agg (uArr ps), .int .i64 (1 + (k : Int))]) ?_ rfl ⟨HB7.out, ps, _, ⟨hpl, Or.inr ⟨vs, 1 + k, Hyes.out, Hps.out.symm, by omega⟩⟩, rfl⟩
          rw [results_cell_tmp rfl]
          simp [asAddr, Result.andThen, hld]
        · have hdec : decide (wordsL (numL width ps) = ws) = false := decide_eq_false hM0
          have Hno : Hid (readBlock bs n = none) := by
            show _ = _
            rw [Hrd.out, if_neg]
            rintro ⟨_, h2⟩
            exact hM0 (by rw [hnp, h2, Hws.out])
          refine wpAnyH_take (i := 9) (v := .bool true) rfl (by kernel_rfl) (by kernel_rfl) (by kernel_rfl) (fun _ _ _ h => h) (Or.inl ⟨by kernel_rfl, fun W hW => by rw [exec_neq W _ _ _ _ _ rfl (wordsL (numL width ps)) ws (wordsL_length _) hwl (by kernel_rfl) (by kernel_rfl), hdec]; rfl⟩) HS6.out ?_
          try simp only [Act.put, List.getElem_toArray, List.getElem_cons_succ, List.getElem_cons_zero, List.setIfInBounds_toArray, List.set_cons_zero, List.set_cons_succ]
          refine wpAnyH_take (i := 10) (v := .bool true) rfl (by kernel_rfl) (by kernel_rfl) (by kernel_rfl) (fun _ _ _ h => h) (Or.inl ⟨by kernel_rfl, fun W hW => exec_pick W _ _ _ _ _ rfl false (by kernel_rfl) _ (by kernel_rfl)⟩) HS6.out ?_
          try simp only [Act.put, List.getElem_toArray, List.getElem_cons_succ, List.getElem_cons_zero, List.setIfInBounds_toArray, List.set_cons_zero, List.set_cons_succ]
          refine wpAnyH_done (by kernel_rfl) ?_ _
          have HS := HS6
          clear HS6 hM0
          go_wp2_with (first | (refine wpB_build rfl rfl ?_) | (refine wpB_store rfl _ _ rfl w.heap.size w.heap.size zeros zeros rfl rfl zeros_length HS.out.2.2.1 ?_; intro W7 hB7 hg7))
          have HB7 : Hid (Below w.heap.size w W7) := HS.out.2.2.2.grown hg7 HS.out.2.2.2.size (fun j e => by cases e; exact Nat.le_refl _)
          have hld := blk_load hB7
          refine bodyPost_ret (v := .tuple #[.agg (uArr zeros), .int .i64 0]) ?_ rfl ⟨HB7.out, zeros, 0, ⟨zeros_length, Or.inl ⟨Hno.out, rfl⟩⟩, rfl⟩
          rw [results_cell_tmp rfl]
          simp [asAddr, Result.andThen, hld]
      · have hW1 : (((widthL ps : Nat) : Int) != (width : Int)) = true := by
          have h9 : ¬ ((widthL ps : Nat) : Int) = (width : Int) := by omega
          simp [h9]
        refine wpAnyH_take (i := 3) (v := .bool true) rfl (by kernel_rfl) (by kernel_rfl) (by kernel_rfl) (fun _ _ _ h => h) (Or.inl ⟨by kernel_rfl, fun W hW => by rw [exec_neqInt W _ _ _ _ _ _ rfl ((widthL ps : Nat) : Int) (width : Int) (by kernel_rfl) (by kernel_rfl), hW1]⟩) HS5.out ?_
        try simp only [Act.put, List.getElem_toArray, List.getElem_cons_succ, List.getElem_cons_zero, List.setIfInBounds_toArray, List.set_cons_zero, List.set_cons_succ]
        refine wpAnyH_take (i := 4) (v := .bool true) rfl (by kernel_rfl) (by kernel_rfl) (by kernel_rfl) (fun _ _ _ h => h) (Or.inl ⟨by kernel_rfl, fun W hW => exec_move W _ _ _ rfl _ (by kernel_rfl)⟩) HS5.out ?_
        try simp only [Act.put, List.getElem_toArray, List.getElem_cons_succ, List.getElem_cons_zero, List.setIfInBounds_toArray, List.set_cons_zero, List.set_cons_succ]
        refine wpAnyH_take (i := 5) (v := undef) rfl (by kernel_rfl) (by kernel_rfl) (by kernel_rfl) (fun _ _ _ h => h) (Or.inr ⟨by kernel_rfl, rfl⟩) HS5.out ?_
        try simp only [Act.put, List.getElem_toArray, List.getElem_cons_succ, List.getElem_cons_zero, List.setIfInBounds_toArray, List.set_cons_zero, List.set_cons_succ]
        refine wpAnyH_take (i := 6) (v := undef) rfl (by kernel_rfl) (by kernel_rfl) (by kernel_rfl) (fun _ _ _ h => h) (Or.inr ⟨by kernel_rfl, rfl⟩) HS5.out ?_
        try simp only [Act.put, List.getElem_toArray, List.getElem_cons_succ, List.getElem_cons_zero, List.setIfInBounds_toArray, List.set_cons_zero, List.set_cons_succ]
        refine wpAnyH_take (i := 8) (v := undef) rfl (by kernel_rfl) (by kernel_rfl) (by kernel_rfl) (fun _ _ _ h => h) (Or.inr ⟨by kernel_rfl, rfl⟩) HS5.out ?_
        try simp only [Act.put, List.getElem_toArray, List.getElem_cons_succ, List.getElem_cons_zero, List.setIfInBounds_toArray, List.set_cons_zero, List.set_cons_succ]
        refine wpAnyH_take (i := 7) (v := undef) rfl (by kernel_rfl) (by kernel_rfl) (by kernel_rfl) (fun _ _ _ h => h) (Or.inr ⟨by kernel_rfl, rfl⟩) HS5.out ?_
        try simp only [Act.put, List.getElem_toArray, List.getElem_cons_succ, List.getElem_cons_zero, List.setIfInBounds_toArray, List.set_cons_zero, List.set_cons_succ]
        refine wpAnyH_take (i := 9) (v := undef) rfl (by kernel_rfl) (by kernel_rfl) (by kernel_rfl) (fun _ _ _ h => h) (Or.inr ⟨by kernel_rfl, rfl⟩) HS5.out ?_
        try simp only [Act.put, List.getElem_toArray, List.getElem_cons_succ, List.getElem_cons_zero, List.setIfInBounds_toArray, List.set_cons_zero, List.set_cons_succ]
        refine wpAnyH_take (i := 10) (v := .bool true) rfl (by kernel_rfl) (by kernel_rfl) (by kernel_rfl) (fun _ _ _ h => h) (Or.inl ⟨by kernel_rfl, fun W hW => exec_pick W _ _ _ _ _ rfl true (by kernel_rfl) _ (by kernel_rfl)⟩) HS5.out ?_
        try simp only [Act.put, List.getElem_toArray, List.getElem_cons_succ, List.getElem_cons_zero, List.setIfInBounds_toArray, List.set_cons_zero, List.set_cons_succ]
        refine wpAnyH_done (by kernel_rfl) ?_ _
        have Hno : Hid (readBlock bs n = none) := by
          show _ = _
          rw [Hrd.out, if_neg]
          rintro ⟨h1, _⟩
          exact hW0 (by rw [hwp]; exact h1)
        have HS := HS5
        clear HS5
        go_wp2_with (first | (refine wpB_build rfl rfl ?_) | (refine wpB_store rfl _ _ rfl w.heap.size w.heap.size zeros zeros rfl rfl zeros_length HS.out.2.2.1 ?_; intro W7 hB7 hg7))
        have HB7 : Hid (Below w.heap.size w W7) := HS.out.2.2.2.grown hg7 HS.out.2.2.2.size (fun j e => by cases e; exact Nat.le_refl _)
        have hld := blk_load hB7
        refine bodyPost_ret (v := .tuple #[.agg (uArr zeros), .int .i64 0]) ?_ rfl ⟨HB7.out, zeros, 0, ⟨zeros_length, Or.inl ⟨Hno.out, rfl⟩⟩, rfl⟩
        rw [results_cell_tmp rfl]
        simp [asAddr, Result.andThen, hld]
end Go.Proofs.Ytibomnmgiimejad
