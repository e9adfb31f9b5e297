import Derived.Test.YtefhmbnhhkgifaaRbY
namespace Go.Proofs.Ytefhmbnhhkgifaa
open Go Go.RowKit
set_option linter.unusedVariables false
set_option linter.unusedSimpArgs false
set_option maxRecDepth 100000

theorem rbx_convS (W : World) (ρ : Operand → Value) (o : Oper) (x : Operand) (ho : o.op = .convert 28 9 x) (b n c : Nat) (l : List UInt8) (hl : l.length = n) (hx : ρ x = .slice (some ⟨b, 0, none⟩) n c) (hB : BytesAt W b 0 l) : (execOp ρ o).run Try.prog W = .ok (.value (.string ⟨l.toArray⟩)) W := by
  have h := conv_take (W := W) (a := some ⟨b, 0, none⟩) (n := n) (c := c) (l := l) hl (Or.inr ⟨b, 0, rfl, hB⟩)
  unfold execOp
  simp only [ho, hx, Sem.run_bind, Sem.run_pure, h, Result.andThen_ok]
theorem rbx_move (W : World) (ρ : Operand → Value) (o : Oper) (x : Operand) (ho : o.op = .move x) (v : Value) (hx : ρ x = v) : (execOp ρ o).run Try.prog W = .ok (.value v) W := by
  unfold execOp
  simp only [ho, Sem.run_pure, hx]
set_option maxHeartbeats 4000000 in
theorem implRec_any : RecC 7 := by
  intro kd sq id did a c V w hid hdid hn hT hSz hle h
  obtain ⟨i1, hi1, hy0, hy1, hy2⟩ := info_parts Try.infoByte
  have HV := hidd h
  have HBa := hidd ((Below.refl w.heap.size w).alloc (Nat.le_refl _) (.cells #[.int .i64 kd, .int .i64 sq, .string ⟨id.toArray⟩, .string ⟨did.toArray⟩, .slice a V.length c] 35))
  have HX := hidd (heap_alloc_new w (.cells #[.int .i64 kd, .int .i64 sq, .string ⟨id.toArray⟩, .string ⟨did.toArray⟩, .slice a V.length c] 35))
  have HK := hidd (fun (W : World) (hW : HoldV W a V) => valid_any kd sq id did a c V W hid hdid hn (fun i => (hT i).2) hW)
  have HLs := hidd (fun (W : World) (hW : HoldV W a V) => least_any did a c V W hn hT hle hW)
  have HPa := hidd (fun (q : Nat) (W : World) (hk : kd = 1 ∨ kd = 2) (hq : q < 4611686018427387904) (hok : kd = 1 → dcOK (did, V) = true) (hW : HoldV W a V) => part_any kd q id did a c V W hk hq hid hdid hn hT hok hSz hW)
  clear h hT
  go_enter Try.func7, Try.ntmps7
  go_upto_region 1 with fail
  obtain ⟨wa, hwa⟩ : ∃ wa, w.alloc (.cells #[.int .i64 kd, .int .i64 sq, .string ⟨id.toArray⟩, .string ⟨did.toArray⟩, .slice a V.length c] 35) = wa := ⟨_, rfl⟩
  rw [hwa] at HBa HX
  try rw [hwa]
  clear hwa
  have hzw : w.heap.size < wa.heap.size := (Array.getElem?_eq_some_iff.1 HX.out).1
  have x0 := blkc HX.out 0
  have x1 := blkc HX.out 1
  have x2 := blkc HX.out 2
  have x3 := blkc HX.out 3
  have x4 := blkc HX.out 4
  go_wp2_with fail
  refine (HK.out _ (HV.out.below HBa.out)).mono ?_
  rintro e w1 ⟨rfl, hb1⟩
  have HB1 := hidd (HBa.out.trans (hb1.mono HBa.out.size))
  have HX1 := hidd (blko HX.out hb1)
  have hz1 := hb1.size
  clear hb1 x0 x1 x2 x3 x4 HX HK
  cases hok : rcOK (kd, sq, id, (did, V)) with
  | false =>
    have HO : Hid (rcO (kd, sq, id, (did, V)) = ([], 1)) := by show _ = _; rw [rcO, hok]; rfl
    clear hok
    go_wp2_with fail
    go_ret2
    exact ⟨_, by rw [HO.out]; rfl, by rw [HO.out]; exact World.ownsRow_nil _ _ _ _, HB1.out⟩
  | true =>
    obtain ⟨hk, ⟨q, rfl, hq1, hq2⟩, hd, hi30⟩ := rcOK_kind hok
    have hpl2 : (rcPart (kd, (q : Int), id, (did, V))).length ≤ 500000100 ∧ 1 ≤ (rcPart (kd, (q : Int), id, (did, V))).length := by
      rw [rcPart_hd, List.length_append]
      have := putL_length9 q hq2
      simp only [hdB, List.length_cons]
      by_cases h1 : kd = 1
      · have := hSz (hd h1)
        rw [if_pos h1]; omega
      · rw [if_neg h1]; omega
    have HO : Hid (rcO (kd, (q : Int), id, (did, V)) = if 1048576 < (partB (rcPart (kd, (q : Int), id, (did, V)))).length then ([], 2) else (partB (rcPart (kd, (q : Int), id, (did, V))), 0)) := by show _ = _; rw [rcO, hok]; rfl
    have HR := hidd (fun (W : World) (hW : HoldV W a V) => HPa.out q W hk hq2 hd hW)
    obtain ⟨M, hM⟩ : ∃ M, rcPart (kd, (q : Int), id, (did, V)) = M := ⟨_, rfl⟩
    rw [hM] at HR hpl2 HO
    clear hok hM hd hSz HPa
    have x0 := blkc HX1.out 0
    have x1 := blkc HX1.out 1
    have x2 := blkc HX1.out 2
    have x3 := blkc HX1.out 3
    have x4 := blkc HX1.out 4
    have hlz : ¬ (leV V : Int) > 1048576 := by omega
    go_wp2_with fail
    refine (HLs.out _ (HV.out.below HB1.out)).mono ?_
    rintro e w2 ⟨rfl, hb2⟩
    have HB2 := hidd (HB1.out.trans (hb2.mono HB1.out.size))
    have HX2 := hidd (blko HX1.out hb2)
    have hz2 := hb2.size
    clear hb2 x0 x1 x2 x3 x4 HX1 HLs
    have x0 := blkc HX2.out 0
    have x1 := blkc HX2.out 1
    have x2 := blkc HX2.out 2
    have x3 := blkc HX2.out 3
    have x4 := blkc HX2.out 4
    dsimp only
    go_wp2_with fail
    refine (HR.out _ (HV.out.below HB2.out)).mono ?_
    rintro e w3 ⟨v3, rfl, hown3, hb3⟩
    obtain ⟨g3, c3, rfl, hg3, hg3l⟩ := hown3.form (by omega)
    have HBy := hidd (own_bytes hown3 rfl)
    have HO3 := hidd hown3
    have HB3 := hidd (HB2.out.trans (hb3.mono HB2.out.size))
    have hz3 := hb3.size
    clear hown3 hb3 x0 x1 x2 x3 x4 HX2 HR
    have hsm := sumL_lt M
    have HSu := hidd (sumBytes_any g3 0 c3 M w3 HBy.out hg3l)
    have HEnd : Hid (partB M = txB M ++ four (sumL M)) := rfl
    obtain ⟨sm, hsme⟩ : ∃ sm, sumL M = sm := ⟨_, rfl⟩
    rw [hsme] at hsm HEnd HSu
    clear hsme
    dsimp only
    go_wp2_with fail
    refine HSu.out.mono ?_
    rintro e w4 ⟨rfl, hb4⟩
    have HB4 := hidd (HB3.out.trans (hb4.mono HB3.out.size))
    have HBy4 := hidd (HBy.out.below hb4)
    have hz4 := hb4.size
    clear hb4 HSu HBy HO3
    dsimp only
    go_upto_region 7 with fail
    have HX5 := hidd (heap_alloc_new w4 (.cells #[.int .u8 ((sm : Int) / 16777216), .int .u8 ((sm : Int) / 65536 % 256), .int .u8 ((sm : Int) / 256 % 256), .int .u8 ((sm : Int) % 256)] 49))
    have HB5 := hidd ((Below.refl w4.heap.size w4).alloc (Nat.le_refl _) (.cells #[.int .u8 ((sm : Int) / 16777216), .int .u8 ((sm : Int) / 65536 % 256), .int .u8 ((sm : Int) / 256 % 256), .int .u8 ((sm : Int) % 256)] 49))
    obtain ⟨w5, hw5⟩ : ∃ w5, w4.alloc (.cells #[.int .u8 ((sm : Int) / 16777216), .int .u8 ((sm : Int) / 65536 % 256), .int .u8 ((sm : Int) / 256 % 256), .int .u8 ((sm : Int) % 256)] 49) = w5 := ⟨_, rfl⟩
    rw [hw5] at HX5 HB5
    try rw [hw5]
    clear hw5
    obtain ⟨Q5, hQ5⟩ : ∃ Q5, w4.heap.size = Q5 := ⟨_, rfl⟩
    rw [hQ5] at HX5
    try rw [hQ5]
    have HBy5 := hidd (HBy4.out.below HB5.out)
    have HBw := hidd (HB4.out.trans (HB5.out.mono HB4.out.size))
    have hz5 := HB5.out.size
    have hQ5l : Q5 < w5.heap.size := (Array.getElem?_eq_some_iff.1 HX5.out).1
    clear hQ5
    go_cut [6] (fun v wr => ∃ g c, v = .slice (some ⟨g, 0, none⟩) (partB M).length c ∧ wr.ownsRow w5.heap.size 5 1 v (partB M).length (Lib.byteCells (partB M)) ∧ Below w5.heap.size w5 wr)
    case first =>
      have hB1 : Below w5.heap.size w5 w5.drew := below_drewN (Below.refl _ w5) 1
      have HSb : Hid (∀ W, Below w5.heap.size w5 W → BytesAt W g3 0 M) := fun W hW => HBy5.out.below hW
      have hS0 := HSb.out _ hB1
      have htb : (txB M).length ≤ 500000200 ∧ 1 ≤ (txB M).length := by
        have := putL_length9 M.length (by omega)
        have := putL_pos M.length
        rw [txB, List.length_append]; omega
      have HT : Hid (Calls Try.prog 21 #[.slice none 0 0, .string ⟨M.toArray⟩] w5.drew (AppP w5.drew.heap.size [] (txB M) w5.drew)) := appTextL_any w5.drew.heap.size (.slice none 0 0) [] M w5.drew (by omega) (by simp) (Nat.le_refl _) (World.ownsRow_nil _ _ _ _)
      unfold AppP at HT
      simp only [List.nil_append] at HT
      refine wp_region_held (S := fun W => BytesAt W g3 0 M) (by kernel_rfl) ?_
      try simp only [Act.put, List.getElem_toArray, List.getElem_cons_succ, List.getElem_cons_zero, List.setIfInBounds_toArray, List.set_cons_zero, List.set_cons_succ]
      refine tkW 0 (v := .slice (some ⟨g3, 0, none⟩) M.length c3) (hx := fun W hW => rbx_move W _ _ _ rfl _ (by kernel_rfl)) (h := ?_)
      try simp only [Act.put, List.getElem_toArray, List.getElem_cons_succ, List.getElem_cons_zero, List.setIfInBounds_toArray, List.set_cons_zero, List.set_cons_succ]
      refine tkW 1 (v := .string ⟨M.toArray⟩) (hx := fun W hW => rbx_convS W _ _ _ rfl g3 M.length c3 M rfl (by kernel_rfl) hW) (h := ?_)
      try simp only [Act.put, List.getElem_toArray, List.getElem_cons_succ, List.getElem_cons_zero, List.setIfInBounds_toArray, List.set_cons_zero, List.set_cons_succ]
      refine tkX 3 (v := .slice (some ⟨Q5, 0, none⟩) 4 4) (h := ?_)
      try simp only [Act.put, List.getElem_toArray, List.getElem_cons_succ, List.getElem_cons_zero, List.setIfInBounds_toArray, List.set_cons_zero, List.set_cons_succ]
      refine wpAnyH_one 2 (by kernel_rfl) ?_
      refine wpOp_call 21 #[.slice none 0 0, .string ⟨M.toArray⟩] rfl (by kernel_rfl) (rbx_call2 _ _ _ _ _ _ _ _ rfl _ _ (by kernel_rfl) (by kernel_rfl) (Try.call21 _ _)) ?_
      refine HT.out.mono ?_
      rintro e w6 ⟨v6, rfl, hown6, hb6, hk6⟩
      obtain ⟨g6, c6, rfl, hg6, hg6l⟩ := hown6.form (by omega)
      have hB6 : Below w5.heap.size w5 w6 := hB1.trans (hb6.mono hB1.size)
      refine ⟨HSb.out _ hB6, ?_⟩
      try simp only [Act.put, List.getElem_toArray, List.getElem_cons_succ, List.getElem_cons_zero, List.setIfInBounds_toArray, List.set_cons_zero, List.set_cons_succ]
      refine wpAnyH_one 4 (by kernel_rfl) ?_
      refine wpOp_wp rfl (by kernel_rfl) (wp_append_lies _ (.tmp 20) (.tmp 21) 28 rfl w5.heap.size 5 i1 (.int .u8 0) 1 1 Try.underlying28 hi1 hy0 hy1 hy2 rfl (by decide) (.slice (some ⟨g6, 0, none⟩) (txB M).length c6) (txB M).length (Lib.byteCells (txB M)) (by kernel_rfl) hown6 ⟨Q5, 0, none⟩ 4 4 [.int .u8 ((sm : Int) / 16777216), .int .u8 ((sm : Int) / 65536 % 256), .int .u8 ((sm : Int) / 256 % 256), .int .u8 ((sm : Int) % 256)] (by kernel_rfl) rfl (World.news_of_block (blko HX5.out hB6)) (by intro u' hu'; simp at hu'; rcases hu' with rfl | rfl | rfl | rfl <;> rfl) (by decide) (by unfold maxLen; omega) (by omega) hB6.size _ rfl ?_)
      intro g7 cp7 w7 hown7 hgrow7 hat7 hlt7
      have hB7 : Below w5.heap.size w5 w7 := hB6.grown hgrow7 hB6.size (fun b hb => (own_blk hown6 hb).1)
      have HLe : Hid ((partB M).length = (txB M).length + 4) := by show _ = _; rw [HEnd.out, List.length_append, four_len]
      have HO7 : Hid (w7.ownsRow w5.heap.size 5 1 (.slice (some ⟨g7, 0, none⟩) ((txB M).length + 4) cp7) (partB M).length (Lib.byteCells (partB M))) := by
        show World.ownsRow _ _ _ _ _ _ _
        rw [HLe.out, HEnd.out, four_cells sm hsm]
        exact hown7
      have HB7 := hidd hB7
      refine ⟨HSb.out _ hB7, ?_⟩
      try simp only [Act.put, List.getElem_toArray, List.getElem_cons_succ, List.getElem_cons_zero, List.setIfInBounds_toArray, List.set_cons_zero, List.set_cons_succ]
      have hS7 := HSb.out _ hB7
      refine tkW 5 (v := .slice (some ⟨g7, 0, none⟩) ((txB M).length + 4) cp7) (hx := fun W hW => rbx_assign W _ _ _ rfl _ (by kernel_rfl)) (h := ?_)
      try simp only [Act.put, List.getElem_toArray, List.getElem_cons_succ, List.getElem_cons_zero, List.setIfInBounds_toArray, List.set_cons_zero, List.set_cons_succ]
      refine wpAnyH_done (by kernel_rfl) ?_ _
      clear hS0 hS7 hB1 hB6 hb6 hk6 hown6 hown7 hgrow7 hat7 hlt7 hB7 HT
      go_wp2_with fail
      go_meet
      case rel => exact ⟨g7, cp7, by rw [HLe.out], HO7.out, HB7.out⟩
    case rest =>
      obtain ⟨g8, c8, rfl, hown8, hb8⟩ := hcut
      have HO8 := hidd hown8
      have HB8 := hidd (HBw.out.trans (hb8.mono HBw.out.size))
      have hpl := partB_len M (by omega)
      have hwz := HBw.out.size
      clear hown8 hb8 HX5 HBy5 HBy4 HEnd
      obtain ⟨B, hB⟩ : ∃ B, partB M = B := ⟨_, rfl⟩
      rw [hB] at HO8 HO hpl
      try rw [hB]
      clear hB
      by_cases hbig : 1048576 < B.length
      · rw [if_pos hbig] at HO
        have hbz : (B.length : Int) > 1048576 := by omega
        go_wp2_with fail
        go_ret2
        exact ⟨_, by rw [HO.out]; rfl, by rw [HO.out]; exact World.ownsRow_nil _ _ _ _, HB8.out⟩
      · rw [if_neg hbig] at HO
        have hbz : ¬ (B.length : Int) > 1048576 := by omega
        go_wp2_with fail
        go_ret2
        exact ⟨_, by rw [HO.out]; rfl, by rw [HO.out]; exact own_mono HO8.out (by omega), HB8.out⟩
end Go.Proofs.Ytefhmbnhhkgifaa
