import Derived.Test.YtpdiaddgialanaaGreatDoorLogJ19
namespace Go.Proofs.YtpdiaddgialanaaGreatDoor
open Go Go.RowKit
set_option linter.unusedVariables false
set_option linter.unusedSimpArgs false
set_option maxRecDepth 100000

/-- The part ahead of the record's own bytes. -/
def hdB (kd : Int) (sq : Nat) : List UInt8 := UInt8.ofNat kd.toNat :: putL sq
theorem rcPart_hd (kd : Int) (sq : Nat) (id : List UInt8) (d : Dc) : rcPart (kd, (sq : Int), id, d) = hdB kd sq ++ if kd = 1 then dcB d else id := by simp [rcPart, hdB]
theorem hd_cells {kd : Int} (h : kd = 1 ∨ kd = 2) (sq : Nat) : Lib.byteCells (hdB kd sq) = [.int .u8 kd] ++ Lib.byteCells (putL sq) := by
  rcases h with rfl | rfl <;> simp [hdB, Lib.byteCells]
set_option maxHeartbeats 4000000 in
theorem specRecB_any (kd : Int) (sq : Nat) (id did : List UInt8) (a : Option Addr) (c : Nat) (V : List Vl) (w : World) (hk : kd = 1 ∨ kd = 2) (hsq : sq < 4611686018427387904) (hid : id.length ≤ 1048576) (hok : kd = 1 → dcOK (did, V) = true) (hSz : kd = 1 → (dcB (did, V)).length ≤ 500000000) (h : HoldV w a V) :
    Calls Tryz.prog 23 #[.agg #[.int .i64 kd, .int .i64 (sq : Int), .string ⟨id.toArray⟩, .string ⟨did.toArray⟩, .slice a V.length c]] w fun e w' => ∃ v, e = .returned v ∧ w'.ownsRow w.heap.size 5 1 v (partB (rcPart (kd, (sq : Int), id, (did, V)))).length (Lib.byteCells (partB (rcPart (kd, (sq : Int), id, (did, V))))) ∧ Below w.heap.size w w' := by
  obtain ⟨i1, hi1, hy0, hy1, hy2⟩ := info_parts Tryz.infoByte
  have HV := hidd h
  have HBa := hidd ((Below.refl w.heap.size w).alloc (Nat.le_refl _) (.cells #[.int .i64 kd, .int .i64 (sq : Int), .string ⟨id.toArray⟩, .string ⟨did.toArray⟩, .slice a V.length c] 28))
  have HX := hidd (heap_alloc_new w (.cells #[.int .i64 kd, .int .i64 (sq : Int), .string ⟨id.toArray⟩, .string ⟨did.toArray⟩, .slice a V.length c] 28))
  have HP := hidd (fun (x : Nat) (W : World) (hx : x < 4611686018427387904) => specPut_any x W hx)
  have hsl : (⟨id.toArray⟩ : ByteArray).size = id.length := by rw [Lib.size_eq]
  have hp9 := putL_length9 sq hsq
  have hp1 := putL_pos sq
  have Hc := hidd (hd_cells hk sq)
  have hwk : IntKind.u8.wrap kd = kd := by rcases hk with rfl | rfl <;> rfl
  have HPt : Hid (rcPart (kd, (sq : Int), id, (did, V)) = hdB kd sq ++ if kd = 1 then dcB (did, V) else id) := rcPart_hd kd sq id (did, V)
  have hhl : (hdB kd sq).length = 1 + (putL sq).length := by simp [hdB]; omega
  clear h
  go_enter Tryz.func23, Tryz.ntmps23
  go_upto_region 1 with fail
  obtain ⟨Q, hQ⟩ : ∃ Q, w.heap.size = Q := ⟨_, rfl⟩
  obtain ⟨wa, hwa⟩ : ∃ wa, w.alloc (.cells #[.int .i64 kd, .int .i64 (sq : Int), .string ⟨id.toArray⟩, .string ⟨did.toArray⟩, .slice a V.length c] 28) = wa := ⟨_, rfl⟩
  rw [hwa] at HBa HX
  try rw [hwa]
  clear hwa
  rw [hQ] at HX
  try rw [hQ]
  have HQ := hidd hQ
  clear hQ
  have hQl : Q < wa.heap.size := (Array.getElem?_eq_some_iff.1 HX.out).1
  go_cut [3] (fun v wr => ∃ g cp, v = .slice (some ⟨g, 0, none⟩) (hdB kd sq).length cp ∧ wr.ownsRow wa.heap.size 5 1 v (hdB kd sq).length (Lib.byteCells (hdB kd sq)) ∧ Below wa.heap.size wa wr)
  case first =>
    have hB1 : Below wa.heap.size wa wa.drew := below_drewN (Below.refl _ wa) 1
    have hS0 : wa.drew.cell? ⟨Q, 0, none⟩ = some (.int .i64 kd) ∧ wa.drew.cell? ⟨Q, 1, none⟩ = some (.int .i64 (sq : Int)) := ⟨blkc (blko HX.out hB1) 0, blkc (blko HX.out hB1) 1⟩
    have HSb : Hid (∀ W, Below wa.heap.size wa W → W.cell? ⟨Q, 0, none⟩ = some (.int .i64 kd) ∧ W.cell? ⟨Q, 1, none⟩ = some (.int .i64 (sq : Int))) := fun W hW => ⟨blkc (blko HX.out hW) 0, blkc (blko HX.out hW) 1⟩
    refine wp_region_held (S := fun W => W.cell? ⟨Q, 0, none⟩ = some (.int .i64 kd) ∧ W.cell? ⟨Q, 1, none⟩ = some (.int .i64 (sq : Int))) (by kernel_rfl) ?_
    try simp only [Act.put, List.getElem_toArray, List.getElem_cons_succ, List.getElem_cons_zero, List.setIfInBounds_toArray, List.set_cons_zero, List.set_cons_succ]
    refine tkX 0 (v := .pointer (some ⟨Q, 0, none⟩)) (h := ?_)
    try simp only [Act.put, List.getElem_toArray, List.getElem_cons_succ, List.getElem_cons_zero, List.setIfInBounds_toArray, List.set_cons_zero, List.set_cons_succ]
    refine tkW 1 (v := .int .i64 kd) (hx := fun W hW => rbx_loadI W _ _ _ rfl Q 0 _ (by kernel_rfl) hW.1) (h := ?_)
    try simp only [Act.put, List.getElem_toArray, List.getElem_cons_succ, List.getElem_cons_zero, List.setIfInBounds_toArray, List.set_cons_zero, List.set_cons_succ]
    refine tkW 2 (v := .int .u8 kd) (hx := fun W hW => rbx_conv W _ _ _ rfl kd hwk (by kernel_rfl)) (h := ?_)
    try simp only [Act.put, List.getElem_toArray, List.getElem_cons_succ, List.getElem_cons_zero, List.setIfInBounds_toArray, List.set_cons_zero, List.set_cons_succ]
    refine tkX 4 (v := .pointer (some ⟨Q, 1, none⟩)) (h := ?_)
    try simp only [Act.put, List.getElem_toArray, List.getElem_cons_succ, List.getElem_cons_zero, List.setIfInBounds_toArray, List.set_cons_zero, List.set_cons_succ]
    refine tkW 5 (v := .int .i64 (sq : Int)) (hx := fun W hW => rbx_loadI W _ _ _ rfl Q 1 _ (by kernel_rfl) hW.2) (h := ?_)
    try simp only [Act.put, List.getElem_toArray, List.getElem_cons_succ, List.getElem_cons_zero, List.setIfInBounds_toArray, List.set_cons_zero, List.set_cons_succ]
    refine wpAnyH_two 3 6 (by kernel_rfl) ?_ ?_
    · have hB2 : Below wa.heap.size wa (wa.drew.alloc (.cells #[.int .u8 kd] 5)) := hB1.alloc hB1.size _
      have HO2 := hidd (own_one wa.drew kd)
      refine wpOp_val (.slice (some ⟨wa.drew.heap.size, 0, none⟩) 1 1) (wa.drew.alloc (.cells #[.int .u8 kd] 5)) rfl (by kernel_rfl) (rbx_build _ _ _ _ rfl _ (by kernel_rfl)) ?_
      refine ⟨HSb.out _ hB2, ?_⟩
      try simp only [Act.put, List.getElem_toArray, List.getElem_cons_succ, List.getElem_cons_zero, List.setIfInBounds_toArray, List.set_cons_zero, List.set_cons_succ]
      refine wpAnyH_one 6 (by kernel_rfl) ?_
      refine wpOp_call 46 #[.int .i64 (sq : Int)] rfl (by kernel_rfl) (rbx_call1 _ _ _ _ _ _ rfl _ (by kernel_rfl) (Tryz.call46 _ _)) ?_
      refine (HP.out sq _ hsq).mono ?_
      rintro e w3 ⟨gp, cp, rfl, hop, hb3⟩
      have HO3 := own_below HO2.out hb3
      have hB3 := hB2.trans (hb3.mono hB2.size)
      have HBy := own_bytes hop rfl
      refine ⟨HSb.out _ hB3, ?_⟩
      try simp only [Act.put, List.getElem_toArray, List.getElem_cons_succ, List.getElem_cons_zero, List.setIfInBounds_toArray, List.set_cons_zero, List.set_cons_succ]
      refine wpAnyH_one 7 (by kernel_rfl) ?_
      refine wpOp_wp rfl (by kernel_rfl) (wp_append_lies _ (.tmp 7) (.tmp 10) 22 rfl wa.heap.size 5 i1 (.int .u8 0) 1 1 Tryz.underlying22 hi1 hy0 hy1 hy2 rfl (by decide) (.slice (some ⟨wa.drew.heap.size, 0, none⟩) 1 1) 1 [.int .u8 kd] (by kernel_rfl) HO3 ⟨gp, 0, none⟩ (putL sq).length cp (Lib.byteCells (putL sq)) (by kernel_rfl) (by simp [Lib.byteCells]) (bytes_news HBy (Below.refl _ _)) (bytes_one _) (by omega) (by unfold maxLen; omega) (by omega) hB3.size _ rfl ?_)
      intro g6 cp6 w6 hown6 hgrow6 hat6 hlt6
      have hB6 : Below wa.heap.size wa w6 := hB3.grown hgrow6 hB3.size (fun b hb => (own_blk HO3 hb).1)
      have HO6 : Hid (w6.ownsRow wa.heap.size 5 1 (.slice (some ⟨g6, 0, none⟩) (1 + (putL sq).length) cp6) (hdB kd sq).length (Lib.byteCells (hdB kd sq))) := by
        show World.ownsRow _ _ _ _ _ _ _
        rw [hhl, Hc.out]
        exact hown6
      have HB6 := hidd hB6
      refine ⟨HSb.out _ hB6, ?_⟩
      try simp only [Act.put, List.getElem_toArray, List.getElem_cons_succ, List.getElem_cons_zero, List.setIfInBounds_toArray, List.set_cons_zero, List.set_cons_succ]
      have hS6 := HSb.out _ hB6
      refine tkW 8 (v := .slice (some ⟨g6, 0, none⟩) (1 + (putL sq).length) cp6) (hx := fun W hW => rbx_assign W _ _ _ rfl _ (by kernel_rfl)) (h := ?_)
      try simp only [Act.put, List.getElem_toArray, List.getElem_cons_succ, List.getElem_cons_zero, List.setIfInBounds_toArray, List.set_cons_zero, List.set_cons_succ]
      refine wpAnyH_done (by kernel_rfl) ?_ _
      clear hS0 hS6 hB1 hB2 hB3 hb3 hop HBy HO3 hown6 hgrow6 hat6 hlt6 hB6
      go_wp2_with fail
      go_meet
      case rel => exact ⟨g6, cp6, by rw [hhl], HO6.out, HB6.out⟩
    · refine wpOp_call 46 #[.int .i64 (sq : Int)] rfl (by kernel_rfl) (rbx_call1 _ _ _ _ _ _ rfl _ (by kernel_rfl) (Tryz.call46 _ _)) ?_
      refine (HP.out sq _ hsq).mono ?_
      rintro e w3 ⟨gp, cp, rfl, hop, hb3⟩
      have hB2 := hB1.trans (hb3.mono hB1.size)
      refine ⟨HSb.out _ hB2, ?_⟩
      try simp only [Act.put, List.getElem_toArray, List.getElem_cons_succ, List.getElem_cons_zero, List.setIfInBounds_toArray, List.set_cons_zero, List.set_cons_succ]
      refine wpAnyH_one 3 (by kernel_rfl) ?_
      have hB3 : Below wa.heap.size wa (w3.alloc (.cells #[.int .u8 kd] 5)) := hB2.alloc hB2.size _
      have HO3 := own_mono (own_one w3 kd) hB2.size
      have HBy := own_bytes (hop.alloc (.cells #[.int .u8 kd] 5)) rfl
      refine wpOp_val (.slice (some ⟨w3.heap.size, 0, none⟩) 1 1) (w3.alloc (.cells #[.int .u8 kd] 5)) rfl (by kernel_rfl) (rbx_build _ _ _ _ rfl _ (by kernel_rfl)) ?_
      refine ⟨HSb.out _ hB3, ?_⟩
      try simp only [Act.put, List.getElem_toArray, List.getElem_cons_succ, List.getElem_cons_zero, List.setIfInBounds_toArray, List.set_cons_zero, List.set_cons_succ]
      refine wpAnyH_one 7 (by kernel_rfl) ?_
      refine wpOp_wp rfl (by kernel_rfl) (wp_append_lies _ (.tmp 7) (.tmp 10) 22 rfl wa.heap.size 5 i1 (.int .u8 0) 1 1 Tryz.underlying22 hi1 hy0 hy1 hy2 rfl (by decide) (.slice (some ⟨w3.heap.size, 0, none⟩) 1 1) 1 [.int .u8 kd] (by kernel_rfl) HO3 ⟨gp, 0, none⟩ (putL sq).length cp (Lib.byteCells (putL sq)) (by kernel_rfl) (by simp [Lib.byteCells]) (bytes_news HBy (Below.refl _ _)) (bytes_one _) (by omega) (by unfold maxLen; omega) (by omega) hB3.size _ rfl ?_)
      intro g6 cp6 w6 hown6 hgrow6 hat6 hlt6
      have hB6 : Below wa.heap.size wa w6 := hB3.grown hgrow6 hB3.size (fun b hb => (own_blk HO3 hb).1)
      have HO6 : Hid (w6.ownsRow wa.heap.size 5 1 (.slice (some ⟨g6, 0, none⟩) (1 + (putL sq).length) cp6) (hdB kd sq).length (Lib.byteCells (hdB kd sq))) := by
        show World.ownsRow _ _ _ _ _ _ _
        rw [hhl, Hc.out]
        exact hown6
      have HB6 := hidd hB6
      refine ⟨HSb.out _ hB6, ?_⟩
      try simp only [Act.put, List.getElem_toArray, List.getElem_cons_succ, List.getElem_cons_zero, List.setIfInBounds_toArray, List.set_cons_zero, List.set_cons_succ]
      have hS6 := HSb.out _ hB6
      refine tkW 8 (v := .slice (some ⟨g6, 0, none⟩) (1 + (putL sq).length) cp6) (hx := fun W hW => rbx_assign W _ _ _ rfl _ (by kernel_rfl)) (h := ?_)
      try simp only [Act.put, List.getElem_toArray, List.getElem_cons_succ, List.getElem_cons_zero, List.setIfInBounds_toArray, List.set_cons_zero, List.set_cons_succ]
      refine wpAnyH_done (by kernel_rfl) ?_ _
      clear hS0 hS6 hB1 hB2 hB3 hb3 hop HBy HO3 hown6 hgrow6 hat6 hlt6 hB6
      go_wp2_with fail
      go_meet
      case rel => exact ⟨g6, cp6, by rw [hhl], HO6.out, HB6.out⟩
  case rest =>
    obtain ⟨g, cp, rfl, hown, hbel⟩ := hcut
    have HO := hidd hown
    have HB := hidd hbel
    have hz := hbel.size
    have HXr := hidd (blko HX.out hbel)
    have x0 := blkc HXr.out 0
    have x2 := blkc HXr.out 2
    have x3 := blkc HXr.out 3
    have x4 := blkc HXr.out 4
    have hQr : Q < wc.heap.size := by omega
    clear hown hbel HX
    obtain ⟨hd, hhd⟩ : ∃ hd, hdB kd sq = hd := ⟨_, rfl⟩
    rw [hhd] at HO HPt hhl
    try rw [hhd]
    clear hhd
    obtain ⟨M, hM⟩ : ∃ M, rcPart (kd, (sq : Int), id, (did, V)) = M := ⟨_, rfl⟩
    rw [hM] at HPt
    have HM := hidd hM
    clear hM
    have hml : M.length ≤ 500000010 ∧ 1 ≤ M.length := by
      rw [HPt.out, List.length_append]
      rcases hk with rfl | rfl
      · have := hSz rfl
        simp only [if_true]; omega
      · simp only [show ¬ ((2 : Int) = 1) by omega, if_false]; omega
    have hdl : hd.length ≤ 10 ∧ 1 ≤ hd.length := by omega
    clear hhl
    go_upto_if 14 with fail
    go_cut [3] (fun v wy => ∃ g5 c5, v = .slice (some ⟨g5, 0, none⟩) M.length c5 ∧ wy.ownsRow wa.heap.size 5 1 v M.length (Lib.byteCells M) ∧ Below wa.heap.size wa wy)
    case first =>
      rcases hk with rfl | rfl
      · have hok1 := hok rfl
        have hSz1 := hSz rfl
        have HD := hidd (specDocB_any did a c V wc hok1 ((HV.out.below HBa.out).below HB.out))
        rw [if_pos rfl] at HPt
        have hpos : 0 < (dcB (did, V)).length := by
          have := putL_pos did.length
          simp only [dcB, txB, List.length_append]; omega
        clear hok hSz hok1
        obtain ⟨DB, hDB⟩ : ∃ DB, dcB (did, V) = DB := ⟨_, rfl⟩
        rw [hDB] at HD HPt hpos hSz1
        clear hDB
        go_wp2_with fail
        refine HD.out.mono ?_
        rintro e w2 ⟨v2, rfl, hown2, hb2⟩
        obtain ⟨g2, c2, rfl, hg2, hg2l⟩ := hown2.form hpos
        have HBy := hidd (own_bytes hown2 rfl)
        have HO2 := hidd (own_below HO.out hb2)
        have HB2 := hidd (HB.out.trans (hb2.mono HB.out.size))
        have hz2 := HB2.out.size
        clear hown2 hb2 HD x0 x2 x3 x4
        dsimp only
        go_wp2_with (at_builtin; refine wpList_append_lies _ rfl _ _ 22 rfl wa.heap.size 5 i1 (.int .u8 0) 1 1 Tryz.underlying22 hi1 hy0 hy1 hy2 rfl (by decide) (.slice (some ⟨g, 0, none⟩) hd.length cp) hd.length (Lib.byteCells hd) rfl HO2.out ⟨g2, 0, none⟩ DB.length c2 (Lib.byteCells DB) rfl (by simp [Lib.byteCells]) (bytes_news HBy.out (Below.refl _ _)) (bytes_one _) hpos (by unfold maxLen; omega) (by omega) hz2 _ rfl ?_)
        intro g6 cp6 w6 hown6 hgrow6 hat6 hlt6
        have HB6 : Hid (Below wa.heap.size wa w6) := HB2.out.grown hgrow6 hz2 (fun b hb => (own_blk HO2.out hb).1)
        have HO6 : Hid (w6.ownsRow wa.heap.size 5 1 (.slice (some ⟨g6, 0, none⟩) (hd.length + DB.length) cp6) M.length (Lib.byteCells M)) := by
          show World.ownsRow _ _ _ _ _ _ _
          rw [HPt.out, Lib.byteCells_append, List.length_append]
          exact hown6
        have HLe : Hid (M.length = hd.length + DB.length) := by show _ = _; rw [HPt.out, List.length_append]
        clear hown6 hgrow6 hat6 hlt6
        go_wp2_with fail
        go_meet
        case rel => exact ⟨g6, cp6, by rw [HLe.out], HO6.out, HB6.out⟩
      · rw [if_neg (by omega)] at HPt
        clear hok hSz
        go_wp2_with (at_builtin; refine Lib.wpList_append_own_string _ rfl _ _ 22 9 rfl wa.heap.size 5 i1 Tryz.underlying22 Tryz.underlying9 hi1 hy0 hy1 hy2 (.slice (some ⟨g, 0, none⟩) hd.length cp) hd.length (Lib.byteCells hd) rfl HO.out ⟨id.toArray⟩ rfl (by rw [hsl]; unfold maxLen; omega) (by rw [hsl]; omega) hz ?_)
        intro v7 w7 hown7 hgrow7 hnil7
        rw [strCells_eq] at hown7
        obtain ⟨g7, c7, rfl, hg7, hg7l⟩ := hown7.form (by omega)
        have HB7 : Hid (Below wa.heap.size wa w7) := HB.out.grown hgrow7 hz (fun b hb => (own_blk HO.out hb).1)
        have HO7 : Hid (w7.ownsRow wa.heap.size 5 1 (.slice (some ⟨g7, 0, none⟩) (hd.length + id.length) c7) M.length (Lib.byteCells M)) := by
          show World.ownsRow _ _ _ _ _ _ _
          rw [HPt.out, Lib.byteCells_append, List.length_append]
          exact hown7
        have HLe : Hid (M.length = hd.length + id.length) := by show _ = _; rw [HPt.out, List.length_append]
        clear hown7 hgrow7 hnil7
        go_wp2_with fail
        go_meet
        case rel => exact ⟨g7, c7, by rw [HLe.out], HO7.out, HB7.out⟩
    case rest =>
      obtain ⟨g5, c5, rfl, hown5, hb5⟩ := hcut
      have HO5 := hidd hown5
      have HB5 := hidd hb5
      have hz5 := hb5.size
      have hg5 : g5 < wc.heap.size := own_lt hown5
      have hB5 := hidd (own_bytes hown5 rfl)
      clear hown5 hb5 x0 x2 x3 x4 HXr hok hSz HP HO HB HPt hk Hc hwk hp9 hp1 hsl
      have hq9 := putL_length9 M.length (by omega)
      have hq1 := putL_pos M.length
      have HPM := hidd (specPut_any M.length wc (by omega))
      have hsm := sumL_lt M
      have HEnd : Hid (partB M = putL M.length ++ M ++ four (sumL M)) := rfl
      obtain ⟨PM, hPM⟩ : ∃ PM, putL M.length = PM := ⟨_, rfl⟩
      rw [hPM] at hq9 hq1 HPM HEnd
      clear hPM
      go_wp2_with fail
      refine HPM.out.mono ?_
      rintro e w6 ⟨g6, c6, rfl, hown6, hb6⟩
      have HO6 := hidd hown6
      have HB6 := hidd (HB5.out.trans (hb6.mono HB5.out.size))
      have HM6 := hidd (hB5.out.below hb6)
      have HB6c := hidd hb6
      have hz6 := hb6.size
      clear hown6 hb6 HPM
      dsimp only
      go_wp2_with (at_builtin; refine wpList_append_lies _ rfl _ _ 22 rfl wc.heap.size 5 i1 (.int .u8 0) 1 1 Tryz.underlying22 hi1 hy0 hy1 hy2 rfl (by decide) (.slice (some ⟨g6, 0, none⟩) PM.length c6) PM.length (Lib.byteCells PM) rfl HO6.out ⟨g5, 0, none⟩ M.length c5 (Lib.byteCells M) rfl (by simp [Lib.byteCells]) (bytes_news HM6.out (Below.refl _ _)) (bytes_one _) (by omega) (by unfold maxLen; omega) (by omega) hz6 _ rfl ?_)
      intro g7 cp7 w7 hown7 hgrow7 hat7 hlt7
      have HB7c : Hid (Below wc.heap.size wc w7) := HB6c.out.grown hgrow7 HB6c.out.size (fun b hb => (own_blk HO6.out hb).1)
      have HM7 := hidd (hB5.out.below HB7c.out)
      have hg7 := HB7c.out.size
      have HB7 := hidd (HB5.out.trans (HB7c.out.mono HB5.out.size))
      have HO7 := hidd hown7
      clear hown7 hgrow7 hat7 hlt7 HO6 HM6 HB6 HB6c
      go_wp2_with fail
      refine (specSum_any g5 0 c5 M w7 HM7.out).mono ?_
      rintro e w8 ⟨rfl, hw8⟩
      obtain rfl := hw8.symm
      clear hw8
      dsimp only
      obtain ⟨sm, hsme⟩ : ∃ sm, sumL M = sm := ⟨_, rfl⟩
      rw [hsme] at hsm HEnd
      try rw [hsme]
      clear hsme
      go_wp2_with fail
      refine (specFour_any sm hsm w7).mono ?_
      rintro e w8 ⟨rfl, hw8⟩
      have hBw : Below w7.heap.size w7 w8 := by rw [hw8]; exact (Below.refl _ _).alloc (Nat.le_refl _) _
      have hnew : w8.heap[w7.heap.size]? = some (.cells #[.int .u8 ((sm : Int) / 16777216), .int .u8 ((sm : Int) / 65536 % 256), .int .u8 ((sm : Int) / 256 % 256), .int .u8 ((sm : Int) % 256)] 5) := by rw [hw8]; exact heap_alloc_new w7 _
      have HNw := hidd hnew
      have HO8 := hidd (own_below HO7.out hBw)
      have HB8 := hidd (HB7.out.trans (hBw.mono HB7.out.size))
      have hz8 := hBw.size
      clear hw8 hnew hBw HO7 HM7 HB7c
      dsimp only
      go_wp2_with (at_builtin; refine wpList_append_lies _ rfl _ _ 22 rfl wc.heap.size 5 i1 (.int .u8 0) 1 1 Tryz.underlying22 hi1 hy0 hy1 hy2 rfl (by decide) (.slice (some ⟨g7, 0, none⟩) (PM.length + M.length) cp7) (PM.length + M.length) (Lib.byteCells PM ++ Lib.byteCells M) rfl HO8.out ⟨w7.heap.size, 0, none⟩ 4 4 [.int .u8 ((sm : Int) / 16777216), .int .u8 ((sm : Int) / 65536 % 256), .int .u8 ((sm : Int) / 256 % 256), .int .u8 ((sm : Int) % 256)] rfl rfl (World.news_of_block HNw.out) (by intro u' hu'; simp at hu'; rcases hu' with rfl | rfl | rfl | rfl <;> rfl) (by decide) (by unfold maxLen; omega) (by omega) (by omega) _ rfl ?_)
      intro g9 cp9 w9 hown9 hgrow9 hat9 hlt9
      have HB9 : Hid (Below wa.heap.size wa w9) := HB8.out.grown hgrow9 HB8.out.size (fun b hb => Nat.le_trans hz5 (own_blk HO8.out hb).1)
      have HO9 : Hid (w9.ownsRow wc.heap.size 5 1 (.slice (some ⟨g9, 0, none⟩) (PM.length + M.length + 4) cp9) (partB M).length (Lib.byteCells (partB M))) := by
        show World.ownsRow _ _ _ _ _ _ _
        rw [HEnd.out, four_cells sm hsm, Lib.byteCells_append]
        simp only [List.length_append, four_len]
        rw [← List.append_assoc] at hown9
        exact hown9
      clear hown9 hgrow9 hat9 hlt9 HO8 HNw
      go_wp2_with fail
      go_ret
      have hzz := HBa.out.size
      refine ⟨_, rfl, ?_, HQ.out ▸ (HBa.out.trans (HB9.out.mono (by omega)))⟩
      rw [HM.out]
      exact own_mono HO9.out (by omega)
end Go.Proofs.YtpdiaddgialanaaGreatDoor

namespace Go.Proofs.YtpdiaddgialanaaGreatDoor
open Go Go.RowKit
set_option linter.unusedVariables false
set_option linter.unusedSimpArgs false
set_option maxRecDepth 100000

theorem rcOK_kind {kd sq : Int} {id did : List UInt8} {V : List Vl} (h : rcOK (kd, sq, id, (did, V)) = true) : (kd = 1 ∨ kd = 2) ∧ (∃ q : Nat, sq = (q : Int) ∧ 1 ≤ q ∧ q < 4611686018427387904) ∧ (kd = 1 → dcOK (did, V) = true) ∧ id.length ≤ 30 := by
  simp only [rcOK, Bool.and_eq_true, seqOK, decide_eq_true_eq] at h
  obtain ⟨⟨h1, h2⟩, h3⟩ := h
  refine ⟨?_, ⟨sq.toNat, by omega, by omega, by omega⟩, fun hk => ?_, ?_⟩
  · split at h3
    · exact Or.inl ‹_›
    · simp only [Bool.and_eq_true, decide_eq_true_eq] at h3; exact Or.inr h3.1.1.1
  · rw [if_pos hk] at h3
    simp only [Bool.and_eq_true, decide_eq_true_eq] at h3; exact h3.2
  · split at h3
    · simp only [Bool.and_eq_true, decide_eq_true_eq] at h3; omega
    · simp only [Bool.and_eq_true, decide_eq_true_eq, idV] at h3; omega
/-- What both sides' RecordBytes keep to. -/
def RecC (f : Nat) : Prop := ∀ (kd sq : Int) (id did : List UInt8) (a : Option Addr) (c : Nat) (V : List Vl) (w : World), id.length ≤ 1048576 → did.length ≤ 1048576 → V.length ≤ 1048576 → (∀ i, (V.getD i vl0).1.length ≤ 1048576 ∧ (V.getD i vl0).2.1.length ≤ 1048576 ∧ (V.getD i vl0).2.2.length ≤ 1048576) → (dcOK (did, V) = true → (dcB (did, V)).length ≤ 500000000) → leV V ≤ 1048576 → HoldV w a V →
  Calls Tryz.prog f #[.agg #[.int .i64 kd, .int .i64 sq, .string ⟨id.toArray⟩, .string ⟨did.toArray⟩, .slice a V.length c]] w fun e w' => ∃ v, e = .returned (.tuple #[v, .int .i64 (rcO (kd, sq, id, (did, V))).2]) ∧ w'.ownsRow w.heap.size 5 1 v (rcO (kd, sq, id, (did, V))).1.length (Lib.byteCells (rcO (kd, sq, id, (did, V))).1) ∧ Below w.heap.size w w'
set_option maxHeartbeats 4000000 in
theorem specRec_any : RecC 7 := by
  intro kd sq id did a c V w hid hdid hn hT hSz hle h
  have HV := hidd h
  have HBa := hidd ((Below.refl w.heap.size w).alloc (Nat.le_refl _) (.cells #[.int .i64 kd, .int .i64 sq, .string ⟨id.toArray⟩, .string ⟨did.toArray⟩, .slice a V.length c] 28))
  have HX := hidd (heap_alloc_new w (.cells #[.int .i64 kd, .int .i64 sq, .string ⟨id.toArray⟩, .string ⟨did.toArray⟩, .slice a V.length c] 28))
  have HK := hidd (fun (W : World) (hW : HoldV W a V) => specRecOK_any kd sq id did a c V W hid hdid hn (fun i => (hT i).2) hW)
  clear h hT hle
  go_enter Tryz.func7, Tryz.ntmps7
  go_upto_region 1 with fail
  obtain ⟨wa, hwa⟩ : ∃ wa, w.alloc (.cells #[.int .i64 kd, .int .i64 sq, .string ⟨id.toArray⟩, .string ⟨did.toArray⟩, .slice a V.length c] 28) = wa := ⟨_, rfl⟩
  rw [hwa] at HBa HX
  try rw [hwa]
  clear hwa
  have hzw : w.heap.size < wa.heap.size := (Array.getElem?_eq_some_iff.1 HX.out).1
  have x0 := blkc HX.out 0
  have x1 := blkc HX.out 1
  have x2 := blkc HX.out 2
  have x3 := blkc HX.out 3
  have x4 := blkc HX.out 4
  go_wp2_with fail
  refine (HK.out _ (HV.out.below HBa.out)).mono ?_
  rintro e w1 ⟨rfl, hb1⟩
  have HB1 := hidd (HBa.out.trans (hb1.mono HBa.out.size))
  have HX1 := hidd (blko HX.out hb1)
  have hz1 := hb1.size
  clear hb1 x0 x1 x2 x3 x4 HX
  cases hok : rcOK (kd, sq, id, (did, V)) with
  | false =>
    have HO : Hid (rcO (kd, sq, id, (did, V)) = ([], 1)) := by show _ = _; rw [rcO, hok]; rfl
    clear hok
    go_wp2_with fail
    go_ret2
    exact ⟨_, by rw [HO.out]; rfl, by rw [HO.out]; exact own_mono (own_empty w1 5) (by omega), HB1.out.alloc (by omega) _⟩
  | true =>
    obtain ⟨hk, ⟨q, rfl, hq1, hq2⟩, hd, hi30⟩ := rcOK_kind hok
    have HR := hidd (specRecB_any kd q id did a c V w1 hk hq2 hid hd (fun hk => hSz (hd hk)) (HV.out.below HB1.out))
    have hpl := partB_len (rcPart (kd, (q : Int), id, (did, V))) (by
      rw [rcPart_hd, List.length_append]
      have := putL_length9 q hq2
      simp only [hdB, List.length_cons]
      by_cases h1 : kd = 1
      · have := hSz (hd h1)
        rw [if_pos h1]; omega
      · rw [if_neg h1]; omega)
    have hpl2 : (partB (rcPart (kd, (q : Int), id, (did, V)))).length ≤ 500001000 := by
      have : (rcPart (kd, (q : Int), id, (did, V))).length ≤ 500000100 := by
        rw [rcPart_hd, List.length_append]
        have := putL_length9 q hq2
        simp only [hdB, List.length_cons]
        by_cases h1 : kd = 1
        · have := hSz (hd h1)
          rw [if_pos h1]; omega
        · rw [if_neg h1]; omega
      omega
    have HO : Hid (rcO (kd, (q : Int), id, (did, V)) = if 1048576 < (partB (rcPart (kd, (q : Int), id, (did, V)))).length then ([], 2) else (partB (rcPart (kd, (q : Int), id, (did, V))), 0)) := by show _ = _; rw [rcO, hok]; rfl
    obtain ⟨B, hB⟩ : ∃ B, partB (rcPart (kd, (q : Int), id, (did, V))) = B := ⟨_, rfl⟩
    rw [hB] at HR hpl2 HO
    clear hok hpl hB hd hSz
    have x0 := blkc HX1.out 0
    have x1 := blkc HX1.out 1
    have x2 := blkc HX1.out 2
    have x3 := blkc HX1.out 3
    have x4 := blkc HX1.out 4
    go_wp2_with fail
    refine HR.out.mono ?_
    rintro e w2 ⟨v2, rfl, hown2, hb2⟩
    obtain ⟨a2, c2, rfl⟩ := own_form hown2
    have HO2 := hidd hown2
    have HB2 := hidd (HB1.out.trans (hb2.mono HB1.out.size))
    have hz2 := hb2.size
    clear hown2 hb2 HR x0 x1 x2 x3 x4 HX1
    by_cases hbig : 1048576 < B.length
    · rw [if_pos hbig] at HO
      have hbz : (B.length : Int) > 1048576 := by omega
      go_wp2_with fail
      go_ret2
      exact ⟨_, by rw [HO.out]; rfl, by rw [HO.out]; exact own_mono (own_empty w2 5) (by omega), HB2.out.alloc (by omega) _⟩
    · rw [if_neg hbig] at HO
      have hbz : ¬ (B.length : Int) > 1048576 := by omega
      go_wp2_with fail
      go_ret2
      exact ⟨_, by rw [HO.out]; rfl, by rw [HO.out]; exact own_mono HO2.out (by omega), HB2.out⟩
end Go.Proofs.YtpdiaddgialanaaGreatDoor
