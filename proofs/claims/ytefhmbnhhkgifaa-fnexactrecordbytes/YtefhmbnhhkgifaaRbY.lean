import Derived.Test.YtefhmbnhhkgifaaRbX
namespace Go.Proofs.Ytefhmbnhhkgifaa
open Go Go.RowKit
set_option linter.unusedVariables false
set_option linter.unusedSimpArgs false
set_option maxRecDepth 100000

set_option maxHeartbeats 4000000 in
theorem part_any (kd : Int) (sq : Nat) (id did : List UInt8) (a : Option Addr) (c : Nat) (V : List Vl) (w : World) (hk : kd = 1 ∨ kd = 2) (hsq : sq < 4611686018427387904) (hid : id.length ≤ 1048576) (hdid : did.length ≤ 1048576) (hn : V.length ≤ 1048576) (hT : ∀ i, (V.getD i vl0).1.length ≤ 1048576 ∧ (V.getD i vl0).2.1.length ≤ 1048576 ∧ (V.getD i vl0).2.2.length ≤ 1048576) (hok : kd = 1 → dcOK (did, V) = true) (hSz : dcOK (did, V) = true → (dcB (did, V)).length ≤ 500000000) (h : HoldV w a V) :
    Calls Try.prog 19 #[.agg #[.int .i64 kd, .int .i64 (sq : Int), .string ⟨id.toArray⟩, .string ⟨did.toArray⟩, .slice a V.length c]] w fun e w' => ∃ v, e = .returned v ∧ w'.ownsRow w.heap.size 5 1 v (rcPart (kd, (sq : Int), id, (did, V))).length (Lib.byteCells (rcPart (kd, (sq : Int), id, (did, V)))) ∧ Below w.heap.size w w' := by
  obtain ⟨i1, hi1, hy0, hy1, hy2⟩ := info_parts Try.infoByte
  have HV := hidd h
  have HBa := hidd ((Below.refl w.heap.size w).alloc (Nat.le_refl _) (.cells #[.int .i64 kd, .int .i64 (sq : Int), .string ⟨id.toArray⟩, .string ⟨did.toArray⟩, .slice a V.length c] 35))
  have HX := hidd (heap_alloc_new w (.cells #[.int .i64 kd, .int .i64 (sq : Int), .string ⟨id.toArray⟩, .string ⟨did.toArray⟩, .slice a V.length c] 35))
  have hsl : (⟨id.toArray⟩ : ByteArray).size = id.length := by rw [Lib.size_eq]
  have HPt : Hid (rcPart (kd, (sq : Int), id, (did, V)) = hdB kd sq ++ if kd = 1 then dcB (did, V) else id) := rcPart_hd kd sq id (did, V)
  have Hh : Hid ([UInt8.ofNat kd.toNat] ++ putL sq = hdB kd sq) := by show _ = _; simp [hdB]
  have hdl : (hdB kd sq).length ≤ 10 ∧ 1 ≤ (hdB kd sq).length := by have := putL_length9 sq hsq; simp [hdB]; omega
  have Hc : Hid (Lib.byteCells [UInt8.ofNat kd.toNat] = [.int .u8 kd]) := by
    show _ = _
    rcases hk with rfl | rfl <;> simp [Lib.byteCells]
  have hwk : IntKind.u8.wrap kd = kd := by rcases hk with rfl | rfl <;> rfl
  clear h
  go_enter Try.func19, Try.ntmps19
  go_upto_region 1 with fail
  obtain ⟨wa, hwa⟩ : ∃ wa, w.alloc (.cells #[.int .i64 kd, .int .i64 (sq : Int), .string ⟨id.toArray⟩, .string ⟨did.toArray⟩, .slice a V.length c] 35) = wa := ⟨_, rfl⟩
  rw [hwa] at HBa HX
  try rw [hwa]
  clear hwa
  have hzw : w.heap.size < wa.heap.size := (Array.getElem?_eq_some_iff.1 HX.out).1
  have x0 := blkc HX.out 0
  have x1 := blkc HX.out 1
  have HO1 := hidd (own_one wa kd)
  have HB1 := hidd ((Below.refl wa.heap.size wa).alloc (Nat.le_refl _) (.cells #[.int .u8 kd] 5))
  have HAp : Hid (Calls Try.prog 37 #[.slice (some ⟨wa.heap.size, 0, none⟩) 1 1, .int .i64 (sq : Int)] (wa.alloc (.cells #[.int .u8 kd] 5)) (AppP wa.heap.size [UInt8.ofNat kd.toNat] (putL sq) (wa.alloc (.cells #[.int .u8 kd] 5)))) := appInt_any wa.heap.size _ [UInt8.ofNat kd.toNat] sq _ hsq (by simp) HB1.out.size (by rw [Hc.out]; exact HO1.out)
  unfold AppP at HAp
  rw [Hh.out] at HAp
  have HXo := hidd (blko HX.out HB1.out)
  have y1 := blkc HXo.out 1
  go_wp2_with fail
  refine HAp.out.mono ?_
  rintro e w2 ⟨v2, rfl, hown2, hb2, hk2⟩
  obtain ⟨g2, c2, rfl, hg2, hg2l⟩ := hown2.form (by omega)
  have HO2 := hidd hown2
  have HB2 := hidd (HB1.out.trans hb2)
  have HX2 := hidd (hk2 _ _ _ (by decide) HXo.out)
  have hz2 := HB2.out.size
  clear hown2 hb2 hk2 HAp HO1 x0 x1 y1 HXo HX Hh Hc
  dsimp only
  obtain ⟨hd, hhd⟩ : ∃ hd, hdB kd sq = hd := ⟨_, rfl⟩
  rw [hhd] at HO2 HPt hdl
  try rw [hhd]
  clear hhd
  have x0 := blkc HX2.out 0
  have x2 := blkc HX2.out 2
  have x3 := blkc HX2.out 3
  have x4 := blkc HX2.out 4
  rcases hk with rfl | rfl
  · have hok1 := hok rfl
    have hSz1 := hSz hok1
    have HD := hidd (fun (W : World) (hW : HoldV W a V) => implDoc_any did a c V W hdid hn hT hSz hW)
    have hdo : docO (did, V) = (dcB (did, V), 0) := by rw [docO, hok1]; rfl
    rw [hdo] at HD
    rw [if_pos rfl] at HPt
    have hpos : 0 < (dcB (did, V)).length := by
      have := putL_pos did.length
      simp only [dcB, txB, List.length_append]; omega
    clear hok hSz hok1 hT hdo
    obtain ⟨DB, hDB⟩ : ∃ DB, dcB (did, V) = DB := ⟨_, rfl⟩
    rw [hDB] at HD HPt hpos hSz1
    clear hDB
    go_wp2_with fail
    refine (HD.out _ ((HV.out.below HBa.out).below HB2.out)).mono ?_
    rintro e w3 ⟨v3, rfl, hown3, hb3⟩
    try dsimp only at hown3
    obtain ⟨g3, c3, rfl, hg3, hg3l⟩ := hown3.form hpos
    have HBy := hidd (own_bytes hown3 rfl)
    have HO3 := hidd (own_below HO2.out hb3)
    have HB3 := hidd (HB2.out.trans (hb3.mono HB2.out.size))
    have hz3 := HB3.out.size
    clear hown3 hb3 HD x0 x2 x3 x4
    dsimp only
    go_wp2_with (at_builtin; refine wpList_append_lies _ rfl _ _ 28 rfl wa.heap.size 5 i1 (.int .u8 0) 1 1 Try.underlying28 hi1 hy0 hy1 hy2 rfl (by decide) (.slice (some ⟨g2, 0, none⟩) hd.length c2) hd.length (Lib.byteCells hd) rfl HO3.out ⟨g3, 0, none⟩ DB.length c3 (Lib.byteCells DB) rfl (by simp [Lib.byteCells]) (bytes_news HBy.out (Below.refl _ _)) (bytes_one _) hpos (by unfold maxLen; omega) (by omega) hz3 _ rfl ?_)
    intro g6 cp6 w6 hown6 hgrow6 hat6 hlt6
    have HB6 : Hid (Below wa.heap.size wa w6) := HB3.out.grown hgrow6 hz3 (fun b hb => (own_blk HO3.out hb).1)
    have HO6 := hidd hown6
    clear hown6 hgrow6 hat6 hlt6
    go_wp2_with fail
    go_ret
    refine ⟨_, rfl, ?_, HBa.out.trans (HB6.out.mono (by omega))⟩
    rw [HPt.out, Lib.byteCells_append, List.length_append]
    exact own_mono HO6.out (by omega)
  · rw [if_neg (by omega)] at HPt
    clear hok hSz hT
    go_wp2_with (at_builtin; refine Lib.wpList_append_own_string _ rfl _ _ 28 9 rfl wa.heap.size 5 i1 Try.underlying28 Try.underlying9 hi1 hy0 hy1 hy2 (.slice (some ⟨g2, 0, none⟩) hd.length c2) hd.length (Lib.byteCells hd) rfl HO2.out ⟨id.toArray⟩ rfl (by rw [hsl]; unfold maxLen; omega) (by rw [hsl]; omega) hz2 ?_)
    intro v7 w7 hown7 hgrow7 hnil7
    rw [strCells_eq] at hown7
    have HB7 : Hid (Below wa.heap.size wa w7) := HB2.out.grown hgrow7 hz2 (fun b hb => (own_blk HO2.out hb).1)
    have HO7 := hidd hown7
    clear hown7 hgrow7 hnil7
    go_wp2_with fail
    go_ret
    refine ⟨_, rfl, ?_, HBa.out.trans (HB7.out.mono (by omega))⟩
    rw [HPt.out, Lib.byteCells_append, List.length_append]
    exact own_mono HO7.out (by omega)
end Go.Proofs.Ytefhmbnhhkgifaa
