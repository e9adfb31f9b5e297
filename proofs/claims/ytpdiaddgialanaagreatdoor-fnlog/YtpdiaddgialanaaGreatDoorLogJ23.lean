import Derived.Test.YtpdiaddgialanaaGreatDoorLogJ22
namespace Go.Proofs.YtpdiaddgialanaaGreatDoor
open Go Go.RowKit
set_option linter.unusedVariables false
set_option linter.unusedSimpArgs false
set_option maxRecDepth 100000

set_option maxHeartbeats 4000000 in
theorem valid_any (kd sq : Int) (id did : List UInt8) (a : Option Addr) (c : Nat) (V : List Vl) (w : World) (hid : id.length ≤ 1048576) (hdid : did.length ≤ 1048576) (hn : V.length ≤ 1048576) (hT : ∀ i, (V.getD i vl0).2.1.length ≤ 1048576 ∧ (V.getD i vl0).2.2.length ≤ 1048576) (h : HoldV w a V) :
    Calls Tryz.prog 17 #[.agg #[.int .i64 kd, .int .i64 sq, .string ⟨id.toArray⟩, .string ⟨did.toArray⟩, .slice a V.length c]] w fun e w' => e = .returned (.bool (rcOK (kd, sq, id, (did, V)))) ∧ Below w.heap.size w w' := by
  have HBa := hidd ((Below.refl w.heap.size w).alloc (Nat.le_refl _) (.cells #[.int .i64 kd, .int .i64 sq, .string ⟨id.toArray⟩, .string ⟨did.toArray⟩, .slice a V.length c] 28))
  have HX := hidd (heap_alloc_new w (.cells #[.int .i64 kd, .int .i64 sq, .string ⟨id.toArray⟩, .string ⟨did.toArray⟩, .slice a V.length c] 28))
  have HI := hidd (fun (l : List UInt8) (W : World) (hl : l.length ≤ 1048576) => implId_any ⟨l.toArray⟩ W (by rw [Lib.size_eq]; exact hl))
  have HF := hidd (fun (W : World) (hW : Below w.heap.size w W) => implStor_any did a c V W hn hT (h.below hW))
  have HW : Hid (∀ W, Calls Tryz.prog 36 #[.int .i64 sq, .int .i64 1, .int .i64 4611686018427387903] W fun e w' => e = .returned (.bool (seqOK sq)) ∧ w' = W) := fun W => within_any sq 1 4611686018427387903 W
  clear h hT
  have HR : Hid (rcOK (kd, sq, id, (did, V)) = (seqOK sq && if kd = 1 then decide (id.length = 0) && idV did && dcOK (did, V) else decide (kd = 2) && idV id && decide (did.length = 0) && decide (V.length = 0))) := rfl
  go_enter Tryz.func17, Tryz.ntmps17
  go_upto_region 1 with fail
  obtain ⟨wa, hwa⟩ : ∃ wa, w.alloc (.cells #[.int .i64 kd, .int .i64 sq, .string ⟨id.toArray⟩, .string ⟨did.toArray⟩, .slice a V.length c] 28) = wa := ⟨_, rfl⟩
  rw [hwa] at HBa HX
  try rw [hwa]
  clear hwa
  have x0 := blkc HX.out 0
  have x1 := blkc HX.out 1
  have x2 := blkc HX.out 2
  have x3 := blkc HX.out 3
  have x4 := blkc HX.out 4
  go_wp2_with fail
  refine (HW.out _).mono ?_
  rintro e w1 ⟨rfl, hw1⟩
  obtain rfl := hw1.symm
  clear hw1 HW
  cases hq : seqOK sq with
  | false =>
    rw [hq] at HR
    go_wp2_with fail
    go_ret
    exact ⟨by rw [HR.out]; rfl, HBa.out⟩
  | true =>
    rw [hq, Bool.true_and] at HR
    clear hq
    by_cases hk : kd = 1
    · rw [if_pos hk] at HR
      subst hk
      have hs := str_eq id
      by_cases h1 : id.length = 0
      · rw [decide_eq_true h1] at hs HR
        rw [Bool.true_and] at HR
        clear h1
        go_wp2_with fail
        refine (HI.out did _ hdid).mono ?_
        rintro e w1 ⟨rfl, hw1⟩
        obtain rfl := hw1.symm
        clear hw1
        rw [lst_mk]
        cases hi : idV did with
        | false =>
          rw [hi] at HR
          go_wp2_with fail
          go_ret
          exact ⟨by rw [HR.out]; rfl, HBa.out⟩
        | true =>
          rw [hi, Bool.true_and] at HR
          clear hi
          go_wp2_with fail
          refine (HF.out _ HBa.out).mono ?_
          rintro e w2 ⟨rfl, hb2⟩
          have HB2 := hidd (HBa.out.trans (hb2.mono HBa.out.size))
          clear hb2
          go_wp2_with fail
          go_ret
          exact ⟨by rw [HR.out]; first | rfl | simp, HB2.out⟩
      · rw [decide_eq_false h1] at hs HR
        clear h1
        go_wp2_with fail
        go_ret
        exact ⟨by rw [HR.out]; rfl, HBa.out⟩
    · rw [if_neg hk] at HR
      by_cases hk2 : kd = 2
      · rw [decide_eq_true hk2, Bool.true_and] at HR
        subst hk2
        have hs := str_eq did
        go_wp2_with fail
        refine (HI.out id _ hid).mono ?_
        rintro e w1 ⟨rfl, hw1⟩
        obtain rfl := hw1.symm
        clear hw1
        rw [lst_mk]
        cases hi : idV id with
        | false =>
          rw [hi] at HR
          go_wp2_with fail
          go_ret
          exact ⟨by rw [HR.out]; rfl, HBa.out⟩
        | true =>
          rw [hi, Bool.true_and] at HR
          clear hi
          by_cases h1 : did.length = 0
          · rw [decide_eq_true h1] at hs HR
            rw [Bool.true_and] at HR
            clear h1
            have hv : ((V.length : Int) == 0) = decide (V.length = 0) := by
              by_cases h : V.length = 0
              · rw [decide_eq_true h, h]; rfl
              · rw [decide_eq_false h]; simp; exact fun e => h (by rw [e]; rfl)
            cases hv2 : decide (V.length = 0) with
            | false =>
              rw [hv2] at hv HR
              clear hv2
              go_wp2_with fail
              go_ret
              exact ⟨by rw [HR.out]; first | rfl | simp, HBa.out⟩
            | true =>
              rw [hv2] at hv HR
              clear hv2
              go_wp2_with fail
              go_ret
              exact ⟨by rw [HR.out]; first | rfl | simp, HBa.out⟩
          · rw [decide_eq_false h1] at hs HR
            clear h1
            go_wp2_with fail
            go_ret
            exact ⟨by rw [HR.out]; rfl, HBa.out⟩
      · rw [decide_eq_false hk2] at HR
        go_wp2_with fail
        go_ret
        exact ⟨by rw [HR.out]; rfl, HBa.out⟩
end Go.Proofs.YtpdiaddgialanaaGreatDoor

namespace Go.Proofs.YtpdiaddgialanaaGreatDoor
open Go Go.RowKit
set_option linter.unusedVariables false
set_option linter.unusedSimpArgs false
set_option maxRecDepth 100000

set_option maxHeartbeats 4000000 in
theorem part_any (kd : Int) (sq : Nat) (id did : List UInt8) (a : Option Addr) (c : Nat) (V : List Vl) (w : World) (hk : kd = 1 ∨ kd = 2) (hsq : sq < 4611686018427387904) (hid : id.length ≤ 1048576) (hdid : did.length ≤ 1048576) (hn : V.length ≤ 1048576) (hT : ∀ i, (V.getD i vl0).1.length ≤ 1048576 ∧ (V.getD i vl0).2.1.length ≤ 1048576 ∧ (V.getD i vl0).2.2.length ≤ 1048576) (hok : kd = 1 → dcOK (did, V) = true) (hSz : dcOK (did, V) = true → (dcB (did, V)).length ≤ 500000000) (h : HoldV w a V) :
    Calls Tryz.prog 19 #[.agg #[.int .i64 kd, .int .i64 (sq : Int), .string ⟨id.toArray⟩, .string ⟨did.toArray⟩, .slice a V.length c]] w fun e w' => ∃ v, e = .returned v ∧ w'.ownsRow w.heap.size 5 1 v (rcPart (kd, (sq : Int), id, (did, V))).length (Lib.byteCells (rcPart (kd, (sq : Int), id, (did, V)))) ∧ Below w.heap.size w w' := by
  obtain ⟨i1, hi1, hy0, hy1, hy2⟩ := info_parts Tryz.infoByte
  have HV := hidd h
  have HBa := hidd ((Below.refl w.heap.size w).alloc (Nat.le_refl _) (.cells #[.int .i64 kd, .int .i64 (sq : Int), .string ⟨id.toArray⟩, .string ⟨did.toArray⟩, .slice a V.length c] 28))
  have HX := hidd (heap_alloc_new w (.cells #[.int .i64 kd, .int .i64 (sq : Int), .string ⟨id.toArray⟩, .string ⟨did.toArray⟩, .slice a V.length c] 28))
  have hsl : (⟨id.toArray⟩ : ByteArray).size = id.length := by rw [Lib.size_eq]
  have HPt : Hid (rcPart (kd, (sq : Int), id, (did, V)) = hdB kd sq ++ if kd = 1 then dcB (did, V) else id) := rcPart_hd kd sq id (did, V)
  have Hh : Hid ([UInt8.ofNat kd.toNat] ++ putL sq = hdB kd sq) := by show _ = _; simp [hdB]
  have hdl : (hdB kd sq).length ≤ 10 ∧ 1 ≤ (hdB kd sq).length := by have := putL_length9 sq hsq; simp [hdB]; omega
  have Hc : Hid (Lib.byteCells [UInt8.ofNat kd.toNat] = [.int .u8 kd]) := by
    show _ = _
    rcases hk with rfl | rfl <;> simp [Lib.byteCells]
  have hwk : IntKind.u8.wrap kd = kd := by rcases hk with rfl | rfl <;> rfl
  clear h
  go_enter Tryz.func19, Tryz.ntmps19
  go_upto_region 1 with fail
  obtain ⟨wa, hwa⟩ : ∃ wa, w.alloc (.cells #[.int .i64 kd, .int .i64 (sq : Int), .string ⟨id.toArray⟩, .string ⟨did.toArray⟩, .slice a V.length c] 28) = wa := ⟨_, rfl⟩
  rw [hwa] at HBa HX
  try rw [hwa]
  clear hwa
  have hzw : w.heap.size < wa.heap.size := (Array.getElem?_eq_some_iff.1 HX.out).1
  have x0 := blkc HX.out 0
  have x1 := blkc HX.out 1
  have HO1 := hidd (own_one wa kd)
  have HB1 := hidd ((Below.refl wa.heap.size wa).alloc (Nat.le_refl _) (.cells #[.int .u8 kd] 5))
  have HAp : Hid (Calls Tryz.prog 40 #[.slice (some ⟨wa.heap.size, 0, none⟩) 1 1, .int .i64 (sq : Int)] (wa.alloc (.cells #[.int .u8 kd] 5)) (AppP wa.heap.size [UInt8.ofNat kd.toNat] (putL sq) (wa.alloc (.cells #[.int .u8 kd] 5)))) := appInt_any wa.heap.size _ [UInt8.ofNat kd.toNat] sq _ hsq (by simp) HB1.out.size (by rw [Hc.out]; exact HO1.out)
  unfold AppP at HAp
  rw [Hh.out] at HAp
  have HXo := hidd (blko HX.out HB1.out)
  have y1 := blkc HXo.out 1
  go_wp2_with fail
  refine HAp.out.mono ?_
  rintro e w2 ⟨v2, rfl, hown2, hb2, hk2⟩
  obtain ⟨g2, c2, rfl, hg2, hg2l⟩ := hown2.form (by omega)
  have HO2 := hidd hown2
  have HB2 := hidd (HB1.out.trans hb2)
  have HX2 := hidd (hk2 _ _ _ (by decide) HXo.out)
  have hz2 := HB2.out.size
  clear hown2 hb2 hk2 HAp HO1 x0 x1 y1 HXo HX Hh Hc
  dsimp only
  obtain ⟨hd, hhd⟩ : ∃ hd, hdB kd sq = hd := ⟨_, rfl⟩
  rw [hhd] at HO2 HPt hdl
  try rw [hhd]
  clear hhd
  have x0 := blkc HX2.out 0
  have x2 := blkc HX2.out 2
  have x3 := blkc HX2.out 3
  have x4 := blkc HX2.out 4
  rcases hk with rfl | rfl
  · have hok1 := hok rfl
    have hSz1 := hSz hok1
    have HD := hidd (fun (W : World) (hW : HoldV W a V) => implDoc_any did a c V W hdid hn hT hSz hW)
    have hdo : docO (did, V) = (dcB (did, V), 0) := by rw [docO, hok1]; rfl
    rw [hdo] at HD
    rw [if_pos rfl] at HPt
    have hpos : 0 < (dcB (did, V)).length := by
      have := putL_pos did.length
      simp only [dcB, txB, List.length_append]; omega
    clear hok hSz hok1 hT hdo
    obtain ⟨DB, hDB⟩ : ∃ DB, dcB (did, V) = DB := ⟨_, rfl⟩
    rw [hDB] at HD HPt hpos hSz1
    clear hDB
    go_wp2_with fail
    refine (HD.out _ ((HV.out.below HBa.out).below HB2.out)).mono ?_
    rintro e w3 ⟨v3, rfl, hown3, hb3⟩
    try dsimp only at hown3
    obtain ⟨g3, c3, rfl, hg3, hg3l⟩ := hown3.form hpos
    have HBy := hidd (own_bytes hown3 rfl)
    have HO3 := hidd (own_below HO2.out hb3)
    have HB3 := hidd (HB2.out.trans (hb3.mono HB2.out.size))
    have hz3 := HB3.out.size
    clear hown3 hb3 HD x0 x2 x3 x4
    dsimp only
    go_wp2_with (at_builtin; refine wpList_append_lies _ rfl _ _ 22 rfl wa.heap.size 5 i1 (.int .u8 0) 1 1 Tryz.underlying22 hi1 hy0 hy1 hy2 rfl (by decide) (.slice (some ⟨g2, 0, none⟩) hd.length c2) hd.length (Lib.byteCells hd) rfl HO3.out ⟨g3, 0, none⟩ DB.length c3 (Lib.byteCells DB) rfl (by simp [Lib.byteCells]) (bytes_news HBy.out (Below.refl _ _)) (bytes_one _) hpos (by unfold maxLen; omega) (by omega) hz3 _ rfl ?_)
    intro g6 cp6 w6 hown6 hgrow6 hat6 hlt6
    have HB6 : Hid (Below wa.heap.size wa w6) := HB3.out.grown hgrow6 hz3 (fun b hb => (own_blk HO3.out hb).1)
    have HO6 := hidd hown6
    clear hown6 hgrow6 hat6 hlt6
    go_wp2_with fail
    go_ret
    refine ⟨_, rfl, ?_, HBa.out.trans (HB6.out.mono (by omega))⟩
    rw [HPt.out, Lib.byteCells_append, List.length_append]
    exact own_mono HO6.out (by omega)
  · rw [if_neg (by omega)] at HPt
    clear hok hSz hT
    go_wp2_with (at_builtin; refine Lib.wpList_append_own_string _ rfl _ _ 22 9 rfl wa.heap.size 5 i1 Tryz.underlying22 Tryz.underlying9 hi1 hy0 hy1 hy2 (.slice (some ⟨g2, 0, none⟩) hd.length c2) hd.length (Lib.byteCells hd) rfl HO2.out ⟨id.toArray⟩ rfl (by rw [hsl]; unfold maxLen; omega) (by rw [hsl]; omega) hz2 ?_)
    intro v7 w7 hown7 hgrow7 hnil7
    rw [strCells_eq] at hown7
    have HB7 : Hid (Below wa.heap.size wa w7) := HB2.out.grown hgrow7 hz2 (fun b hb => (own_blk HO2.out hb).1)
    have HO7 := hidd hown7
    clear hown7 hgrow7 hnil7
    go_wp2_with fail
    go_ret
    refine ⟨_, rfl, ?_, HBa.out.trans (HB7.out.mono (by omega))⟩
    rw [HPt.out, Lib.byteCells_append, List.length_append]
    exact own_mono HO7.out (by omega)
end Go.Proofs.YtpdiaddgialanaaGreatDoor

namespace Go.Proofs.YtpdiaddgialanaaGreatDoor
open Go Go.RowKit
set_option linter.unusedVariables false
set_option linter.unusedSimpArgs false
set_option maxRecDepth 100000

theorem rbx_convS (W : World) (ρ : Operand → Value) (o : Oper) (x : Operand) (ho : o.op = .convert 22 9 x) (b n c : Nat) (l : List UInt8) (hl : l.length = n) (hx : ρ x = .slice (some ⟨b, 0, none⟩) n c) (hB : BytesAt W b 0 l) : (execOp ρ o).run Tryz.prog W = .ok (.value (.string ⟨l.toArray⟩)) W := by
  have h := conv_takeR (W := W) (a := some ⟨b, 0, none⟩) (n := n) (c := c) (l := l) hl (Or.inr ⟨b, 0, rfl, hB⟩)
  unfold execOp
  simp only [ho, hx, Sem.run_bind, Sem.run_pure, h, Result.andThen_ok]
theorem rbx_move (W : World) (ρ : Operand → Value) (o : Oper) (x : Operand) (ho : o.op = .move x) (v : Value) (hx : ρ x = v) : (execOp ρ o).run Tryz.prog W = .ok (.value v) W := by
  unfold execOp
  simp only [ho, Sem.run_pure, hx]
set_option maxHeartbeats 4000000 in
theorem implRec_any : RecC 6 := by
  intro kd sq id did a c V w hid hdid hn hT hSz hle h
  obtain ⟨i1, hi1, hy0, hy1, hy2⟩ := info_parts Tryz.infoByte
  have HV := hidd h
  have HBa := hidd ((Below.refl w.heap.size w).alloc (Nat.le_refl _) (.cells #[.int .i64 kd, .int .i64 sq, .string ⟨id.toArray⟩, .string ⟨did.toArray⟩, .slice a V.length c] 28))
  have HX := hidd (heap_alloc_new w (.cells #[.int .i64 kd, .int .i64 sq, .string ⟨id.toArray⟩, .string ⟨did.toArray⟩, .slice a V.length c] 28))
  have HK := hidd (fun (W : World) (hW : HoldV W a V) => valid_any kd sq id did a c V W hid hdid hn (fun i => (hT i).2) hW)
  have HLs := hidd (fun (W : World) (hW : HoldV W a V) => least_any did a c V W hn hT hle hW)
  have HPa := hidd (fun (q : Nat) (W : World) (hk : kd = 1 ∨ kd = 2) (hq : q < 4611686018427387904) (hok : kd = 1 → dcOK (did, V) = true) (hW : HoldV W a V) => part_any kd q id did a c V W hk hq hid hdid hn hT hok hSz hW)
  clear h hT
  go_enter Tryz.func6, Tryz.ntmps6
  go_upto_region 1 with fail
  obtain ⟨wa, hwa⟩ : ∃ wa, w.alloc (.cells #[.int .i64 kd, .int .i64 sq, .string ⟨id.toArray⟩, .string ⟨did.toArray⟩, .slice a V.length c] 28) = wa := ⟨_, rfl⟩
  rw [hwa] at HBa HX
  try rw [hwa]
  clear hwa
  have hzw : w.heap.size < wa.heap.size := (Array.getElem?_eq_some_iff.1 HX.out).1
  have x0 := blkc HX.out 0
  have x1 := blkc HX.out 1
  have x2 := blkc HX.out 2
  have x3 := blkc HX.out 3
  have x4 := blkc HX.out 4
  go_wp2_with fail
  refine (HK.out _ (HV.out.below HBa.out)).mono ?_
  rintro e w1 ⟨rfl, hb1⟩
  have HB1 := hidd (HBa.out.trans (hb1.mono HBa.out.size))
  have HX1 := hidd (blko HX.out hb1)
  have hz1 := hb1.size
  clear hb1 x0 x1 x2 x3 x4 HX HK
  cases hok : rcOK (kd, sq, id, (did, V)) with
  | false =>
    have HO : Hid (rcO (kd, sq, id, (did, V)) = ([], 1)) := by show _ = _; rw [rcO, hok]; rfl
    clear hok
    go_wp2_with fail
    go_ret2
    exact ⟨_, by rw [HO.out]; rfl, by rw [HO.out]; exact World.ownsRow_nil _ _ _ _, HB1.out⟩
  | true =>
    obtain ⟨hk, ⟨q, rfl, hq1, hq2⟩, hd, hi30⟩ := rcOK_kind hok
    have hpl2 : (rcPart (kd, (q : Int), id, (did, V))).length ≤ 500000100 ∧ 1 ≤ (rcPart (kd, (q : Int), id, (did, V))).length := by
      rw [rcPart_hd, List.length_append]
      have := putL_length9 q hq2
      simp only [hdB, List.length_cons]
      by_cases h1 : kd = 1
      · have := hSz (hd h1)
        rw [if_pos h1]; omega
      · rw [if_neg h1]; omega
    have HO : Hid (rcO (kd, (q : Int), id, (did, V)) = if 1048576 < (partB (rcPart (kd, (q : Int), id, (did, V)))).length then ([], 2) else (partB (rcPart (kd, (q : Int), id, (did, V))), 0)) := by show _ = _; rw [rcO, hok]; rfl
    have HR := hidd (fun (W : World) (hW : HoldV W a V) => HPa.out q W hk hq2 hd hW)
    obtain ⟨M, hM⟩ : ∃ M, rcPart (kd, (q : Int), id, (did, V)) = M := ⟨_, rfl⟩
    rw [hM] at HR hpl2 HO
    clear hok hM hd hSz HPa
    have x0 := blkc HX1.out 0
    have x1 := blkc HX1.out 1
    have x2 := blkc HX1.out 2
    have x3 := blkc HX1.out 3
    have x4 := blkc HX1.out 4
    have hlz : ¬ (leV V : Int) > 1048576 := by omega
    go_wp2_with fail
    refine (HLs.out _ (HV.out.below HB1.out)).mono ?_
    rintro e w2 ⟨rfl, hb2⟩
    have HB2 := hidd (HB1.out.trans (hb2.mono HB1.out.size))
    have HX2 := hidd (blko HX1.out hb2)
    have hz2 := hb2.size
    clear hb2 x0 x1 x2 x3 x4 HX1 HLs
    have x0 := blkc HX2.out 0
    have x1 := blkc HX2.out 1
    have x2 := blkc HX2.out 2
    have x3 := blkc HX2.out 3
    have x4 := blkc HX2.out 4
    dsimp only
    go_wp2_with fail
    refine (HR.out _ (HV.out.below HB2.out)).mono ?_
    rintro e w3 ⟨v3, rfl, hown3, hb3⟩
    obtain ⟨g3, c3, rfl, hg3, hg3l⟩ := hown3.form (by omega)
    have HBy := hidd (own_bytes hown3 rfl)
    have HO3 := hidd hown3
    have HB3 := hidd (HB2.out.trans (hb3.mono HB2.out.size))
    have hz3 := hb3.size
    clear hown3 hb3 x0 x1 x2 x3 x4 HX2 HR
    have hsm := sumL_lt M
    have HSu := hidd (sumBytes_any g3 0 c3 M w3 HBy.out hg3l)
    have HEnd : Hid (partB M = txB M ++ four (sumL M)) := rfl
    obtain ⟨sm, hsme⟩ : ∃ sm, sumL M = sm := ⟨_, rfl⟩
    rw [hsme] at hsm HEnd HSu
    clear hsme
    dsimp only
    go_wp2_with fail
    refine HSu.out.mono ?_
    rintro e w4 ⟨rfl, hb4⟩
    have HB4 := hidd (HB3.out.trans (hb4.mono HB3.out.size))
    have HBy4 := hidd (HBy.out.below hb4)
    have hz4 := hb4.size
    clear hb4 HSu HBy HO3
    dsimp only
    go_upto_region 7 with fail
    have HX5 := hidd (heap_alloc_new w4 (.cells #[.int .u8 ((sm : Int) / 16777216), .int .u8 ((sm : Int) / 65536 % 256), .int .u8 ((sm : Int) / 256 % 256), .int .u8 ((sm : Int) % 256)] 54))
    have HB5 := hidd ((Below.refl w4.heap.size w4).alloc (Nat.le_refl _) (.cells #[.int .u8 ((sm : Int) / 16777216), .int .u8 ((sm : Int) / 65536 % 256), .int .u8 ((sm : Int) / 256 % 256), .int .u8 ((sm : Int) % 256)] 54))
    obtain ⟨w5, hw5⟩ : ∃ w5, w4.alloc (.cells #[.int .u8 ((sm : Int) / 16777216), .int .u8 ((sm : Int) / 65536 % 256), .int .u8 ((sm : Int) / 256 % 256), .int .u8 ((sm : Int) % 256)] 54) = w5 := ⟨_, rfl⟩
    rw [hw5] at HX5 HB5
    try rw [hw5]
    clear hw5
    obtain ⟨Q5, hQ5⟩ : ∃ Q5, w4.heap.size = Q5 := ⟨_, rfl⟩
    rw [hQ5] at HX5
    try rw [hQ5]
    have HBy5 := hidd (HBy4.out.below HB5.out)
    have HBw := hidd (HB4.out.trans (HB5.out.mono HB4.out.size))
    have hz5 := HB5.out.size
    have hQ5l : Q5 < w5.heap.size := (Array.getElem?_eq_some_iff.1 HX5.out).1
    clear hQ5
    go_cut [6] (fun v wr => ∃ g c, v = .slice (some ⟨g, 0, none⟩) (partB M).length c ∧ wr.ownsRow w5.heap.size 5 1 v (partB M).length (Lib.byteCells (partB M)) ∧ Below w5.heap.size w5 wr)
    case first =>
      have hB1 : Below w5.heap.size w5 w5.drew := below_drewN (Below.refl _ w5) 1
      have HSb : Hid (∀ W, Below w5.heap.size w5 W → BytesAt W g3 0 M) := fun W hW => HBy5.out.below hW
      have hS0 := HSb.out _ hB1
      have htb : (txB M).length ≤ 500000200 ∧ 1 ≤ (txB M).length := by
        have := putL_length9 M.length (by omega)
        have := putL_pos M.length
        rw [txB, List.length_append]; omega
      have HT : Hid (Calls Tryz.prog 21 #[.slice none 0 0, .string ⟨M.toArray⟩] w5.drew (AppP w5.drew.heap.size [] (txB M) w5.drew)) := appTextL_any w5.drew.heap.size (.slice none 0 0) [] M w5.drew (by omega) (by simp) (Nat.le_refl _) (World.ownsRow_nil _ _ _ _)
      unfold AppP at HT
      simp only [List.nil_append] at HT
      refine wp_region_held (S := fun W => BytesAt W g3 0 M) (by kernel_rfl) ?_
      try simp only [Act.put, List.getElem_toArray, List.getElem_cons_succ, List.getElem_cons_zero, List.setIfInBounds_toArray, List.set_cons_zero, List.set_cons_succ]
      refine tkW 0 (v := .slice (some ⟨g3, 0, none⟩) M.length c3) (hx := fun W hW => rbx_move W _ _ _ rfl _ (by kernel_rfl)) (h := ?_)
      try simp only [Act.put, List.getElem_toArray, List.getElem_cons_succ, List.getElem_cons_zero, List.setIfInBounds_toArray, List.set_cons_zero, List.set_cons_succ]
      refine tkW 1 (v := .string ⟨M.toArray⟩) (hx := fun W hW => rbx_convS W _ _ _ rfl g3 M.length c3 M rfl (by kernel_rfl) hW) (h := ?_)
      try simp only [Act.put, List.getElem_toArray, List.getElem_cons_succ, List.getElem_cons_zero, List.setIfInBounds_toArray, List.set_cons_zero, List.set_cons_succ]
      refine tkX 3 (v := .slice (some ⟨Q5, 0, none⟩) 4 4) (h := ?_)
      try simp only [Act.put, List.getElem_toArray, List.getElem_cons_succ, List.getElem_cons_zero, List.setIfInBounds_toArray, List.set_cons_zero, List.set_cons_succ]
      refine wpAnyH_one 2 (by kernel_rfl) ?_
      refine wpOp_call 21 #[.slice none 0 0, .string ⟨M.toArray⟩] rfl (by kernel_rfl) (rbx_call2 _ _ _ _ _ _ _ _ rfl _ _ (by kernel_rfl) (by kernel_rfl) (Tryz.call21 _ _)) ?_
      refine HT.out.mono ?_
      rintro e w6 ⟨v6, rfl, hown6, hb6, hk6⟩
      obtain ⟨g6, c6, rfl, hg6, hg6l⟩ := hown6.form (by omega)
      have hB6 : Below w5.heap.size w5 w6 := hB1.trans (hb6.mono hB1.size)
      refine ⟨HSb.out _ hB6, ?_⟩
      try simp only [Act.put, List.getElem_toArray, List.getElem_cons_succ, List.getElem_cons_zero, List.setIfInBounds_toArray, List.set_cons_zero, List.set_cons_succ]
      refine wpAnyH_one 4 (by kernel_rfl) ?_
      refine wpOp_wp rfl (by kernel_rfl) (wp_append_lies _ (.tmp 20) (.tmp 21) 22 rfl w5.heap.size 5 i1 (.int .u8 0) 1 1 Tryz.underlying22 hi1 hy0 hy1 hy2 rfl (by decide) (.slice (some ⟨g6, 0, none⟩) (txB M).length c6) (txB M).length (Lib.byteCells (txB M)) (by kernel_rfl) hown6 ⟨Q5, 0, none⟩ 4 4 [.int .u8 ((sm : Int) / 16777216), .int .u8 ((sm : Int) / 65536 % 256), .int .u8 ((sm : Int) / 256 % 256), .int .u8 ((sm : Int) % 256)] (by kernel_rfl) rfl (World.news_of_block (blko HX5.out hB6)) (by intro u' hu'; simp at hu'; rcases hu' with rfl | rfl | rfl | rfl <;> rfl) (by decide) (by unfold maxLen; omega) (by omega) hB6.size _ rfl ?_)
      intro g7 cp7 w7 hown7 hgrow7 hat7 hlt7
      have hB7 : Below w5.heap.size w5 w7 := hB6.grown hgrow7 hB6.size (fun b hb => (own_blk hown6 hb).1)
      have HLe : Hid ((partB M).length = (txB M).length + 4) := by show _ = _; rw [HEnd.out, List.length_append, four_len]
      have HO7 : Hid (w7.ownsRow w5.heap.size 5 1 (.slice (some ⟨g7, 0, none⟩) ((txB M).length + 4) cp7) (partB M).length (Lib.byteCells (partB M))) := by
        show World.ownsRow _ _ _ _ _ _ _
        rw [HLe.out, HEnd.out, four_cells sm hsm]
        exact hown7
      have HB7 := hidd hB7
      refine ⟨HSb.out _ hB7, ?_⟩
      try simp only [Act.put, List.getElem_toArray, List.getElem_cons_succ, List.getElem_cons_zero, List.setIfInBounds_toArray, List.set_cons_zero, List.set_cons_succ]
      have hS7 := HSb.out _ hB7
      refine tkW 5 (v := .slice (some ⟨g7, 0, none⟩) ((txB M).length + 4) cp7) (hx := fun W hW => rbx_assign W _ _ _ rfl _ (by kernel_rfl)) (h := ?_)
      try simp only [Act.put, List.getElem_toArray, List.getElem_cons_succ, List.getElem_cons_zero, List.setIfInBounds_toArray, List.set_cons_zero, List.set_cons_succ]
      refine wpAnyH_done (by kernel_rfl) ?_ _
      clear hS0 hS7 hB1 hB6 hb6 hk6 hown6 hown7 hgrow7 hat7 hlt7 hB7 HT
      go_wp2_with fail
      go_meet
      case rel => exact ⟨g7, cp7, by rw [HLe.out], HO7.out, HB7.out⟩
    case rest =>
      obtain ⟨g8, c8, rfl, hown8, hb8⟩ := hcut
      have HO8 := hidd hown8
      have HB8 := hidd (HBw.out.trans (hb8.mono HBw.out.size))
      have hpl := partB_len M (by omega)
      have hwz := HBw.out.size
      clear hown8 hb8 HX5 HBy5 HBy4 HEnd
      obtain ⟨B, hB⟩ : ∃ B, partB M = B := ⟨_, rfl⟩
      rw [hB] at HO8 HO hpl
      try rw [hB]
      clear hB
      by_cases hbig : 1048576 < B.length
      · rw [if_pos hbig] at HO
        have hbz : (B.length : Int) > 1048576 := by omega
        go_wp2_with fail
        go_ret2
        exact ⟨_, by rw [HO.out]; rfl, by rw [HO.out]; exact World.ownsRow_nil _ _ _ _, HB8.out⟩
      · rw [if_neg hbig] at HO
        have hbz : ¬ (B.length : Int) > 1048576 := by omega
        go_wp2_with fail
        go_ret2
        exact ⟨_, by rw [HO.out]; rfl, by rw [HO.out]; exact own_mono HO8.out (by omega), HB8.out⟩
end Go.Proofs.YtpdiaddgialanaaGreatDoor
