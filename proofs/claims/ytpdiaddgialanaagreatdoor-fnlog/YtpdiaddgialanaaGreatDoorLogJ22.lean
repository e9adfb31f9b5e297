import Derived.Test.YtpdiaddgialanaaGreatDoorLogJ21
import Derived.Test.YtpdiaddgialanaaGreatDoorLogJ20
import Derived.Test.YtpdiaddgialanaaGreatDoorLogJ01
namespace Go.Proofs.YtpdiaddgialanaaGreatDoor
open Go Go.RowKit
set_option linter.unusedVariables false
set_option maxRecDepth 100000

theorem preF_cut {X : Type} (f : X → List UInt8) (M : List UInt8) (l : List X) (k : Nat) : (preF f M l k).length ≤ (M ++ l.flatMap f).length := by
  have e : M ++ l.flatMap f = preF f M l k ++ (l.drop k).flatMap f := by
    rw [preF, List.append_assoc, ← List.flatMap_append, List.take_append_drop]
  rw [e, List.length_append]; omega
def cB (N : List UInt8) (tx : List (List UInt8)) (nz : List Int) : Nat → List UInt8
  | 0 => N
  | 1 => N ++ putL tx.length ++ tx.flatMap txB
  | _ => N ++ putL tx.length ++ tx.flatMap txB ++ putL nz.length ++ nz.flatMap nuB
set_option maxHeartbeats 8000000 in
theorem implDoc_any (id : List UInt8) (a : Option Addr) (c : Nat) (V : List Vl) (w : World) (hid0 : id.length ≤ 1048576) (hn : V.length ≤ 1048576) (hT : ∀ i, (V.getD i vl0).1.length ≤ 1048576 ∧ (V.getD i vl0).2.1.length ≤ 1048576 ∧ (V.getD i vl0).2.2.length ≤ 1048576) (hSz : dcOK (id, V) = true → (dcB (id, V)).length ≤ 500000000) (h : HoldV w a V) :
    Calls Tryz.prog 41 #[.agg #[.string ⟨id.toArray⟩, .slice a V.length c]] w fun e w' => ∃ v, e = .returned (.tuple #[v, .int .i64 (docO (id, V)).2]) ∧ w'.ownsRow w.heap.size 5 1 v (docO (id, V)).1.length (Lib.byteCells (docO (id, V)).1) ∧ Below w.heap.size w w' := by
  have HV := hidd h
  have HF := hidd (fun W (hW : Below w.heap.size w W) => implStor_any id a c V W hn (fun i => (hT i).2) (h.below hW))
  clear h hT
  have HBa := hidd ((Below.refl w.heap.size w).alloc (Nat.le_refl _) (.cells #[.string ⟨id.toArray⟩, .slice a V.length c] 26))
  have HX := hidd (heap_alloc_new w (.cells #[.string ⟨id.toArray⟩, .slice a V.length c] 26))
  have ix0 : ∀ (x y : Value) (w : World), (Instr.index 120 (.agg #[x, y]) (.int .i64 0)).run Tryz.prog w = .ok x w := ixA0
  have ix1 : ∀ (x y : Value) (w : World), (Instr.index 120 (.agg #[x, y]) (.int .i64 1)).run Tryz.prog w = .ok y w := ixA1
  have m1 := mTxcount
  have m2 := mTxappendTo
  have m3 := mNucount
  have m4 := mNuappendTo
  go_enter Tryz.func41, Tryz.ntmps41
  go_wp2_with fail
  refine (HF.out _ HBa.out).mono ?_
  rintro e w1 ⟨rfl, hb1⟩
  have HB1 := hidd (HBa.out.trans (hb1.mono HBa.out.size))
  have HX1 := hidd (blko HX.out hb1)
  clear hb1 HX HF HBa
  dsimp only
  cases hok : dcOK (id, V) with
  | false =>
    have HO : Hid (docO (id, V) = ([], 12)) := by show _ = _; rw [docO, hok]; rfl
    clear hok
    have hz := HB1.out.size
    go_wp2_with fail
    go_ret2
    exact ⟨_, by rw [HO.out]; rfl, by rw [HO.out]; exact World.ownsRow_nil _ _ _ _, HB1.out⟩
  | true =>
    have HO : Hid (docO (id, V) = (dcB (id, V), 0)) := by show _ = _; rw [docO, hok]; rfl
    obtain ⟨⟨hid, hVl⟩, hvs⟩ := dcOK_parts hok
    have HVs := hidd hvs
    replace hSz := hSz hok
    dsimp only at hid hVl HVs
    clear hok hvs
    have HE : Hid (dcB (id, V) = preF vlB (txB id ++ putL V.length) V V.length) := by show _ = _; rw [preF_all]; rfl
    have hti := txB_len hid
    have hpv := putL_length9 V.length (by omega)
    have hzw : w.heap.size < w1.heap.size := (Array.getElem?_eq_some_iff.1 HX1.out).1
    have x0 := blkc HX1.out 0
    have x1 := blkc HX1.out 1
    have HP0 := hidd (appText_any w1.heap.size (.slice none 0 0) [] id w1 hid (by simp) (Nat.le_refl _) (World.ownsRow_nil _ _ _ _))
    unfold AppP at HP0
    go_wp2_with fail
    refine HP0.out.mono ?_
    rintro e w2 ⟨v2, rfl, hown2, hb2, hk2⟩
    rw [List.nil_append] at hown2
    have HO2 := hidd hown2
    have HB2 := hidd hb2
    have hz2 := hb2.size
    replace x0 := (hb2.cell (p := ⟨w.heap.size, 0, none⟩) hzw).trans x0
    replace x1 := (hb2.cell (p := ⟨w.heap.size, 1, none⟩) hzw).trans x1
    clear hown2 hb2 hk2 HP0
    dsimp only
    have HP2 := hidd (appInt_any w1.heap.size v2 _ V.length w2 (by omega) (by omega) hz2 HO2.out)
    unfold AppP at HP2
    go_wp2_with fail
    refine HP2.out.mono ?_
    rintro e w4 ⟨v4, rfl, hown4, hb4, hk4⟩
    have HB4 := hidd (HB2.out.trans hb4)
    have HO4 : Hid (w4.ownsRow w1.heap.size 5 1 v4 (preF vlB (txB id ++ putL V.length) V 0).length (Lib.byteCells (preF vlB (txB id ++ putL V.length) V 0))) := by
      show World.ownsRow _ _ _ _ _ _ _
      rw [preF_zero]
      exact hown4
    replace x0 := (hb4.cell (p := ⟨w.heap.size, 0, none⟩) hzw).trans x0
    replace x1 := (hb4.cell (p := ⟨w.heap.size, 1, none⟩) hzw).trans x1
    clear hown4 hb4 hk4 HP2 HO2 HB2
    have hSz2 : (txB id ++ putL V.length ++ V.flatMap vlB).length ≤ 500000000 := hSz
    have HLen := hidd (fun k => Nat.le_trans (preF_cut vlB (txB id ++ putL V.length) V k) hSz2)
    have HSt := hidd (fun (k : Nat) (hk : k < V.length) => preF_step vlB (txB id ++ putL V.length) V vl0 hk)
    clear hSz hSz2
    generalize (txB id ++ putL V.length) = M0 at HO4 HE HLen HSt
    dsimp only
    go_wp2_with fail
    go_loopw [4, 23] (fun v iv wr => ∃ k : Nat, k ≤ V.length ∧ iv = .int .i64 (k : Int) ∧ wr.ownsRow w1.heap.size 5 1 v (preF vlB M0 V k).length (Lib.byteCells (preF vlB M0 V k)) ∧ Below w1.heap.size w1 wr) (fun _ iv _ => V.length - (intOf iv).toNat)
    case atStart => exact ⟨0, Nat.zero_le _, rfl, HO4.out, HB4.out⟩
    case round =>
      obtain ⟨k, hk, rfl, hown, hbel⟩ := hrel
      clear HO4 HB4 x0 x1
      have HOw := hidd hown
      have HBe := hidd hbel
      clear hown hbel
      have hpl := HLen.out k
      have hwz := HBe.out.size
      by_cases hlt : k < V.length
      · have hltz : (k : Int) < (V.length : Int) := by omega
        obtain ⟨b, off, rfl, hb, hc⟩ := HV.out.resolve_left (fun e => by rw [e] at hlt; simp at hlt)
        obtain ⟨c0, ⟨at_, ct, c1, hTx⟩, an, cn, c2, hZ⟩ := hc k hlt
        have hBw := HB1.out.trans (HBe.out.mono HB1.out.size)
        replace c0 := (hBw.cell (p := ⟨b, off + k * 3, none⟩) hb).trans c0
        replace c1 := (hBw.cell (p := ⟨b, off + k * 3 + 1, none⟩) hb).trans c1
        replace c2 := (hBw.cell (p := ⟨b, off + k * 3 + 2, none⟩) hb).trans c2
        clear hBw
        have hvk := vlOK_parts (HVs.out (V.getD k vl0) (getD_mem hlt))
        have Hst := hidd (HSt.out k hlt)
        have hpl2 := HLen.out (k + 1)
        obtain ⟨v, hv⟩ : ∃ v, V.getD k vl0 = v := ⟨_, rfl⟩
        rw [hv] at c0 c1 c2 hTx hZ hvk Hst
        clear hv
        obtain ⟨f, tx, nz⟩ := v
        dsimp only at c0 c1 c2 hTx hZ hvk
        obtain ⟨⟨hf, hxl, hnl⟩, hxs, hns⟩ := hvk
        have HXs := hidd hxs
        have HNs := hidd hns
        have HTx := hidd hTx
        have HZ := hidd hZ
        clear hc hTx hZ hxs hns
        have HBv := hidd ((Below.refl wr.heap.size wr).alloc (Nat.le_refl _) (.cells #[.string ⟨f.toArray⟩, .slice at_ tx.length ct, .slice an nz.length cn] 88))
        have HXv := hidd (heap_alloc_new wr (.cells #[.string ⟨f.toArray⟩, .slice at_ tx.length ct, .slice an nz.length cn] 88))
        go_upto_region 8 with fail
        obtain ⟨wv, hwv⟩ : ∃ wv, wr.alloc (.cells #[.string ⟨f.toArray⟩, .slice at_ tx.length ct, .slice an nz.length cn] 88) = wv := ⟨_, rfl⟩
        rw [hwv] at HBv HXv
        try rw [hwv]
        clear hwv
        obtain ⟨Q, hQ⟩ : ∃ Q, wr.heap.size = Q := ⟨_, rfl⟩
        rw [hQ] at HXv
        try rw [hQ]
        have HOv := hidd (own_below HOw.out HBv.out)
        have HBw : Hid (Below w1.heap.size w1 wv) := HBe.out.trans (HBv.out.mono hwz)
        have v0 := blkc HXv.out 0
        have hvz := HBw.out.size
        obtain ⟨N, hN⟩ : ∃ N, preF vlB M0 V k = N := ⟨_, rfl⟩
        rw [hN] at HOv hpl Hst
        have HPT := hidd (appText_any w1.heap.size _ N f wv hf (by omega) hvz HOv.out)
        unfold AppP at HPT
        clear c0 c1 c2 HOw hQ HBv hN
        go_wp2_with fail
        refine HPT.out.mono ?_
        rintro e w5 ⟨v5, rfl, hown5, hb5, hk5⟩
        have HO5 := hidd hown5
        have HB5 : Hid (Below w1.heap.size w1 w5) := HBw.out.trans hb5
        have HX5 := hidd (hk5 _ _ _ (by decide) HXv.out)
        have hz5 := HB5.out.size
        have y0 := blkc HX5.out 0
        have y1 := blkc HX5.out 1
        have y2 := blkc HX5.out 2
        clear hown5 hb5 hk5 HPT v0 HXv HOv HBw
        have Hst2 : Hid (preF vlB M0 V (k + 1) = cB (N ++ txB f) tx nz 2) := by show _ = _; rw [Hst.out]; simp [vlB, cB]
        rw [Hst2.out] at hpl2
        obtain ⟨N5, hN5⟩ : ∃ N5, N ++ txB f = N5 := ⟨_, rfl⟩
        rw [hN5] at HO5 Hst2 hpl2
        try rw [hN5]
        clear hN5 Hst
        have HLc : Hid (∀ j, (cB N5 tx nz j).length ≤ 500000000) := by
          intro j
          simp only [cB, List.length_append] at hpl2
          match j with
          | 0 => simp only [cB]; omega
          | 1 => simp only [cB, List.length_append]; omega
          | _ + 2 => simp only [cB, List.length_append]; omega
        clear hpl2
        have HC := hidd (contents_any f at_ an tx.length ct nz.length cn w5)
        dsimp only
        go_wp2_with fail
        refine HC.out.mono ?_
        rintro e w6 ⟨rfl, hb6⟩
        have HO6 := hidd (own_below HO5.out hb6)
        have HB6 := hidd (HB5.out.trans (hb6.mono HB5.out.size))
        clear hb6 HC y0 y1 y2 HO5 HB5 HX5
        dsimp only
        go_wp2_with fail
        go_loopw [4, 33] (fun v jv wx => ∃ j : Nat, j ≤ 2 ∧ jv = .int .i64 (j : Int) ∧ wx.ownsRow w1.heap.size 5 1 v (cB N5 tx nz j).length (Lib.byteCells (cB N5 tx nz j)) ∧ Below w1.heap.size w1 wx) (fun _ jv _ => 2 - (intOf jv).toNat)
        case atStart => exact ⟨0, by omega, rfl, HO6.out, HB6.out⟩
        case round =>
          obtain ⟨j, hj, rfl, hown, hbel⟩ := hrel
          clear HO6 HB6
          have HOx := hidd hown
          have HBx := hidd hbel
          have hzx := hbel.size
          clear hown hbel
          have hj3 : j = 0 ∨ j = 1 ∨ j = 2 := by omega
          rcases hj3 with rfl | rfl | rfl
          · have hcE : cB N5 tx nz 0 = N5 := rfl
            rw [hcE] at HOx
            have hl0 : (N5).length ≤ 500000000 := by rw [← hcE]; exact HLc.out 0
            have hl1 : (N5 ++ putL tx.length).length ≤ 500000009 := by rw [List.length_append]; have := putL_length9 tx.length (by omega); omega
            have Hen : Hid (cB N5 tx nz 1 = N5 ++ putL tx.length ++ tx.flatMap txB) := rfl
            clear hcE
            generalize N5 = NK at HOx hl0 hl1 Hen
            have HC1 := hidd (txCount_any at_ tx.length ct wr (by omega))
            have HI1 := hidd (appInt_any w1.heap.size u4 NK tx.length wr (by omega) (by omega) hzx HOx.out)
            unfold AppP at HI1
            go_wp2_with (go_at_call 171; refine HC1.out.mono ?_; rintro e w6 ⟨rfl, hw6⟩; have hw7 := hw6.symm; subst hw7; clear hw6)
            refine HI1.out.mono ?_
            rintro e w6 ⟨v6, rfl, hown6, hb6, hk6⟩
            have HB6 := hidd (HBx.out.trans hb6)
            have hz6 := HB6.out.size
            have HP6 := hidd (txApp_any w1.heap.size v6 _ at_ ct tx w6 (by omega) HXs.out (by omega) hz6 w HB1.out.size (HB1.out.trans (HB6.out.mono HB1.out.size)) HTx.out hown6)
            unfold AppP at HP6
            clear hown6 hb6 hk6 HI1 HC1 HOx
            dsimp only
            go_wp2_with fail
            refine HP6.out.mono ?_
            rintro e w7 ⟨v7, rfl, hown7, hb7, hk7⟩
            rw [← Hen.out] at hown7
            have HO7 := hidd hown7
            have HB7 := hidd (HB6.out.trans hb7)
            clear hown7 hb7 hk7 HP6
            dsimp only
            go_wp2_with fail
            go_roundw
            case rel => exact ⟨1, by omega, by go_num, HO7.out, HB7.out⟩
            case measure => simp [intOf]
          · have hcE : cB N5 tx nz 1 = (N5 ++ putL tx.length ++ tx.flatMap txB) := rfl
            rw [hcE] at HOx
            have hl0 : ((N5 ++ putL tx.length ++ tx.flatMap txB)).length ≤ 500000000 := by rw [← hcE]; exact HLc.out 1
            have hl1 : ((N5 ++ putL tx.length ++ tx.flatMap txB) ++ putL nz.length).length ≤ 500000009 := by rw [List.length_append]; have := putL_length9 nz.length (by omega); omega
            have Hen : Hid (cB N5 tx nz 2 = (N5 ++ putL tx.length ++ tx.flatMap txB) ++ putL nz.length ++ nz.flatMap nuB) := rfl
            clear hcE
            generalize (N5 ++ putL tx.length ++ tx.flatMap txB) = NK at HOx hl0 hl1 Hen
            have HC1 := hidd (nuCount_any an nz.length cn wr (by omega))
            have HI1 := hidd (appInt_any w1.heap.size u4 NK nz.length wr (by omega) (by omega) hzx HOx.out)
            unfold AppP at HI1
            go_wp2_with (go_at_call 174; refine HC1.out.mono ?_; rintro e w6 ⟨rfl, hw6⟩; have hw7 := hw6.symm; subst hw7; clear hw6)
            refine HI1.out.mono ?_
            rintro e w6 ⟨v6, rfl, hown6, hb6, hk6⟩
            have HB6 := hidd (HBx.out.trans hb6)
            have hz6 := HB6.out.size
            have HP6 := hidd (nuApp_any w1.heap.size v6 _ an cn nz w6 (by omega) HNs.out (by omega) hz6 w HB1.out.size (HB1.out.trans (HB6.out.mono HB1.out.size)) HZ.out hown6)
            unfold AppP at HP6
            clear hown6 hb6 hk6 HI1 HC1 HOx
            dsimp only
            go_wp2_with fail
            refine HP6.out.mono ?_
            rintro e w7 ⟨v7, rfl, hown7, hb7, hk7⟩
            rw [← Hen.out] at hown7
            have HO7 := hidd hown7
            have HB7 := hidd (HB6.out.trans hb7)
            clear hown7 hb7 hk7 HP6
            dsimp only
            go_wp2_with fail
            go_roundw
            case rel => exact ⟨2, by omega, by go_num, HO7.out, HB7.out⟩
            case measure => simp [intOf]
          · rw [← Hst2.out] at HOx
            go_wp2_with fail
            go_roundw
            case rel => exact ⟨k + 1, by omega, by go_num, HOx.out, HBx.out⟩
            case measure => simp [intOf]; omega
      · have hltz : ¬ (k : Int) < (V.length : Int) := by omega
        obtain rfl : k = V.length := by omega
        go_wp2_with fail
        go_ret2
        exact ⟨_, by rw [HO.out]; rfl, by rw [HO.out, HE.out]; exact own_mono HOw.out HB1.out.size, HB1.out.trans (HBe.out.mono HB1.out.size)⟩
end Go.Proofs.YtpdiaddgialanaaGreatDoor

namespace Go.Proofs.YtpdiaddgialanaaGreatDoor
open Go Go.RowKit
set_option linter.unusedVariables false
set_option linter.unusedSimpArgs false
set_option maxRecDepth 100000

theorem conv_takeR {W : World} {a : Option Addr} {n c : Nat} {l : List UInt8} (hl : l.length = n) (h : n = 0 ∨ ∃ b off, a = some ⟨b, off, none⟩ ∧ BytesAt W b off l) : (convert 22 9 (.slice a n c)).run Tryz.prog W = .ok (.string ⟨l.toArray⟩) W := by
  subst hl
  rcases h with h | ⟨b, off, rfl, hB⟩
  · have e : l = [] := List.length_eq_zero_iff.1 h
    subst e
    cases a with
    | none => exact run_convert_bytes_nil W 22 5 Tryz.underlying22 Tryz.underlying5 0 c 9 Tryz.underlying9
    | some ad => exact run_convert_bytes_back W 22 9 5 ad c [] Tryz.underlying22 Tryz.underlying5 Tryz.underlying9 fun j hj => absurd hj (by simp)
  · refine run_convert_bytes_back W 22 9 5 ⟨b, off, none⟩ c l Tryz.underlying22 Tryz.underlying5 Tryz.underlying9 fun j hj => ?_
    have := hB j hj
    rw [Go.WideShapes.add_plain, this]
    simp [List.getD_eq_getElem?_getD, hj]
set_option maxHeartbeats 2000000 in
theorem appTextL_any (base : Nat) (v : Value) (M t : List UInt8) (w : World) (ht : t.length ≤ 600000000) (hn : M.length ≤ 900000000000) (hb : base ≤ w.heap.size) (h : w.ownsRow base 5 1 v M.length (Lib.byteCells M)) :
    Calls Tryz.prog 21 #[v, .string ⟨t.toArray⟩] w (AppP base M (txB t) w) := by
  obtain ⟨i1, hi1, hy0, hy1, hy2⟩ := info_parts Tryz.infoByte
  have HI := hidd (appInt_any base v M t.length w (by omega) (by omega) hb h)
  have hsl : (⟨t.toArray⟩ : ByteArray).size = t.length := by rw [Lib.size_eq]
  have hpl := putL_length9 t.length (by omega)
  have HE : Hid (M ++ txB t = M ++ putL t.length ++ t) := by show _ = _; simp [txB]
  have hL : (M ++ putL t.length).length ≤ 900000000009 := by rw [List.length_append]; omega
  clear h
  unfold AppP at HI
  generalize M ++ putL t.length = N at HE hL HI
  go_enter Tryz.func21, Tryz.ntmps21
  go_wp2_with fail
  refine HI.out.mono ?_
  rintro e w1 ⟨v1, rfl, ho1, hb1, hk1⟩
  have HO1 := hidd ho1
  have HB1 := hidd hb1
  have HK1 := hidd hk1
  have hz1 := hb1.size
  clear ho1 hb1 hk1 HI
  dsimp only
  go_wp2_with (at_builtin; refine Lib.wpList_append_own_string _ rfl _ _ 22 9 rfl base 5 i1 Tryz.underlying22 Tryz.underlying9 hi1 hy0 hy1 hy2 v1 N.length (Lib.byteCells N) rfl HO1.out ⟨t.toArray⟩ rfl (by rw [hsl]; unfold maxLen; omega) (by rw [hsl]; omega) (by omega) ?_)
  intro v7 w7 hown7 hgrow7 hnil7
  rw [strCells_eq] at hown7
  have HO7 := hidd hown7
  have HB7 : Hid (Below base w w7) := HB1.out.grown hgrow7 (by omega) (fun k hk => (own_blk HO1.out hk).1)
  have HK7 : Hid (KeepB w w7) := HK1.out.trans (.grown HO1.out hgrow7)
  clear hown7 hgrow7 hnil7
  go_wp2_with fail
  go_ret
  exact ⟨v7, rfl, by rw [HE.out, List.length_append, Lib.byteCells_append]; exact HO7.out, HB7.out, HK7.out⟩
set_option maxHeartbeats 4000000 in
theorem bodySize_any (id : List UInt8) (a : Option Addr) (cap : Nat) (V : List Vl) (w : World) (hn : V.length ≤ 1048576) (hA : ∀ i, (V.getD i vl0).1.length ≤ 1048576 ∧ (V.getD i vl0).2.1.length ≤ 1048576 ∧ (V.getD i vl0).2.2.length ≤ 1048576) (hB : bodyV V ≤ 1048576) (hS : HoldV w a V) :
    Calls Tryz.prog 39 #[.agg #[.string ⟨id.toArray⟩, .slice a V.length cap]] w fun e w' => e = .returned (.int .i64 (bodyV V : Int)) ∧ Below w.heap.size w w' := by
  have HS := hidd hS
  have HA := hidd hA
  clear hS hA
  have HBa := hidd ((Below.refl w.heap.size w).alloc (Nat.le_refl _) (.cells #[.string ⟨id.toArray⟩, .slice a V.length cap] 26))
  go_enter Tryz.func39, Tryz.ntmps39
  go_wp2_with fail
  obtain ⟨wa, hwa⟩ : ∃ wa, w.alloc (.cells #[.string ⟨id.toArray⟩, .slice a V.length cap] 26) = wa := ⟨_, rfl⟩
  rw [hwa] at HBa
  try rw [hwa]
  clear hwa
  go_loopw [3, 11] (fun sv iv wr => ∃ k : Nat, k ≤ V.length ∧ iv = .int .i64 (k : Int) ∧ sv = .int .i64 (bodyV (V.take k) : Int) ∧ Below wa.heap.size wa wr) (fun _ iv _ => V.length - (intOf iv).toNat)
  case atStart => exact ⟨0, Nat.zero_le _, rfl, by simp [bodyV], Below.refl _ _⟩
  case round =>
    obtain ⟨k, hk, rfl, rfl, hbel⟩ := hrel
    have HB := hidd hbel
    clear hbel
    by_cases hlt : k < V.length
    · have hkz : (k : Int) < (V.length : Int) := by omega
      obtain ⟨b, off, rfl, hbl, hc⟩ := ((HS.out.below HBa.out).below HB.out).resolve_left (fun h => by rw [h] at hlt; simp at hlt)
      obtain ⟨x0, ⟨at_, ct, x1, hTx⟩, an, cn, x2, hZ⟩ := hc k hlt
      clear hc hZ
      have hal := HA.out k
      have HT := hidd (bodyV_take V hlt)
      have hle := bodyV_take_le V (k + 1)
      rw [HT.out] at hle
      obtain ⟨Y, hY⟩ : ∃ Y, bodyV (V.take k) = Y := ⟨_, rfl⟩
      rw [hY] at HT hle
      rw [hY]
      clear hY
      generalize V.getD k vl0 = s at *
      obtain ⟨f, tx, nz⟩ := s
      dsimp only at x0 x1 x2 hTx hal HT hle
      have HTx := hidd hTx
      clear hTx
      go_upto_region 5 with fail
      obtain ⟨wb, hwb⟩ : ∃ wb, wr.alloc (.cells #[.string ⟨f.toArray⟩, .slice at_ tx.length ct, .slice an nz.length cn] 88) = wb := ⟨_, rfl⟩
      have HBb := hidd ((Below.refl wr.heap.size wr).alloc (Nat.le_refl _) (.cells #[.string ⟨f.toArray⟩, .slice at_ tx.length ct, .slice an nz.length cn] 88))
      have HXb := hidd (heap_alloc_new wr (.cells #[.string ⟨f.toArray⟩, .slice at_ tx.length ct, .slice an nz.length cn] 88))
      rw [hwb] at HBb HXb
      try rw [hwb]
      clear hwb
      have v1 : wb.cell? ⟨wr.heap.size, 1, none⟩ = some (.slice at_ tx.length ct) := blkc HXb.out 1
      have HTb := hidd (HTx.out.below HBb.out)
      clear HTx
      go_wp2_with fail
      go_loopw [3, 18] (fun sv jv wz => ∃ j : Nat, j ≤ tx.length ∧ jv = .int .i64 (j : Int) ∧ sv = .int .i64 ((Y + txSum (tx.take j) : Nat) : Int) ∧ wz = wb) (fun _ jv _ => tx.length - (intOf jv).toNat)
      case atStart => exact ⟨0, Nat.zero_le _, rfl, by simp [txSum], rfl⟩
      case round =>
        obtain ⟨j, hj, rfl, rfl, hww⟩ := hrel
        have hww' := hww.symm
        subst hww'
        clear hww
        by_cases hjt : j < tx.length
        · have hjz : (j : Int) < (tx.length : Int) := by omega
          obtain ⟨bt, ot, rfl, hbt, hct⟩ := HTb.out.resolve_left (fun e => by rw [e] at hjt; simp at hjt)
          have t1 := hct j hjt
          clear hct
          have HT2 := hidd (txSum_take tx hjt)
          have hle2 := txSum_take_le tx (j + 1)
          rw [HT2.out] at hle2
          generalize tx.getD j [] = t at *
          generalize txSum (tx.take j) = Z at *
          have hfl : (⟨t.toArray⟩ : ByteArray).size = t.length := by rw [Lib.size_eq]
          go_wp2_with fail
          go_roundw
          case rel => exact ⟨j + 1, by omega, by go_num, by rw [HT2.out]; go_num, by first | trivial | rfl⟩
          case measure => simp [intOf]; omega
        · have hjz : ¬ (j : Int) < (tx.length : Int) := by omega
          have HE : Hid (Y + txSum (tx.take j) = bodyV (V.take (k + 1))) := by show _ = _; rw [HT.out, show j = tx.length by omega, List.take_length]
          generalize Y + txSum (tx.take j) = Z at *
          go_wp2_with fail
          go_roundw
          case rel => exact ⟨k + 1, by omega, by go_num, by rw [HE.out], HB.out.trans (HBb.out.mono HB.out.size)⟩
          case measure => simp [intOf]; omega
    · have hkz : ¬ (k : Int) < (V.length : Int) := by omega
      have HE : Hid (bodyV (V.take k) = bodyV V) := by show _ = _; rw [show k = V.length by omega, List.take_length]
      generalize bodyV (V.take k) = Z at *
      go_wp2_with fail
      go_ret
      rw [HE.out]
      exact ⟨rfl, HBa.out.trans (HB.out.mono HBa.out.size)⟩
set_option maxHeartbeats 4000000 in
theorem least_any (id : List UInt8) (a : Option Addr) (cap : Nat) (V : List Vl) (w : World) (hn : V.length ≤ 1048576) (hA : ∀ i, (V.getD i vl0).1.length ≤ 1048576 ∧ (V.getD i vl0).2.1.length ≤ 1048576 ∧ (V.getD i vl0).2.2.length ≤ 1048576) (hB : leV V ≤ 1048576) (hS : HoldV w a V) :
    Calls Tryz.prog 18 #[.agg #[.string ⟨id.toArray⟩, .slice a V.length cap]] w fun e w' => e = .returned (.int .i64 (leV V : Int)) ∧ Below w.heap.size w w' := by
  have HS := hidd hS
  have HA := hidd hA
  have HLe : Hid (leV V = bodyV V + lsV V) := rfl
  have hbl : bodyV V + lsV V ≤ 1048576 := hB
  have HY := hidd (fun (W : World) (hW : HoldV W a V) => bodySize_any id a cap V W hn hA (by omega) hW)
  clear hS hA
  have HBa := hidd ((Below.refl w.heap.size w).alloc (Nat.le_refl _) (.cells #[.string ⟨id.toArray⟩, .slice a V.length cap] 26))
  have HX := hidd (heap_alloc_new w (.cells #[.string ⟨id.toArray⟩, .slice a V.length cap] 26))
  go_enter Tryz.func18, Tryz.ntmps18
  go_upto_region 1 with fail
  obtain ⟨wa, hwa⟩ : ∃ wa, w.alloc (.cells #[.string ⟨id.toArray⟩, .slice a V.length cap] 26) = wa := ⟨_, rfl⟩
  rw [hwa] at HBa HX
  try rw [hwa]
  clear hwa
  have x0 := blkc HX.out 0
  have x1 := blkc HX.out 1
  go_wp2_with fail
  refine (HY.out _ (HS.out.below HBa.out)).mono ?_
  rintro e w1 ⟨rfl, hb1⟩
  have HB1 := hidd (HBa.out.trans (hb1.mono HBa.out.size))
  have HX1 := hidd (blko HX.out hb1)
  replace x0 := blkc HX1.out 0
  replace x1 := blkc HX1.out 1
  clear hb1 HX HY
  dsimp only
  obtain ⟨Y, hY⟩ : ∃ Y, bodyV V = Y := ⟨_, rfl⟩
  rw [hY] at HLe hbl
  try rw [hY]
  clear hY
  go_wp2_with fail
  go_loopw [3, 11] (fun sv iv wr => ∃ k : Nat, k ≤ V.length ∧ iv = .int .i64 (k : Int) ∧ sv = .int .i64 ((Y + lsV (V.take k) : Nat) : Int) ∧ Below w1.heap.size w1 wr) (fun _ iv _ => V.length - (intOf iv).toNat)
  case atStart => exact ⟨0, Nat.zero_le _, rfl, by simp [lsV], Below.refl _ _⟩
  case round =>
    obtain ⟨k, hk, rfl, rfl, hbel⟩ := hrel
    have HB := hidd hbel
    clear hbel x0 x1
    by_cases hlt : k < V.length
    · have hkz : (k : Int) < (V.length : Int) := by omega
      obtain ⟨b, off, rfl, hbl2, hc⟩ := ((HS.out.below HB1.out).below HB.out).resolve_left (fun h => by rw [h] at hlt; simp at hlt)
      obtain ⟨x0, ⟨at_, ct, x1, hTx⟩, an, cn, x2, hZ⟩ := hc k hlt
      clear hc hZ hTx
      have hal := HA.out k
      have HT := hidd (lsV_take V hlt)
      have hle := lsV_take_le V (k + 1)
      rw [HT.out] at hle
      obtain ⟨Z, hZ⟩ : ∃ Z, lsV (V.take k) = Z := ⟨_, rfl⟩
      rw [hZ] at HT hle
      rw [hZ]
      clear hZ
      generalize V.getD k vl0 = s at *
      obtain ⟨f, tx, nz⟩ := s
      dsimp only at x0 x1 x2 hal HT hle
      have hvl : vlL (f, tx, nz) = f.length + tx.length + nz.length := rfl
      rw [hvl] at HT hle
      clear hvl
      have hfl : (⟨f.toArray⟩ : ByteArray).size = f.length := by rw [Lib.size_eq]
      go_upto_region 5 with fail
      obtain ⟨wb, hwb⟩ : ∃ wb, wr.alloc (.cells #[.string ⟨f.toArray⟩, .slice at_ tx.length ct, .slice an nz.length cn] 88) = wb := ⟨_, rfl⟩
      have HBb := hidd ((Below.refl wr.heap.size wr).alloc (Nat.le_refl _) (.cells #[.string ⟨f.toArray⟩, .slice at_ tx.length ct, .slice an nz.length cn] 88))
      have HXb := hidd (heap_alloc_new wr (.cells #[.string ⟨f.toArray⟩, .slice at_ tx.length ct, .slice an nz.length cn] 88))
      rw [hwb] at HBb HXb
      try rw [hwb]
      clear hwb x0 x1 x2
      have v0 := blkc HXb.out 0
      have v1 := blkc HXb.out 1
      have v2 := blkc HXb.out 2
      go_wp2_with fail
      go_roundw
      case rel => exact ⟨k + 1, by omega, by go_num, by rw [HT.out]; go_num, HB.out.trans (HBb.out.mono HB.out.size)⟩
      case measure => simp [intOf]; omega
    · have hkz : ¬ (k : Int) < (V.length : Int) := by omega
      have HE : Hid (Y + lsV (V.take k) = leV V) := by show _ = _; rw [HLe.out, show k = V.length by omega, List.take_length]
      generalize Y + lsV (V.take k) = Z at *
      go_wp2_with fail
      go_ret
      rw [HE.out]
      exact ⟨rfl, HB1.out.trans (HB.out.mono HB1.out.size)⟩
end Go.Proofs.YtpdiaddgialanaaGreatDoor
