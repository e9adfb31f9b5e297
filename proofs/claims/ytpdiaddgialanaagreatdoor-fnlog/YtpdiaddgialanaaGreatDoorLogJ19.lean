import Derived.Test.YtpdiaddgialanaaGreatDoorLogJ18
import Derived.Test.YtpdiaddgialanaaGreatDoorLogJ15
import Derived.Test.YtpdiaddgialanaaGreatDoorLogJ02
namespace Go.Proofs.YtpdiaddgialanaaGreatDoor
open Go Go.RowKit
set_option linter.unusedVariables false
set_option maxRecDepth 100000

def preF {X : Type} (f : X → List UInt8) (M : List UInt8) (l : List X) (k : Nat) : List UInt8 := M ++ (l.take k).flatMap f
theorem preF_zero {X : Type} (f : X → List UInt8) (M : List UInt8) (l : List X) : preF f M l 0 = M := by simp [preF]
theorem preF_step {X : Type} (f : X → List UInt8) (M : List UInt8) (l : List X) (d : X) {k : Nat} (hk : k < l.length) : preF f M l (k + 1) = preF f M l k ++ f (l.getD k d) := by
  rw [preF, List.take_succ_eq_append_getElem hk, List.flatMap_append, preF, List.getD_eq_getElem?_getD, List.getElem?_eq_getElem hk, ← List.append_assoc]
  simp
theorem preF_all {X : Type} (f : X → List UInt8) (M : List UInt8) (l : List X) : preF f M l l.length = M ++ l.flatMap f := by rw [preF, List.take_length]
theorem flat_len {X : Type} (f : X → List UInt8) (l : List X) (c : Nat) (h : ∀ x ∈ l, (f x).length ≤ c) : (l.flatMap f).length ≤ l.length * c := by
  induction l with
  | nil => simp
  | cons x l ih =>
    rw [List.flatMap_cons, List.length_append, List.length_cons, Nat.succ_mul]
    have h1 := h x (List.mem_cons_self)
    have h2 := ih (fun y hy => h y (List.mem_cons_of_mem _ hy))
    omega
theorem preF_len {X : Type} (f : X → List UInt8) (M : List UInt8) (l : List X) (c : Nat) (h : ∀ x ∈ l, (f x).length ≤ c) (n : Nat) (hn : l.length ≤ n) (k : Nat) : (preF f M l k).length ≤ M.length + n * c := by
  have h1 := flat_len f (l.take k) c (fun x hx => h x (List.mem_of_mem_take hx))
  have h2 : (l.take k).length ≤ l.length := by rw [List.length_take]; exact Nat.min_le_right _ _
  have h3 : (l.take k).length * c ≤ n * c := Nat.mul_le_mul_right _ (by omega)
  rw [preF, List.length_append]
  omega
theorem txB_len {t : List UInt8} (h : t.length ≤ 65536) : (txB t).length ≤ 65545 := by
  have := putL_length9 t.length (by omega)
  rw [txB, List.length_append]; omega
theorem nuB_len {z : Int} (h : nuOK z = true) : (nuB z).length ≤ 9 := putL_length9 _ (unS_lt h)
theorem vlOK_parts {v : Vl} (h : vlOK v = true) : (v.1.length ≤ 65536 ∧ v.2.1.length ≤ 4096 ∧ v.2.2.length ≤ 4096) ∧ (∀ t ∈ v.2.1, t.length ≤ 65536) ∧ ∀ z ∈ v.2.2, nuOK z = true := by
  simp only [vlOK, Bool.and_eq_true, decide_eq_true_eq, List.all_eq_true, txOK] at h
  exact ⟨h.1.1, h.1.2, h.2⟩
theorem dcOK_parts {d : Dc} (h : dcOK d = true) : (d.1.length ≤ 65536 ∧ d.2.length ≤ 4096) ∧ ∀ v ∈ d.2, vlOK v = true := by
  simp only [dcOK, Bool.and_eq_true, decide_eq_true_eq, List.all_eq_true] at h
  exact h
theorem vlB_len {v : Vl} (h : vlOK v = true) : (vlB v).length ≤ 268600000 := by
  obtain ⟨⟨h1, h2, h3⟩, h4, h5⟩ := vlOK_parts h
  have a1 := txB_len h1
  have a2 := putL_length9 v.2.1.length (by omega)
  have a3 := putL_length9 v.2.2.length (by omega)
  have a4 := flat_len txB v.2.1 65545 (fun t ht => txB_len (h4 t ht))
  have a5 := flat_len nuB v.2.2 9 (fun z hz => nuB_len (h5 z hz))
  simp only [vlB, List.length_append]
  omega
theorem getD_mem {X : Type} {l : List X} {d : X} {k : Nat} (hk : k < l.length) : l.getD k d ∈ l := by
  rw [List.getD_eq_getElem?_getD, List.getElem?_eq_getElem hk]; exact List.getElem_mem hk
set_option maxHeartbeats 8000000 in
theorem specDocB_any (id : List UInt8) (a : Option Addr) (c : Nat) (V : List Vl) (w : World) (hok : dcOK (id, V) = true) (h : HoldV w a V) :
    Calls Tryz.prog 47 #[.agg #[.string ⟨id.toArray⟩, .slice a V.length c]] w fun e w' => ∃ v, e = .returned v ∧ w'.ownsRow w.heap.size 5 1 v (dcB (id, V)).length (Lib.byteCells (dcB (id, V))) ∧ Below w.heap.size w w' := by
  obtain ⟨i1, hi1, hy0, hy1, hy2⟩ := info_parts Tryz.infoByte
  have HV := hidd h
  obtain ⟨⟨hid, hVl⟩, hvs⟩ := dcOK_parts hok
  have HVs := hidd hvs
  dsimp only at hid hVl HVs
  clear h hok hvs
  have HBa := hidd ((Below.refl w.heap.size w).alloc (Nat.le_refl _) (.cells #[.string ⟨id.toArray⟩, .slice a V.length c] 26))
  have HX := hidd (heap_alloc_new w (.cells #[.string ⟨id.toArray⟩, .slice a V.length c] 26))
  have hti := txB_len hid
  have hpv := putL_length9 V.length (by omega)
  have hpp := putL_pos V.length
  have HE : Hid (dcB (id, V) = preF vlB (txB id ++ putL V.length) V V.length) := by show _ = _; rw [preF_all]; rfl
  have HPt := hidd (putText_any)
  have HPn := hidd (putNumber_any)
  have HPut := hidd (fun (x : Nat) (hx : x ≤ 1048576) (W : World) => specPut_any x W (by omega))
  go_enter Tryz.func47, Tryz.ntmps47
  go_upto_region 1 with fail
  obtain ⟨wa, hwa⟩ : ∃ wa, w.alloc (.cells #[.string ⟨id.toArray⟩, .slice a V.length c] 26) = wa := ⟨_, rfl⟩
  rw [hwa] at HBa HX
  try rw [hwa]
  clear hwa
  have hzw : w.heap.size < wa.heap.size := (Array.getElem?_eq_some_iff.1 HX.out).1
  have x0 := blkc HX.out 0
  have x1 := blkc HX.out 1
  have HPT0 := hidd (HPt.out wa.heap.size 0 _ [] id _ rfl (by omega) hid (own_empty wa 5) (by simp))
  go_wp2_with fail
  refine HPT0.out.mono ?_
  rintro e w2 ⟨v2, rfl, hown2, hb2, hk2⟩
  rw [List.nil_append] at hown2
  obtain ⟨av2, cv2, rfl⟩ := own_form hown2
  have HO2 := hidd hown2
  have HB2 : Hid (Below wa.heap.size wa w2) := ((Below.refl _ _).alloc (Nat.le_refl _) _).trans hb2
  have hz2 := HB2.out.size
  replace x0 := (HB2.out.cell (p := ⟨w.heap.size, 0, none⟩) hzw).trans x0
  replace x1 := (HB2.out.cell (p := ⟨w.heap.size, 1, none⟩) hzw).trans x1
  clear hown2 hb2 hk2 HPT0
  dsimp only
  have HP2 := hidd (HPut.out V.length (by omega) w2)
  go_wp2_with fail
  refine HP2.out.mono ?_
  rintro e w3 ⟨gp, cp, rfl, hown3, hb3⟩
  have HBy := hidd (own_bytes hown3 rfl)
  have HO3 := hidd (own_below HO2.out hb3)
  have HB3 := hidd (HB2.out.trans (hb3.mono HB2.out.size))
  have hz3 := HB3.out.size
  clear hown3 hb3 HP2 HO2 HB2 x0 x1
  dsimp only
  go_wp2_with (at_builtin; refine wpList_append_lies _ rfl _ _ 22 rfl wa.heap.size 5 i1 (.int .u8 0) 1 1 Tryz.underlying22 hi1 hy0 hy1 hy2 rfl (by decide) (.slice av2 (txB id).length cv2) (txB id).length (Lib.byteCells (txB id)) rfl HO3.out ⟨gp, 0, none⟩ (putL V.length).length cp (Lib.byteCells (putL V.length)) rfl (by simp [Lib.byteCells]) (bytes_news HBy.out (Below.refl _ _)) (bytes_one _) (by omega) (by unfold maxLen; omega) (by omega) hz3 _ rfl ?_)
  intro g4 cp4 w4 hown4 hgrow4 hat4 hlt4
  have HB4 : Hid (Below wa.heap.size wa w4) := HB3.out.grown hgrow4 hz3 (fun b h => (own_blk HO3.out h).1)
  have HO4 : Hid (w4.ownsRow wa.heap.size 5 1 (.slice (some ⟨g4, 0, none⟩) ((txB id).length + (putL V.length).length) cp4) (preF vlB (txB id ++ putL V.length) V 0).length (Lib.byteCells (preF vlB (txB id ++ putL V.length) V 0))) := by
    show World.ownsRow _ _ _ _ _ _ _
    rw [preF_zero, List.length_append, Lib.byteCells_append]
    exact hown4
  clear hown4 hgrow4 hat4 hlt4 HO3 HBy
  have HLen := hidd (fun k => preF_len vlB (txB id ++ putL V.length) V 268600000 (fun v hv => vlB_len (HVs.out v hv)) 4096 hVl k)
  have HSt := hidd (fun (k : Nat) (hk : k < V.length) => preF_step vlB (txB id ++ putL V.length) V vl0 hk)
  have hM0 : (txB id ++ putL V.length).length ≤ 65554 := by rw [List.length_append]; omega
  generalize (txB id ++ putL V.length) = M0 at HO4 HE HLen HSt hM0
  go_wp2_with fail
  go_loopw [3, 4] (fun v iv wr => ∃ k : Nat, k ≤ V.length ∧ iv = .int .i64 (k : Int) ∧ wr.ownsRow wa.heap.size 5 1 v (preF vlB M0 V k).length (Lib.byteCells (preF vlB M0 V k)) ∧ Below wa.heap.size wa wr) (fun _ iv _ => V.length - (intOf iv).toNat)
  case atStart => exact ⟨0, Nat.zero_le _, rfl, HO4.out, HB4.out⟩
  case round =>
    obtain ⟨k, hk, rfl, hown, hbel⟩ := hrel
    clear HO4 HB4
    have HOw := hidd hown
    have HBe := hidd hbel
    obtain ⟨av, cv, rfl⟩ := own_form hown
    clear hown hbel
    have hpl := HLen.out k
    have hwz := HBe.out.size
    have x0 := (HBe.out.cell (p := ⟨w.heap.size, 0, none⟩) hzw).trans (blkc HX.out 0)
    have x1 := (HBe.out.cell (p := ⟨w.heap.size, 1, none⟩) hzw).trans (blkc HX.out 1)
    by_cases hlt : k < V.length
    · have hltz : (k : Int) < (V.length : Int) := by omega
      obtain ⟨b, off, rfl, hb, hc⟩ := HV.out.resolve_left (fun e => by rw [e] at hlt; simp at hlt)
      obtain ⟨c0, ⟨at_, ct, c1, hTx⟩, an, cn, c2, hZ⟩ := hc k hlt
      have hBw := HBa.out.trans (HBe.out.mono HBa.out.size)
      replace c0 := (hBw.cell (p := ⟨b, off + k * 3, none⟩) hb).trans c0
      replace c1 := (hBw.cell (p := ⟨b, off + k * 3 + 1, none⟩) hb).trans c1
      replace c2 := (hBw.cell (p := ⟨b, off + k * 3 + 2, none⟩) hb).trans c2
      clear hBw
      have hvk := vlOK_parts (HVs.out (V.getD k vl0) (getD_mem hlt))
      have Hst := hidd (HSt.out k hlt)
      obtain ⟨v, hv⟩ : ∃ v, V.getD k vl0 = v := ⟨_, rfl⟩
      rw [hv] at c0 c1 c2 hTx hZ hvk Hst
      clear hv
      obtain ⟨f, tx, nz⟩ := v
      dsimp only at c0 c1 c2 hTx hZ hvk
      obtain ⟨⟨hf, hxl, hnl⟩, hxs, hns⟩ := hvk
      have HXs := hidd hxs
      have HNs := hidd hns
      have HTx := hidd hTx
      have HZ := hidd hZ
      clear hc hTx hZ hxs hns
      have HBv := hidd ((Below.refl wr.heap.size wr).alloc (Nat.le_refl _) (.cells #[.string ⟨f.toArray⟩, .slice at_ tx.length ct, .slice an nz.length cn] 88))
      have HXv := hidd (heap_alloc_new wr (.cells #[.string ⟨f.toArray⟩, .slice at_ tx.length ct, .slice an nz.length cn] 88))
      go_upto_region 7 with fail
      obtain ⟨wv, hwv⟩ : ∃ wv, wr.alloc (.cells #[.string ⟨f.toArray⟩, .slice at_ tx.length ct, .slice an nz.length cn] 88) = wv := ⟨_, rfl⟩
      rw [hwv] at HBv HXv
      try rw [hwv]
      clear hwv
      obtain ⟨Q, hQ⟩ : ∃ Q, wr.heap.size = Q := ⟨_, rfl⟩
      rw [hQ] at HXv
      try rw [hQ]
      have HOv := hidd (own_below HOw.out HBv.out)
      have HBw : Hid (Below wa.heap.size wa wv) := HBe.out.trans (HBv.out.mono hwz)
      have v0 := blkc HXv.out 0
      have hvz := HBw.out.size
      obtain ⟨N, hN⟩ : ∃ N, preF vlB M0 V k = N := ⟨_, rfl⟩
      rw [hN] at HOv hpl Hst
      try rw [hN]
      have HPT := hidd (HPt.out wa.heap.size N.length _ N f wv rfl (by omega) hf HOv.out hvz)
      have htf := txB_len hf
      clear c0 c1 c2 x0 x1 HOw hQ HBv hN
      go_wp2_with fail
      refine HPT.out.mono ?_
      rintro e w5 ⟨v5, rfl, hown5, hb5, hk5⟩
      obtain ⟨a5, c5, rfl⟩ := own_form hown5
      have HO5 := hidd hown5
      have HB5 : Hid (Below wa.heap.size wa w5) := HBw.out.trans hb5
      have HX5 := hidd (hk5 _ _ _ (by decide) HXv.out)
      have hz5 := HB5.out.size
      have v1 := blkc HX5.out 1
      clear hown5 hb5 hk5 HPT v0 HXv HOv HBw
      dsimp only
      have HP5 := hidd (HPut.out tx.length (by omega) w5)
      have hp5 := putL_length9 tx.length (by omega)
      have hq5 := putL_pos tx.length
      have hl5 : (N ++ txB f).length ≤ 1200000000000 := by rw [List.length_append]; omega
      have Hst2 : Hid (preF vlB M0 V (k + 1) = N ++ txB f ++ putL tx.length ++ tx.flatMap txB ++ putL nz.length ++ nz.flatMap nuB) := by show _ = _; rw [Hst.out]; simp [vlB]
      obtain ⟨N5, hN5⟩ : ∃ N5, N ++ txB f = N5 := ⟨_, rfl⟩
      rw [hN5] at HO5 hl5 Hst2
      try rw [hN5]
      clear hN5 Hst
      obtain ⟨PR, hPR⟩ : ∃ PR, putL tx.length = PR := ⟨_, rfl⟩
      rw [hPR] at HP5 hp5 hq5 Hst2
      clear hPR
      go_wp2_with fail
      refine HP5.out.mono ?_
      rintro e w6 ⟨gp, cp, rfl, hown6, hb6⟩
      have HBy := hidd (own_bytes hown6 rfl)
      have HO6 := hidd (own_below HO5.out hb6)
      have HB6 := hidd (HB5.out.trans (hb6.mono HB5.out.size))
      have HX6 := hidd (blko HX5.out hb6)
      have hz6 := HB6.out.size
      clear hown6 hb6 HP5 HO5 HB5 HX5 v1
      dsimp only
      go_wp2_with (at_builtin; refine wpList_append_lies _ rfl _ _ 22 rfl wa.heap.size 5 i1 (.int .u8 0) 1 1 Tryz.underlying22 hi1 hy0 hy1 hy2 rfl (by decide) (.slice a5 N5.length c5) N5.length (Lib.byteCells N5) rfl HO6.out ⟨gp, 0, none⟩ PR.length cp (Lib.byteCells PR) rfl (by simp [Lib.byteCells]) (bytes_news HBy.out (Below.refl _ _)) (bytes_one _) (by omega) (by unfold maxLen; omega) (by omega) hz6 _ rfl ?_)
      intro g7 cp7 w7 hown7 hgrow7 hat7 hlt7
      have HX7 := hidd (KeepB.grown HO6.out hgrow7 _ _ _ (by decide) HX6.out)
      have HB7 : Hid (Below wa.heap.size wa w7) := HB6.out.grown hgrow7 hz6 (fun b h => (own_blk HO6.out h).1)
      have HO7 : Hid (w7.ownsRow wa.heap.size 5 1 (.slice (some ⟨g7, 0, none⟩) (N5.length + PR.length) cp7) (preF txB (N5 ++ PR) tx 0).length (Lib.byteCells (preF txB (N5 ++ PR) tx 0))) := by
        show World.ownsRow _ _ _ _ _ _ _
        rw [preF_zero, List.length_append, Lib.byteCells_append]
        exact hown7
      clear hown7 hgrow7 hat7 hlt7 HO6 HBy HX6
      have hl7 : (N5 ++ PR).length ≤ 1210000000000 := by rw [List.length_append]; omega
      obtain ⟨N7, hN7⟩ : ∃ N7, N5 ++ PR = N7 := ⟨_, rfl⟩
      rw [hN7] at HO7 hl7 Hst2
      clear hN7
      have HLT := hidd (fun j => preF_len txB N7 tx 65545 (fun t ht => txB_len (HXs.out t ht)) 4096 hxl j)
      go_wp2_with fail
      go_loopw [3, 6] (fun v jv wx => ∃ j : Nat, j ≤ tx.length ∧ jv = .int .i64 (j : Int) ∧ wx.ownsRow wa.heap.size 5 1 v (preF txB N7 tx j).length (Lib.byteCells (preF txB N7 tx j)) ∧ Below wa.heap.size wa wx ∧ wx.heap[Q]? = some (.cells #[.string ⟨f.toArray⟩, .slice at_ tx.length ct, .slice an nz.length cn] 88)) (fun _ jv _ => tx.length - (intOf jv).toNat)
      case atStart => exact ⟨0, Nat.zero_le _, rfl, HO7.out, HB7.out, HX7.out⟩
      case round =>
        obtain ⟨j, hj, rfl, hown, hbel, hqq⟩ := hrel
        clear HO7 HB7 HX7
        have HOj := hidd hown
        have HBj := hidd hbel
        have HXj := hidd hqq
        obtain ⟨aj, cj, rfl⟩ := own_form hown
        have v1 := blkc hqq 1
        have v2 := blkc hqq 2
        have hjz := hbel.size
        have hjl := HLT.out j
        clear hown hbel hqq
        by_cases hjt : j < tx.length
        · have hjtz : (j : Int) < (tx.length : Int) := by omega
          obtain ⟨bt, ot, rfl, hbt, hct⟩ := HTx.out.resolve_left (fun e => by rw [e] at hjt; simp at hjt)
          have t1 := hct j hjt
          have HSj := hidd (preF_step txB N7 tx [] hjt)
          have htj := HXs.out (tx.getD j []) (getD_mem hjt)
          obtain ⟨ti, hti2⟩ : ∃ ti, tx.getD j [] = ti := ⟨_, rfl⟩
          rw [hti2] at t1 HSj htj
          clear hti2 hct
          have htr := ((HBa.out.trans (HBj.out.mono HBa.out.size)).cell (p := ⟨bt, ot + j, none⟩) hbt).trans t1
          have HPT := hidd (HPt.out wa.heap.size _ _ _ ti wr rfl (by omega) htj HOj.out hjz)
          clear t1 v2
          go_wp2_with fail
          refine HPT.out.mono ?_
          rintro e w8 ⟨v8, rfl, hown8, hb8, hk8⟩
          rw [← HSj.out] at hown8
          have HO8 := hidd hown8
          have HB8 := hidd (HBj.out.trans hb8)
          have HX8 := hidd (hk8 _ _ _ (by decide) HXj.out)
          clear hown8 hb8 hk8 HPT htr v1
          dsimp only
          go_wp2_with fail
          go_roundw
          case rel => exact ⟨j + 1, by omega, by go_num, HO8.out, HB8.out, HX8.out⟩
          case measure => simp [intOf]; omega
        · have hjtz : ¬ (j : Int) < (tx.length : Int) := by omega
          obtain rfl : j = tx.length := by omega
          rw [preF_all] at HOj hjl
          try rw [preF_all]
          obtain ⟨N8, hN8⟩ : ∃ N8, N7 ++ tx.flatMap txB = N8 := ⟨_, rfl⟩
          rw [hN8] at HOj hjl Hst2
          try rw [hN8]
          clear hN8
          have HP9 := hidd (HPut.out nz.length (by omega) wr)
          have hp9 := putL_length9 nz.length (by omega)
          have hq9 := putL_pos nz.length
          obtain ⟨PZ, hPZ⟩ : ∃ PZ, putL nz.length = PZ := ⟨_, rfl⟩
          rw [hPZ] at HP9 hp9 hq9 Hst2
          clear hPZ
          go_wp2_with fail
          refine HP9.out.mono ?_
          rintro e w6 ⟨gq, cq, rfl, hown6, hb6⟩
          have HBy := hidd (own_bytes hown6 rfl)
          have HO6 := hidd (own_below HOj.out hb6)
          have HB6 := hidd (HBj.out.trans (hb6.mono HBj.out.size))
          have HX6 := hidd (blko HXj.out hb6)
          have hz6 := HB6.out.size
          clear hown6 hb6 HP9 HOj HBj HXj v1 v2
          dsimp only
          go_wp2_with (at_builtin; refine wpList_append_lies _ rfl _ _ 22 rfl wa.heap.size 5 i1 (.int .u8 0) 1 1 Tryz.underlying22 hi1 hy0 hy1 hy2 rfl (by decide) (.slice aj N8.length cj) N8.length (Lib.byteCells N8) rfl HO6.out ⟨gq, 0, none⟩ PZ.length cq (Lib.byteCells PZ) rfl (by simp [Lib.byteCells]) (bytes_news HBy.out (Below.refl _ _)) (bytes_one _) (by omega) (by unfold maxLen; omega) (by omega) hz6 _ rfl ?_)
          intro g7 cp7 w7 hown7 hgrow7 hat7 hlt7
          have HX7 := hidd (KeepB.grown HO6.out hgrow7 _ _ _ (by decide) HX6.out)
          have HB7 : Hid (Below wa.heap.size wa w7) := HB6.out.grown hgrow7 hz6 (fun b h => (own_blk HO6.out h).1)
          have HO7 : Hid (w7.ownsRow wa.heap.size 5 1 (.slice (some ⟨g7, 0, none⟩) (N8.length + PZ.length) cp7) (preF nuB (N8 ++ PZ) nz 0).length (Lib.byteCells (preF nuB (N8 ++ PZ) nz 0))) := by
            show World.ownsRow _ _ _ _ _ _ _
            rw [preF_zero, List.length_append, Lib.byteCells_append]
            exact hown7
          clear hown7 hgrow7 hat7 hlt7 HO6 HBy HX6
          have hl9 : (N8 ++ PZ).length ≤ 1211000000000 := by rw [List.length_append]; omega
          obtain ⟨N9, hN9⟩ : ∃ N9, N8 ++ PZ = N9 := ⟨_, rfl⟩
          rw [hN9] at HO7 hl9 Hst2
          clear hN9
          have HLZ := hidd (fun j => preF_len nuB N9 nz 9 (fun z hz => nuB_len (HNs.out z hz)) 4096 hnl j)
          go_wp2_with fail
          go_loopw [3, 7] (fun v jv wx => ∃ j : Nat, j ≤ nz.length ∧ jv = .int .i64 (j : Int) ∧ wx.ownsRow wa.heap.size 5 1 v (preF nuB N9 nz j).length (Lib.byteCells (preF nuB N9 nz j)) ∧ Below wa.heap.size wa wx ∧ wx.heap[Q]? = some (.cells #[.string ⟨f.toArray⟩, .slice at_ tx.length ct, .slice an nz.length cn] 88)) (fun _ jv _ => nz.length - (intOf jv).toNat)
          case atStart => exact ⟨0, Nat.zero_le _, rfl, HO7.out, HB7.out, HX7.out⟩
          case round =>
            obtain ⟨j, hj, rfl, hown, hbel, hqq⟩ := hrel
            clear HO7 HB7 HX7
            have HOj := hidd hown
            have HBj := hidd hbel
            have HXj := hidd hqq
            obtain ⟨an', cn', rfl⟩ := own_form hown
            have v2 := blkc hqq 2
            have hjz := hbel.size
            have hjl := HLZ.out j
            clear hown hbel hqq
            by_cases hjt : j < nz.length
            · have hjtz : (j : Int) < (nz.length : Int) := by omega
              obtain ⟨bt, ot, rfl, hbt, hct⟩ := HZ.out.resolve_left (fun e => by rw [e] at hjt; simp at hjt)
              have t1 := hct j hjt
              have HSj := hidd (preF_step nuB N9 nz 0 hjt)
              have htj := HNs.out (nz.getD j 0) (getD_mem hjt)
              obtain ⟨z, hz'⟩ : ∃ z, nz.getD j 0 = z := ⟨_, rfl⟩
              rw [hz'] at t1 HSj htj
              clear hz' hct
              have htr := ((HBa.out.trans (HBj.out.mono HBa.out.size)).cell (p := ⟨bt, ot + j, none⟩) hbt).trans t1
              have HPT := hidd (HPn.out wa.heap.size _ _ _ z wr rfl (by omega) htj HOj.out hjz)
              clear t1
              go_wp2_with fail
              refine HPT.out.mono ?_
              rintro e w8 ⟨v8, rfl, hown8, hb8, hk8⟩
              rw [← HSj.out] at hown8
              have HO8 := hidd hown8
              have HB8 := hidd (HBj.out.trans hb8)
              have HX8 := hidd (hk8 _ _ _ (by decide) HXj.out)
              clear hown8 hb8 hk8 HPT htr v2
              dsimp only
              go_wp2_with fail
              go_roundw
              case rel => exact ⟨j + 1, by omega, by go_num, HO8.out, HB8.out, HX8.out⟩
              case measure => simp [intOf]; omega
            · have hjtz : ¬ (j : Int) < (nz.length : Int) := by omega
              obtain rfl : j = nz.length := by omega
              rw [preF_all, ← Hst2.out] at HOj
              rw [preF_all, ← Hst2.out]
              go_wp2_with fail
              go_roundw
              case rel => exact ⟨k + 1, by omega, by go_num, HOj.out, HBj.out⟩
              case measure => simp [intOf]; omega
    · have hltz : ¬ (k : Int) < (V.length : Int) := by omega
      obtain rfl : k = V.length := by omega
      go_wp2_with fail
      go_ret
      exact ⟨_, rfl, by rw [HE.out]; exact own_mono HOw.out HBa.out.size, HBa.out.trans (HBe.out.mono HBa.out.size)⟩
end Go.Proofs.YtpdiaddgialanaaGreatDoor

namespace Go.Proofs.YtpdiaddgialanaaGreatDoor
open Go Go.RowKit
set_option linter.unusedVariables false
set_option linter.unusedSimpArgs false
set_option maxRecDepth 100000

theorem lst_mk (l : List UInt8) : lst ⟨l.toArray⟩ = l := by simp [lst]
theorem str_eq (l : List UInt8) : l.isEmpty = decide (l.length = 0) := by cases l <;> simp
set_option maxHeartbeats 2000000 in
theorem specEmpty_any (did : List UInt8) (a : Option Addr) (n c : Nat) (w : World) (hn : n ≤ 1048576) :
    Calls Tryz.prog 45 #[.agg #[.string ⟨did.toArray⟩, .slice a n c]] w fun e w' => e = .returned (.bool (decide (did.length = 0) && decide (n = 0))) ∧ Below w.heap.size w w' := by
  have HBa := hidd ((Below.refl w.heap.size w).alloc (Nat.le_refl _) (.cells #[.string ⟨did.toArray⟩, .slice a n c] 26))
  have hs := str_eq did
  go_enter Tryz.func45, Tryz.ntmps45
  by_cases h1 : did.length = 0
  · rw [decide_eq_true h1] at hs ⊢
    by_cases h2 : n = 0
    · subst h2
      clear h1
      go_wp2_with fail
      go_ret
      exact ⟨rfl, HBa.out⟩
    · rw [decide_eq_false h2]
      have h3 : ((n : Int) == 0) = false := by simp; omega
      clear h1
      go_wp2_with fail
      go_ret
      exact ⟨rfl, HBa.out⟩
  · rw [decide_eq_false h1] at hs ⊢
    clear h1
    go_wp2_with fail
    go_ret
    exact ⟨rfl, HBa.out⟩
set_option maxHeartbeats 4000000 in
theorem specRecOK_any (kd sq : Int) (id did : List UInt8) (a : Option Addr) (c : Nat) (V : List Vl) (w : World) (hid : id.length ≤ 1048576) (hdid : did.length ≤ 1048576) (hn : V.length ≤ 1048576) (hT : ∀ i, (V.getD i vl0).2.1.length ≤ 1048576 ∧ (V.getD i vl0).2.2.length ≤ 1048576) (h : HoldV w a V) :
    Calls Tryz.prog 22 #[.agg #[.int .i64 kd, .int .i64 sq, .string ⟨id.toArray⟩, .string ⟨did.toArray⟩, .slice a V.length c]] w fun e w' => e = .returned (.bool (rcOK (kd, sq, id, (did, V)))) ∧ Below w.heap.size w w' := by
  have HBa := hidd ((Below.refl w.heap.size w).alloc (Nat.le_refl _) (.cells #[.int .i64 kd, .int .i64 sq, .string ⟨id.toArray⟩, .string ⟨did.toArray⟩, .slice a V.length c] 28))
  have HX := hidd (heap_alloc_new w (.cells #[.int .i64 kd, .int .i64 sq, .string ⟨id.toArray⟩, .string ⟨did.toArray⟩, .slice a V.length c] 28))
  have HI := hidd (fun (l : List UInt8) (W : World) (hl : l.length ≤ 1048576) => specId_any ⟨l.toArray⟩ W (by rw [Lib.size_eq]; exact hl))
  have HF := hidd (fun (W : World) (hW : Below w.heap.size w W) => specFits_any did a c V W hn hT (h.below hW))
  have HE := hidd (fun (W : World) => specEmpty_any did a V.length c W hn)
  clear h hT
  have hs := str_eq id
  have HR : Hid (rcOK (kd, sq, id, (did, V)) = (seqOK sq && if kd = 1 then decide (id.length = 0) && idV did && dcOK (did, V) else decide (kd = 2) && idV id && decide (did.length = 0) && decide (V.length = 0))) := rfl
  go_enter Tryz.func22, Tryz.ntmps22
  go_upto_region 1 with fail
  obtain ⟨wa, hwa⟩ : ∃ wa, w.alloc (.cells #[.int .i64 kd, .int .i64 sq, .string ⟨id.toArray⟩, .string ⟨did.toArray⟩, .slice a V.length c] 28) = wa := ⟨_, rfl⟩
  rw [hwa] at HBa HX
  try rw [hwa]
  clear hwa
  have x0 := blkc HX.out 0
  have x1 := blkc HX.out 1
  have x2 := blkc HX.out 2
  have x3 := blkc HX.out 3
  have x4 := blkc HX.out 4
  by_cases hq1 : sq < 1
  · have HQ : Hid (rcOK (kd, sq, id, (did, V)) = false) := by show _ = _; rw [HR.out, seqOK, decide_eq_false (by omega)]; rfl
    go_wp2_with fail
    go_ret
    exact ⟨by rw [HQ.out]; rfl, HBa.out⟩
  by_cases hq2 : sq > 4611686018427387903
  · have HQ : Hid (rcOK (kd, sq, id, (did, V)) = false) := by show _ = _; rw [HR.out, seqOK, decide_eq_false (p := sq ≤ 4611686018427387903) (by omega), Bool.and_false]; rfl
    go_wp2_with fail
    go_ret
    exact ⟨by rw [HQ.out]; rfl, HBa.out⟩
  have hqq : seqOK sq = true := by rw [seqOK, decide_eq_true (by omega), decide_eq_true (by omega)]; rfl
  rw [hqq, Bool.true_and] at HR
  clear hqq
  by_cases hk : kd = 1
  · rw [if_pos hk] at HR
    subst hk
    by_cases h1 : id.length = 0
    · rw [decide_eq_true h1] at hs HR
      rw [Bool.true_and] at HR
      clear h1
      go_wp2_with fail
      refine (HI.out did _ hdid).mono ?_
      rintro e w1 ⟨rfl, hw1⟩
      obtain rfl := hw1.symm
      clear hw1
      rw [lst_mk]
      cases hi : idV did with
      | false =>
        rw [hi] at HR
        go_wp2_with fail
        go_ret
        exact ⟨by rw [HR.out]; rfl, HBa.out⟩
      | true =>
        rw [hi, Bool.true_and] at HR
        clear hi
        go_wp2_with fail
        refine (HF.out _ HBa.out).mono ?_
        rintro e w2 ⟨rfl, hb2⟩
        have HB2 := hidd (HBa.out.trans (hb2.mono HBa.out.size))
        clear hb2
        go_wp2_with fail
        go_ret
        exact ⟨by rw [HR.out]; first | rfl | simp, HB2.out⟩
    · rw [decide_eq_false h1] at hs HR
      clear h1
      go_wp2_with fail
      go_ret
      exact ⟨by rw [HR.out]; rfl, HBa.out⟩
  · rw [if_neg hk] at HR
    by_cases hk2 : kd = 2
    · rw [decide_eq_true hk2, Bool.true_and] at HR
      subst hk2
      clear hs
      go_wp2_with fail
      refine (HI.out id _ hid).mono ?_
      rintro e w1 ⟨rfl, hw1⟩
      obtain rfl := hw1.symm
      clear hw1
      rw [lst_mk]
      cases hi : idV id with
      | false =>
        rw [hi] at HR
        go_wp2_with fail
        go_ret
        exact ⟨by rw [HR.out]; rfl, HBa.out⟩
      | true =>
        rw [hi, Bool.true_and] at HR
        clear hi
        go_wp2_with fail
        refine (HE.out _).mono ?_
        rintro e w2 ⟨rfl, hb2⟩
        have HB2 := hidd (HBa.out.trans (hb2.mono HBa.out.size))
        clear hb2
        go_wp2_with fail
        go_ret
        exact ⟨by rw [HR.out]; first | rfl | simp, HB2.out⟩
    · rw [decide_eq_false hk2] at HR
      clear hs
      go_wp2_with fail
      go_ret
      exact ⟨by rw [HR.out]; rfl, HBa.out⟩
end Go.Proofs.YtpdiaddgialanaaGreatDoor

namespace Go.Proofs.YtpdiaddgialanaaGreatDoor
end Go.Proofs.YtpdiaddgialanaaGreatDoor
