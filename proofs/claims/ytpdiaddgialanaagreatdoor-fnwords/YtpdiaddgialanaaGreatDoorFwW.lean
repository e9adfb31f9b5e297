import Derived.Test.YtpdiaddgialanaaGreatDoorFwQ
import Derived.Test.YtpdiaddgialanaaGreatDoorFwV
namespace Go.Proofs.YtpdiaddgialanaaGreatDoor
open Go Go.RowKit
set_option linter.unusedVariables false
set_option linter.unusedSimpArgs false
set_option maxRecDepth 100000

/-! impl.ParseQuery at the law's text. -/
theorem two_of {W : World} {base g cp : Nat} {f tx f' tx' : ByteArray} {n : Nat} (h : W.ownsRow base 71 3 (.slice (some ⟨g, 0, none⟩) 2 cp) 2 (twoX f tx f' tx' n)) : TwoAt W g 1 n f tx 2 1 f' tx' :=
  ⟨⟨h.cellAt 0 (by omega), h.cellAt 1 (by omega), h.cellAt 2 (by omega)⟩, h.cellAt 3 (by omega), h.cellAt 4 (by omega), h.cellAt 5 (by omega)⟩
set_option maxHeartbeats 8000000 in
theorem parseQuery_of (T f tx f' tx' : ByteArray) (n : Nat) (w : World) (hT : Tabs w) (hsz : T.size ≤ 2000) (hv : validB T = true)
    (kp : ∀ V b, PsAt V b T 0 → (∀ U, V.grownBy U (some b) → Tabs U) → Calls Tryz.prog 26 #[.pointer (some ⟨b, 0, none⟩)] V fun e W' => ∃ v, e = .returned (.tuple #[.agg #[.int .i64 0, .int .i64 1, .iface 106 (.agg #[v, .int .i64 0])], .nilIface]) ∧ PsAt W' b T T.size ∧ V.grownBy W' (some b) ∧ W'.ownsRow V.heap.size 71 3 v 2 (twoX f tx f' tx' n)) :
    Calls Tryz.prog 10 #[.string T] w fun e w' => ∃ gq cq ks, e = .returned (.tuple #[.agg #[.slice (some ⟨gq, 0, none⟩) 3 cq], .int .i64 0]) ∧ w'.ownsRow w.heap.size 45 10 (.slice (some ⟨gq, 0, none⟩) 3 cq) 3 (threeN 0 1 0 ks 1 n f tx 2 1 f' tx') ∧ Below w.heap.size w w' := by
  have KP := hidd kp
  have HT := hidd hT
  have HC : Hid (∀ V, Tabs V → Calls Tryz.prog 25 #[.string T] V fun e w' => e = .returned (.int .i64 0) ∧ Below V.heap.size V w') := fun V hV => by
    have := textCode_any T V (by omega) hV
    rwa [show decCode T = 0 from by rw [decCode, if_neg (by omega), if_pos hv]] at this
  have hz : ¬ (T.size : Int) > 2000 := by omega
  clear kp hT hv hsz
  go_enter Tryz.func10, Tryz.ntmps10
  go_upto_region 1 with fail
  have HB1 : Hid (Below w.heap.size w (w.alloc (.cells #[.slice none 0 0] 40))) := (Below.refl _ _).alloc (Nat.le_refl _) _
  have HX1 := hidd (heap_alloc_new w (.cells #[.slice none 0 0] 40))
  obtain ⟨g2, hg2⟩ : ∃ g, w.heap.size = g := ⟨_, rfl⟩
  have HG : Hid (w.heap.size ≤ g2) := Nat.le_of_eq hg2
  rw [hg2] at HX1
  simp only [hg2]
  clear hg2
  generalize w.alloc (.cells #[.slice none 0 0] 40) = w1 at *
  go_wp2_with fail
  refine (HC.out _ (HT.out.below HB1.out)).mono ?_
  rintro e w2 ⟨rfl, hb2⟩
  have HB2 := hidd (HB1.out.trans (hb2.mono HB1.out.size))
  have HX2 := hidd (blko HX1.out hb2)
  clear hb2 HB1 HX1
  go_upto_region 7 with fail
  have hbC : Below w2.heap.size w2 (w2.alloc (.cells #[.string T, .int .i64 0] 67)) := (Below.refl _ _).alloc (Nat.le_refl _) _
  have hP : PsAt (w2.alloc (.cells #[.string T, .int .i64 0] 67)) w2.heap.size T 0 := heap_alloc_new w2 _
  have HP := hidd hP
  have HBC := hidd hbC
  have HT2 : Hid (∀ U, (w2.alloc (.cells #[.string T, .int .i64 0] 67)).grownBy U (some w2.heap.size) → Below w2.heap.size w2 U) := fun U hU => hbC.grown hU hbC.size (fun k hk => by injection hk with hk; omega)
  clear hbC hP
  obtain ⟨b, hb⟩ : ∃ g, w2.heap.size = g := ⟨_, rfl⟩
  rw [hb] at HP
  have HTU : Hid (∀ U, (w2.alloc (.cells #[.string T, .int .i64 0] 67)).grownBy U (some b) → Below w2.heap.size w2 U) := fun U hU => HT2.out U (by rw [hb]; exact hU)
  simp only [hb]
  clear hb HT2
  generalize w2.alloc (.cells #[.string T, .int .i64 0] 67) = w3 at *
  go_wp2_with fail
  refine (KP.out _ _ HP.out (fun U hU => (HT.out.below HB2.out).below (HTU.out U hU))).mono ?_
  rintro e w4 ⟨v, rfl, _, hgr, ho⟩
  have hb4 := HTU.out _ hgr
  have HB4 := hidd (HB2.out.trans (hb4.mono HB2.out.size))
  have HX4 := hidd (blko HX2.out hb4)
  have HO4 := hidd ho
  clear hb4 ho hgr HB2 HX2 HP HTU HBC
  obtain ⟨g, cp, hv, hgl, hgs⟩ := own_caseN HO4.out (by omega)
  subst hv
  have HTw := hidd (two_of HO4.out)
  have HGs := hidd hgs
  clear HO4 hgl hgs
  go_upto_region 10 with fail
  have hbD : Below w4.heap.size w4 (w4.alloc (.cells #[.int .i64 0, .int .i64 1, .iface 106 (.agg #[.slice (some ⟨g, 0, none⟩) 2 cp, .int .i64 0])] 71)) := (Below.refl _ _).alloc (Nat.le_refl _) _
  have HXr := hidd (heap_alloc_new w4 (.cells #[.int .i64 0, .int .i64 1, .iface 106 (.agg #[.slice (some ⟨g, 0, none⟩) 2 cp, .int .i64 0])] 71))
  have HB5 := hidd (HB4.out.trans (hbD.mono HB4.out.size))
  have HX5 := hidd (blko HX4.out hbD)
  have HTx := hidd (HTw.out.below hbD)
  have HGt : Hid (g < (w4.alloc (.cells #[.int .i64 0, .int .i64 1, .iface 106 (.agg #[.slice (some ⟨g, 0, none⟩) 2 cp, .int .i64 0])] 71)).heap.size) := Nat.lt_of_lt_of_le HGs.out hbD.size
  clear hbD HB4 HX4 HTw HGs
  obtain ⟨gr, hgr⟩ : ∃ g, w4.heap.size = g := ⟨_, rfl⟩
  rw [hgr] at HXr
  simp only [hgr]
  clear hgr
  generalize w4.alloc (.cells #[.int .i64 0, .int .i64 1, .iface 106 (.agg #[.slice (some ⟨g, 0, none⟩) 2 cp, .int .i64 0])] 71) = w5 at *
  have z0 := blkc HXr.out 0
  have z1 := blkc HXr.out 1
  have z2 := blkc HXr.out 2
  simp only [List.getElem?_toArray, List.getElem?_cons_zero, List.getElem?_cons_succ] at z0 z1 z2
  go_wp2_with fail
  refine (tquery_two 0 1 0 g cp 1 n f tx 2 1 f' tx' _ HTx.out HGt.out).mono ?_
  rintro e w6 ⟨gq, cq, ks, rfl, ho, hb6⟩
  have HB6 := hidd (HB5.out.trans (hb6.mono HB5.out.size))
  have HX6 := hidd (blko HX5.out hb6)
  have HOg : Hid (gq ≠ g2) := fun e => by have := (own_blk ho (b := gq) rfl).1; have := (Array.getElem?_eq_some_iff.1 HX5.out).1; omega
  have HO6 := hidd (own_lowerN ho HB5.out.size)
  clear z0 z1 z2 hb6 ho HB5 HX5 HXr HTx HGt
  have y0 := blkc HX6.out 0
  have y1 := blkf HX6.out 0
  simp only [List.getElem?_toArray, List.getElem?_cons_zero, List.getElem?_cons_succ] at y0
  go_wp2
  have hfin := hidd (blk_setk HX6.out 0 (.slice (some ⟨gq, 0, none⟩) 3 cq))
  have hbf : Hid (Below w.heap.size w (w6.setCell ⟨g2, 0, none⟩ (.slice (some ⟨gq, 0, none⟩) 3 cq))) := HB6.out.setCell (p := ⟨g2, 0, none⟩) HG.out _
  have hof := hidd (own_setO (b := g2) (j := 0) (u := .slice (some ⟨gq, 0, none⟩) 3 cq) HO6.out (fun e => HOg.out (by injection e with e)))
  clear y0 y1 HX6 HB6 HO6 HOg
  generalize w6.setCell ⟨g2, 0, none⟩ (.slice (some ⟨gq, 0, none⟩) 3 cq) = wf at *
  refine bodyPost_ret (v := .tuple #[.agg #[.slice (some ⟨gq, 0, none⟩) 3 cq], .int .i64 0]) ?_ rfl ⟨gq, cq, ks, rfl, hof.out, hbf.out⟩
  rw [results_cell_tmp rfl]
  have q0 := blkc hfin.out 0
  simp at q0
  have hld : (loadVar 40 ⟨g2, 0, none⟩).run Tryz.prog wf = .ok (.agg #[.slice (some ⟨gq, 0, none⟩) 3 cq]) wf := by
    go_simp
  simp [asAddr, Result.andThen, hld]
theorem parseQuery_any (ws : List Int) (n : Nat) (hw : ∀ r ∈ ws, r ∈ wdR) (h1 : 1 ≤ ws.length) (h2 : ws.length ≤ 12) (hn1 : 1 ≤ n) (hn2 : n ≤ 99) (w : World) (hT : Tabs w) :
    Calls Tryz.prog 10 #[.string (lawT ws n)] w fun e w' => ∃ gq cq ks, e = .returned (.tuple #[.agg #[.slice (some ⟨gq, 0, none⟩) 3 cq], .int .i64 0]) ∧ w'.ownsRow w.heap.size 45 10 (.slice (some ⟨gq, 0, none⟩) 3 cq) 3 (threeN 0 1 0 ks 1 n ⟨#[102, 49]⟩ (bs (encs ws)) 2 1 ⟨#[]⟩ (bs (encs ws))) ∧ Below w.heap.size w w' := by
  refine parseQuery_of (lawT ws n) ⟨#[102, 49]⟩ (bs (encs ws)) ⟨#[]⟩ (bs (encs ws)) n w hT ?_ (lw_valid ws (decB n) hw (decB_ascii n (by omega))) fun V b hP hU => parse_any V b ws n hw h1 h2 hn1 hn2 hP hU
  have := wds_small ws hw
  have := decB_len n
  rw [lawT, bs_size, lw_len]
  omega
end Go.Proofs.YtpdiaddgialanaaGreatDoor
