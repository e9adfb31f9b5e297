import Derived.Test.YtnekdkafhoacoaaDoorScS
import Derived.Test.YtnekdkafhoacoaaDoorScI
import Derived.Test.YtnekdkafhoacoaaDoorScU
namespace Go.Proofs.YtnekdkafhoacoaaDoor
open Go Go.RowKit
set_option linter.unusedVariables false
set_option maxRecDepth 100000

set_option maxHeartbeats 4000000 in
theorem schemaLaw_any (a : Option Addr) (cap : Nat) (l : List Fd) (w : World) (hT : Tabs w) (hn : l.length ≤ 9223372036854775807) (hA : ∀ i, FdLen (l.getD i fd0)) (hS : HoldF w a l) :
    Calls Tryd.prog 3 #[.agg #[.slice a l.length cap]] w fun e w' => e = .returned (.bool true) ∧ Below w.heap.size w w' := by
  have HT := hidd hT
  have HS := hidd hS
  have HSz := hidd (fun W (h : HoldF W a l) => szSchema_any a cap l W hn hA h)
  have HOk := hidd (fun h => szFds_ok (l := l) h)
  clear hT hS hA
  have HBa := hidd ((Below.refl w.heap.size w).alloc (Nat.le_refl _) (.cells #[.slice a l.length cap] 24))
  have hbx := hidd (heap_alloc_new w (.cells #[.slice a l.length cap] 24))
  generalize szFds 1048576 l = X at *
  go_enter Tryd.func3, Tryd.ntmps3
  go_wp2_with fail
  refine (HSz.out _ (HS.out.below HBa.out)).mono ?_
  rintro e w1 ⟨rfl, hb1⟩
  have HB1 := hidd (HBa.out.trans (hb1.mono HBa.out.size))
  have Hbox1 := hidd (blk_old hbx.out hb1)
  have hw1 : w.heap.size < w1.heap.size := (Array.getElem?_eq_some_iff.1 Hbox1.out).1
  clear hb1
  by_cases hX0 : X < 0
  · go_wp2_with fail
    go_ret
    exact ⟨rfl, HB1.out⟩
  · obtain ⟨hn2, hA2⟩ := HOk.out (by omega)
    have HA2 := hidd hA2
    have HTo := hidd (fun W (h : HoldF W a l) => toSchema_any a cap l W hn2 hA2 h)
    clear hA2 HSz HOk hbx HBa
    have b0 := blk_cell Hbox1.out 0
    simp only [List.getElem?_toArray, List.getElem?_cons_zero] at b0
    go_wp2_with fail
    refine (HTo.out _ (HS.out.below HB1.out)).mono ?_
    rintro e w2 ⟨g2, rfl, hg2, hh2, hb2⟩
    have HB2 := hidd (HB1.out.trans (hb2.mono HB1.out.size))
    have HH2 := hidd hh2.hold
    have Hbox2 := hidd (blk_old Hbox1.out hb2)
    clear hh2 hb2 b0 Hbox1
    dsimp only
    go_wp2_with fail
    refine (specSchema_any _ _ l _ hn2 HA2.out HH2.out).mono ?_
    rintro e w3 ⟨rfl, hb3⟩
    have HB3 := hidd (HB2.out.trans (hb3.mono HB2.out.size))
    have Hbox3 := hidd (blk_old Hbox2.out hb3)
    clear hb3 HH2 Hbox2
    have b0 := blk_cell Hbox3.out 0
    simp only [List.getElem?_toArray, List.getElem?_cons_zero] at b0
    dsimp only
    go_wp2_with fail
    refine (HTo.out _ (HS.out.below HB3.out)).mono ?_
    rintro e w4 ⟨g4, rfl, hg4, hh4, hb4⟩
    have HB4 := hidd (HB3.out.trans (hb4.mono HB3.out.size))
    have HH4 := hidd hh4
    have Hbox4 := hidd (blk_old Hbox3.out hb4)
    clear hh4 hb4 b0 Hbox3
    have HBx := hidd ((Below.refl w4.heap.size w4).alloc (Nat.le_refl _) (.cells #[.slice (some ⟨g4, 0, none⟩) l.length l.length] 29))
    have Hbx5 := hidd (heap_alloc_new w4 (.cells #[.slice (some ⟨g4, 0, none⟩) l.length l.length] 29))
    dsimp only
    go_upto_region 7 with fail
    obtain ⟨w5, hw5⟩ : ∃ w5, w4.alloc (.cells #[.slice (some ⟨g4, 0, none⟩) l.length l.length] 29) = w5 := ⟨_, rfl⟩
    rw [hw5] at HBx Hbx5
    try rw [hw5]
    clear hw5
    have HB5 := hidd (HB4.out.trans (HBx.out.mono HB4.out.size))
    have HH5 := hidd (HH4.out.below HBx.out)
    have Hbox5 := hidd (blk_old Hbox4.out HBx.out)
    clear HH4 Hbox4
    have d0 := blk_cell Hbx5.out 0
    simp only [List.getElem?_toArray, List.getElem?_cons_zero] at d0
    go_wp2_with fail
    refine (implSchema_any _ _ l _ (HT.out.below HB5.out) hn2 HA2.out HH5.out.hold).mono ?_
    rintro e w6 ⟨rfl, hb6⟩
    have HB6 := hidd (HB5.out.trans (hb6.mono HB5.out.size))
    have HH6 := hidd (HH5.out.below hb6)
    have Hbox6 := hidd (blk_old Hbox5.out hb6)
    have Hbx6 := hidd (blk_old Hbx5.out hb6)
    have hwz6 : w.heap.size < w6.heap.size := (Array.getElem?_eq_some_iff.1 Hbox6.out).1
    clear hb6 HH5 Hbox5 Hbx5 d0 HBx HB5
    generalize scOK l = R at *
    have hRR : (R != R) = false := by simp
    dsimp only
    have b0 := blk_cell Hbox6.out 0
    have d0 := blk_cell Hbx6.out 0
    simp only [List.getElem?_toArray, List.getElem?_cons_zero] at b0 d0
    have hbd : Below w6.heap.size w6 w6.drew := below_drewN (Below.refl _ _) 1
    have HSd := hidd ((HS.out.below HB6.out).below hbd)
    have HHd := hidd (HH6.out.below hbd)
    have Hbxd := hidd (blk_old Hbx6.out hbd)
    have HBd := hidd hbd
    clear hbd
    go_upto_region 10 with fail
    go_cut [26] (fun cv wy => cv = .bool false ∧ Below w6.heap.size w6 wy)
    case first =>
      go_region_with (first
        | (go_at_call 7; refine (HTo.out _ HSd.out).mono ?_; rintro e' w8 ⟨g8, rfl, hg8, hh8, hb8⟩; have y0 : w8.cell? ⟨w4.heap.size, 0, none⟩ = some (.slice (some ⟨g4, 0, none⟩) l.length l.length) := blk_cell (blk_old Hbxd.out hb8) 0)
        | (go_at_call 9; refine (eqSchema_any _ _ _ _ l _ hn2 HA2.out (HHd.out.below hb8) hh8).mono ?_; rintro e'' w9 ⟨rfl, hb9⟩))
      all_goals
        go_wp2_with fail
        go_meet
        exact ⟨rfl, HBd.out.trans ((hb8.trans (hb9.mono hb8.size)).mono HBd.out.size)⟩
    case rest =>
      obtain ⟨rfl, hby⟩ := hcut
      have HBy := hidd (HB6.out.trans (hby.mono HB6.out.size))
      clear hby
      go_wp2_with fail
      go_ret
      exact ⟨rfl, HBy.out⟩
end Go.Proofs.YtnekdkafhoacoaaDoor
