import Derived.Test.YtanolccfmpbjgalDtTK
import Derived.Test.YtanolccfmpbjgalDictOKJ04
namespace Go.Proofs.Ytanolccfmpbjgal
open Go Go.RowKit
set_option linter.unusedVariables false

set_option maxHeartbeats 4000000 in
set_option maxRecDepth 100000 in
theorem termLaw_any (hSp : TermC 16) (hIm : TermC 17) (c : Int) (a : Option Addr) (cap : Nat) (S : List St) (t : Int) (w : World) (hn : S.length ≤ 9223372036854775807) (hA : ∀ i, (arcsAt S i).length ≤ 9223372036854775807) (hS : HoldS w a S) :
    Calls Try.prog 5 #[.agg #[.int .i64 c, .slice a S.length cap], .int .i64 t] w fun e w' => e = .returned (.bool true) ∧ Below w.heap.size w w' := by
  have HS := hidd hS
  have HSp := hidd hSp
  have HIm := hidd hIm
  clear hS hSp hIm
  have HBa : Hid (Below w.heap.size w (w.alloc (.cells #[.int .i64 c, .slice a S.length cap] 24))) := (Below.refl _ _).alloc (Nat.le_refl _) _
  have HSz : Hid (∀ W, HoldS W a S → Calls Try.prog 9 #[.agg #[.int .i64 c, .slice a S.length cap], .int .i64 1048576] W fun e w' => e = .returned (.int .i64 (szD 1048576 S)) ∧ Below W.heap.size W w') := fun W hW => szDict_any c a cap S W hn hA hW
  obtain ⟨X, hX⟩ : ∃ X, szD 1048576 S = X := ⟨_, rfl⟩
  rw [hX] at HSz
  have hbx := hidd (heap_alloc_new w (.cells #[.int .i64 c, .slice a S.length cap] 24))
  go_enter Try.func5, Try.ntmps5
  go_wp2_with fail
  refine (HSz.out _ (HS.out.below HBa.out)).mono ?_
  rintro e w1 ⟨rfl, hb1⟩
  have HB1 := hidd (HBa.out.trans (hb1.mono HBa.out.size))
  have Hbox1 := hidd (blko hbx.out hb1)
  have hw1 : w.heap.size < w1.heap.size := (Array.getElem?_eq_some_iff.1 Hbox1.out).1
  clear hb1
  by_cases hX0 : X < 0
  · go_wp2_with fail
    go_ret
    exact ⟨rfl, HB1.out⟩
  · obtain ⟨hn2, hA2⟩ := szD_ok (S := S) (by omega)
    have HA2 := hidd hA2
    have HTo : Hid (∀ W, HoldS W a S → Calls Try.prog 11 #[.agg #[.int .i64 c, .slice a S.length cap]] W fun e w' => ∃ g, e = .returned (.agg #[.int .i64 c, .slice (some ⟨g, 0, none⟩) S.length S.length]) ∧ W.heap.size ≤ g ∧ HoldN w' g (some ⟨g, 0, none⟩) S ∧ Below W.heap.size W w') := fun W hW => toDict_any c a cap S W hn2 HA2.out hW
    clear hA2 hX hA HSz hbx HBa
    have b0 : w1.cell? ⟨w.heap.size, 0, none⟩ = some (.int .i64 c) := blkc Hbox1.out 0
    have b1 : w1.cell? ⟨w.heap.size, 1, none⟩ = some (.slice a S.length cap) := blkc Hbox1.out 1
    go_wp2_with fail
    refine (HTo.out _ (HS.out.below HB1.out)).mono ?_
    rintro e w2 ⟨g2, rfl, hg2, hh2, hb2⟩
    have HB2 := hidd (HB1.out.trans (hb2.mono HB1.out.size))
    have HH2 := hidd hh2.now
    have Hbox2 := hidd (blko Hbox1.out hb2)
    clear hh2 hb2 b0 b1 Hbox1
    go_wp2_with fail
    refine (HSp.out c _ _ S t _ hn2 HA2.out HH2.out).mono ?_
    rintro e w3 ⟨rfl, hb3⟩
    have HB3 := hidd (HB2.out.trans (hb3.mono HB2.out.size))
    have Hbox3 := hidd (blko Hbox2.out hb3)
    clear hb3 HH2 Hbox2 HSp
    have b0 : w3.cell? ⟨w.heap.size, 0, none⟩ = some (.int .i64 c) := blkc Hbox3.out 0
    have b1 : w3.cell? ⟨w.heap.size, 1, none⟩ = some (.slice a S.length cap) := blkc Hbox3.out 1
    go_wp2_with fail
    refine (HTo.out _ (HS.out.below HB3.out)).mono ?_
    rintro e w4 ⟨g4, rfl, hg4, hh4, hb4⟩
    have HB4 := hidd (HB3.out.trans (hb4.mono HB3.out.size))
    have HBx : Hid (Below w4.heap.size w4 (w4.alloc (.cells #[.int .i64 c, .slice (some ⟨g4, 0, none⟩) S.length S.length] 29))) := (Below.refl _ _).alloc (Nat.le_refl _) _
    have Hbx5 := hidd (heap_alloc_new w4 (.cells #[.int .i64 c, .slice (some ⟨g4, 0, none⟩) S.length S.length] 29))
    have Hbox4 := hidd (blko Hbox3.out hb4)
    have HH4 := hidd hh4
    clear hh4 hb4 b0 b1 Hbox3
    go_upto_region 7 with fail
    obtain ⟨w5, hw5⟩ : ∃ w5, w4.alloc (.cells #[.int .i64 c, .slice (some ⟨g4, 0, none⟩) S.length S.length] 29) = w5 := ⟨_, rfl⟩
    rw [hw5] at HBx Hbx5
    try rw [hw5]
    clear hw5
    have HB5 := hidd (HB4.out.trans (HBx.out.mono HB4.out.size))
    have HH5 := hidd (HH4.out.below HBx.out)
    have Hbox5 := hidd (blko Hbox4.out HBx.out)
    have d0 : w5.cell? ⟨w4.heap.size, 0, none⟩ = some (.int .i64 c) := blkc Hbx5.out 0
    have d1 : w5.cell? ⟨w4.heap.size, 1, none⟩ = some (.slice (some ⟨g4, 0, none⟩) S.length S.length) := blkc Hbx5.out 1
    clear HH4 Hbox4
    go_wp2_with fail
    refine (HIm.out c _ _ S t _ hn2 HA2.out HH5.out.now).mono ?_
    rintro e w6 ⟨rfl, hb6⟩
    have HB6 := hidd (HB5.out.trans (hb6.mono HB5.out.size))
    have HH6 := hidd (HH5.out.below hb6)
    have Hbox6 := hidd (blko Hbox5.out hb6)
    have Hbx6 := hidd (blko Hbx5.out hb6)
    clear hb6 HH5 Hbox5 Hbx5 d0 d1 HIm HBx
    have hneq2 : ((termO (dictT c S) t).2 != (termO (dictT c S) t).2) = false := by simp
    generalize (termO (dictT c S) t).1 = R1 at *
    generalize (termO (dictT c S) t).2 = R2 at *
    have hneq1 : (R1 == R1) = true := by simp
    dsimp only
    have b0 : w6.cell? ⟨w.heap.size, 0, none⟩ = some (.int .i64 c) := blkc Hbox6.out 0
    have b1 : w6.cell? ⟨w.heap.size, 1, none⟩ = some (.slice a S.length cap) := blkc Hbox6.out 1
    have d0 : w6.cell? ⟨w4.heap.size, 0, none⟩ = some (.int .i64 c) := blkc Hbx6.out 0
    have d1 : w6.cell? ⟨w4.heap.size, 1, none⟩ = some (.slice (some ⟨g4, 0, none⟩) S.length S.length) := blkc Hbx6.out 1
    have hbd : Below w6.heap.size w6 w6.drew := below_drewN (Below.refl _ _) 1
    have HSd := hidd ((HS.out.below HB6.out).below hbd)
    have HHd := hidd (HH6.out.below hbd)
    have Hbxd := hidd (blko Hbx6.out hbd)
    have HBd := hidd (HB6.out.trans (hbd.mono HB6.out.size))
    clear hbd
    go_wp2_with fail
    go_region_with (first
      | (go_at_call 11; refine (HTo.out _ HSd.out).mono ?_; rintro e' w7 ⟨g7, rfl, hg7, hh7, hb7⟩; have y0 : w7.cell? ⟨w4.heap.size, 0, none⟩ = some (.int .i64 c) := blkc (blko Hbxd.out hb7) 0; have y1 : w7.cell? ⟨w4.heap.size, 1, none⟩ = some (.slice (some ⟨g4, 0, none⟩) S.length S.length) := blkc (blko Hbxd.out hb7) 1)
      | (go_at_call 13; refine (eqDict_same c _ _ _ _ S _ hn2 HA2.out (HHd.out.below hb7).now hh7.now).mono ?_; rintro e'' w8 ⟨rfl, hb8⟩))
    all_goals
      go_wp2_with fail
      go_ret
      exact ⟨rfl, HBd.out.trans ((hb7.trans (hb8.mono hb7.size)).mono HBd.out.size)⟩
end Go.Proofs.Ytanolccfmpbjgal
