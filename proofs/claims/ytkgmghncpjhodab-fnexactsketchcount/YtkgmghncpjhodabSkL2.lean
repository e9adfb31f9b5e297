import Derived.Test.YtkgmghncpjhodabSkC
import Derived.Test.YtkgmghncpjhodabLen
namespace Go.Proofs.Ytkgmghncpjhodab
open Go Go.RowKit
set_option linter.unusedVariables false
set_option maxRecDepth 100000

/-! The law of SketchCount. -/
theorem lenC : LenC := fun x w h0 h1 => Try.bits_Len64 x w h0 h1
set_option maxHeartbeats 4000000 in
theorem skCountLaw_any (v : Value) (zs : List Int) (w : World) (hn : zs.length ≤ 9223372036854775807) (hv : HoldI w v zs) :
    Calls Try.prog 5 #[.agg #[v]] w fun e w' => e = .returned (.bool true) ∧ Below w.heap.size w w' := by
  have HS := hidd hv
  obtain ⟨ad, cap, rfl, -⟩ := hv
  have HBa : Hid (Below w.heap.size w (w.alloc (.cells #[.slice ad zs.length cap] 24))) := (Below.refl _ _).alloc (Nat.le_refl _) _
  have HSz : Hid (∀ W, Calls Try.prog 6 #[.agg #[.slice ad zs.length cap], .int .i64 1048576] W fun e w' => e = .returned (.int .i64 (szL 1048576 zs.length)) ∧ Below W.heap.size W w') := fun W => szSketchL_any ad zs.length cap 1048576 W (by omega) (by omega) hn
  obtain ⟨X, hX⟩ : ∃ X, szL 1048576 zs.length = X := ⟨_, rfl⟩
  rw [hX] at HSz
  have hbx := hidd (heap_alloc_new w (.cells #[.slice ad zs.length cap] 24))
  go_enter Try.func5, Try.ntmps5
  go_wp2_with fail
  refine (HSz.out _).mono ?_
  rintro e w1 ⟨rfl, hb1⟩
  have HB1 := hidd (HBa.out.trans (hb1.mono HBa.out.size))
  have Hbox1 := hidd (blko hbx.out hb1)
  clear hb1
  by_cases hX0 : X < 0
  · go_wp2_with fail
    go_ret
    exact ⟨rfl, HB1.out⟩
  · have hn2 : zs.length ≤ 1048576 := by have := szL_ok (left := 1048576) (n := zs.length) (by rw [hX]; exact hX0); omega
    have HTo : Hid (∀ W, HoldI W (.slice ad zs.length cap) zs → Calls Try.prog 8 #[.agg #[.slice ad zs.length cap]] W fun e w' => ∃ g, e = .returned (.agg #[.slice (some ⟨g, 0, none⟩) zs.length zs.length]) ∧ W.heap.size ≤ g ∧ w'.ownsRow W.heap.size 3 1 (.slice (some ⟨g, 0, none⟩) zs.length zs.length) zs.length (zI zs) ∧ Below W.heap.size W w') := fun W hW => toSketch_any _ zs W hn2 hW
    clear hX HSz hbx HBa
    have b3 : w1.cell? ⟨w.heap.size, 0, none⟩ = some (.slice ad zs.length cap) := blkc Hbox1.out 0
    go_wp2_with fail
    refine (HTo.out _ (HS.out.below HB1.out)).mono ?_
    rintro e w2 ⟨g2, rfl, hg2, hh2, hb2⟩
    have HB2 := hidd (HB1.out.trans (hb2.mono HB1.out.size))
    have HH2 := hidd hh2
    have Hbox2 := hidd (blko Hbox1.out hb2)
    clear hh2 hb2 b3 Hbox1
    go_wp2_with fail
    refine (specCount_any _ zs _ hn2 (HoldI.own HH2.out)).mono ?_
    rintro e w3 ⟨rfl, hb3⟩
    have HB3 := hidd (HB2.out.trans (hb3.mono HB2.out.size))
    have Hbox3 := hidd (blko Hbox2.out hb3)
    clear hb3 HH2 Hbox2
    have b3 : w3.cell? ⟨w.heap.size, 0, none⟩ = some (.slice ad zs.length cap) := blkc Hbox3.out 0
    go_wp2_with fail
    refine (HTo.out _ (HS.out.below HB3.out)).mono ?_
    rintro e w4 ⟨g4, rfl, hg4, hh4, hb4⟩
    have HB4 := hidd (HB3.out.trans (hb4.mono HB3.out.size))
    have HBx : Hid (Below w4.heap.size w4 (w4.alloc (.cells #[.slice (some ⟨g4, 0, none⟩) zs.length zs.length] 27))) := (Below.refl _ _).alloc (Nat.le_refl _) _
    have Hbx5 := hidd (heap_alloc_new w4 (.cells #[.slice (some ⟨g4, 0, none⟩) zs.length zs.length] 27))
    have Hbox4 := hidd (blko Hbox3.out hb4)
    have HH4 := hidd hh4
    clear hh4 hb4 b3 Hbox3
    go_upto_region 7 with fail
    obtain ⟨w5, hw5⟩ : ∃ w5, w4.alloc (.cells #[.slice (some ⟨g4, 0, none⟩) zs.length zs.length] 27) = w5 := ⟨_, rfl⟩
    rw [hw5] at HBx Hbx5
    try rw [hw5]
    clear hw5
    have HB5 := hidd (HB4.out.trans (HBx.out.mono HB4.out.size))
    have HH5 := hidd (own_below HH4.out HBx.out)
    have Hbox5 := hidd (blko Hbox4.out HBx.out)
    have d3 : w5.cell? ⟨w4.heap.size, 0, none⟩ = some (.slice (some ⟨g4, 0, none⟩) zs.length zs.length) := blkc Hbx5.out 0
    clear HH4 Hbox4
    go_wp2_with fail
    refine (implCount_any lenC _ zs _ hn2 (HoldI.own HH5.out)).mono ?_
    rintro e w6 ⟨rfl, hb6⟩
    have HB6 := hidd (HB5.out.trans (hb6.mono HB5.out.size))
    have HH6 := hidd (own_below HH5.out hb6)
    have Hbox6 := hidd (blko Hbox5.out hb6)
    have Hbx6 := hidd (blko Hbx5.out hb6)
    clear hb6 HH5 Hbox5 Hbx5 d3 HBx
    have hq0 : ((skC zs).1 != (skC zs).1) = false := by simp
    have hq1 : ((skC zs).2 != (skC zs).2) = false := by simp
    generalize skC zs = R at *
    have b3 : w6.cell? ⟨w.heap.size, 0, none⟩ = some (.slice ad zs.length cap) := blkc Hbox6.out 0
    have d3 : w6.cell? ⟨w4.heap.size, 0, none⟩ = some (.slice (some ⟨g4, 0, none⟩) zs.length zs.length) := blkc Hbx6.out 0
    have hbd : Below w6.heap.size w6 w6.drew := below_drewN (Below.refl _ _) 1
    have HSd := hidd ((HS.out.below HB6.out).below hbd)
    have HHd := hidd (own_below HH6.out hbd)
    have Hbxd := hidd (blko Hbx6.out hbd)
    have HBd := hidd (HB6.out.trans (hbd.mono HB6.out.size))
    clear hbd
    go_wp2_with fail
    go_region_with (first
      | (go_at_call 8; refine (HTo.out _ HSd.out).mono ?_; rintro e' w7 ⟨g7, rfl, hg7, hh7, hb7⟩; have y3 : w7.cell? ⟨w4.heap.size, 0, none⟩ = some (.slice (some ⟨g4, 0, none⟩) zs.length zs.length) := blkc (blko Hbxd.out hb7) 0)
      | (go_at_call 10; refine (eqSketch_same _ _ _ _ zs _ hn2 (own_below HHd.out hb7) hh7).mono ?_; rintro e'' w8 ⟨rfl, hb8⟩))
    all_goals
      go_wp2_with fail
      go_ret
      exact ⟨rfl, HBd.out.trans ((hb7.trans (hb8.mono hb7.size)).mono HBd.out.size)⟩
end Go.Proofs.Ytkgmghncpjhodab
