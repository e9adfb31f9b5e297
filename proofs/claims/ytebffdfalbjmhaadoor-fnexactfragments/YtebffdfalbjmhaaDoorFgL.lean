import Derived.Test.YtebffdfalbjmhaaDoorFgJ
import Derived.Test.YtebffdfalbjmhaaDoorFgS
import Derived.Test.YtebffdfalbjmhaaDoorStrs
namespace Go.Proofs.YtebffdfalbjmhaaDoor
open Go Go.RowKit
set_option linter.unusedVariables false

set_option maxHeartbeats 2000000 in
set_option maxRecDepth 100000 in
theorem fragLaw_any (s : ByteArray) (k : Int) (w : World) (hT : Tabs w) :
    Calls Tryd.prog 3 #[.string s, .int .i64 k] w fun e w' => e = .returned (.bool true) ∧ Below w.heap.size w w' := by
  have HT := hidd hT
  clear hT
  by_cases hlong : 1048576 < s.size
  · have hlz : (1048576 : Int) < (s.size : Int) := by omega
    go_enter Tryd.func3, Tryd.ntmps3
    go_wp2
    go_ret
    exact ⟨rfl, Below.refl _ _⟩
  · have hlz : ¬ (1048576 : Int) < (s.size : Int) := by omega
    have hn := fgList_le s k
    have hcn : (fgCode s k != fgCode s k) = false := by simp
    go_enter Tryd.func3, Tryd.ntmps3
    go_wp2_with fail
    refine (specFrag_any s k _ (by omega)).mono ?_
    rintro e w1 ⟨v0, rfl, hown0, hb1⟩
    have HO0 := hidd hown0
    have HB1 := hidd hb1
    clear hown0 hb1
    go_wp2_with fail
    refine (implFrag_any s k _ (by omega) (HT.out.below HB1.out)).mono ?_
    rintro e w2 ⟨v1, rfl, hown1, hb2⟩
    have HO1 := hidd hown1
    have HO0' := hidd (own_below HO0.out hb2)
    have HB2 := hidd (HB1.out.trans (hb2.mono HB1.out.size))
    have hz12 : w1.heap.size ≤ w2.heap.size := hb2.size
    have HN : Hid (v0.ownBlock = none ∨ v0.ownBlock ≠ v1.ownBlock) := own_apart HO0.out hown1
    clear hown1 hb2 HO0
    generalize hz : fgList s k = zs at *
    have Hz := hidd hz
    clear hz
    generalize hc : fgCode s k = c at *
    have Hc := hidd hc
    clear hc
    go_wp2_with fail
    refine (eqStrs_own _ _ v1 v0 zs _ (by omega) HO1.out HO0'.out).mono ?_
    rintro e w3 ⟨rfl, m3, rfl⟩
    go_wp2_with fail
    refine (markStrs_own _ zs.length v1 _ 1 _ (by omega) (by omega) (by omega) (by simpa using hz12) (own_drewN HO1.out m3)).mono ?_
    rintro e w4 ⟨rfl, hown4, hg4⟩
    have HO4 := hidd hown4
    have HO0'' := hidd ((own_drewN HO0'.out m3).kept hg4 HN.out)
    have HB4 : Hid (Below w.heap.size w w4) := (below_drewN HB2.out m3).grown hg4 HB2.out.size (fun k hk => Nat.le_trans HB1.out.size (own_block HO1.out k hk))
    clear hown4 hg4 HO1 HO0'
    go_wp2_with fail
    refine (heldStrs_own _ zs.length v1 1 _ (by omega) (by omega) (by omega) HO4.out).mono ?_
    rintro e w5 ⟨rfl, hb5⟩
    have HO45 := hidd (own_below HO4.out hb5)
    have HO05 := hidd (own_below HO0''.out hb5)
    have HB5 := hidd (HB4.out.trans (hb5.mono HB4.out.size))
    clear hb5 HO4 HO0''
    go_wp2_with fail
    refine (implFrag_any s k _ (by omega) (HT.out.below HB5.out)).mono ?_
    rintro e w6 ⟨v2, rfl, hown6, hb6⟩
    rw [Hz.out, Hc.out] at *
    have HO6 := hidd hown6
    have HO0F := hidd (own_below HO05.out hb6)
    have HO4' := hidd (own_below HO45.out hb6)
    have HB6 := hidd (HB5.out.trans (hb6.mono HB5.out.size))
    clear hown6 hb6 HO45 HO05
    go_wp2_with fail
    refine (eqStrs_own _ _ v2 v0 zs _ (by omega) HO6.out HO0F.out).mono ?_
    rintro e w7 ⟨rfl, m7, rfl⟩
    go_wp2_with fail
    refine (heldStrs_own _ zs.length v1 1 _ (by omega) (by omega) (by omega) (own_drewN HO4'.out m7)).mono ?_
    rintro e w8 ⟨rfl, hb8⟩
    have HB8 : Hid (Below w.heap.size w w8) := (below_drewN HB6.out m7).trans (hb8.mono (by simpa using HB6.out.size))
    clear hb8
    go_wp2
    go_ret
    exact ⟨rfl, HB8.out⟩
end Go.Proofs.YtebffdfalbjmhaaDoor
