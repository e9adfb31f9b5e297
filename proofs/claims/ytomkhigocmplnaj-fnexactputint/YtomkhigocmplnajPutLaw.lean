import Derived.Test.YtomkhigocmplnajPkE
import Derived.Test.YtomkhigocmplnajByteS
namespace Go.Proofs.Ytomkhigocmplnaj
open Go Go.RowKit
set_option linter.unusedVariables false

set_option maxHeartbeats 2000000 in
set_option maxRecDepth 100000 in
theorem putLaw_any (z : Int) (w : World) :
    Calls Try.prog 3 #[.int .i64 z] w fun e w' => e = .returned (.bool true) ∧ Below w.heap.size w w' := by
  have hn := putB_length z
  go_enter Try.func3, Try.ntmps3
  go_wp2_with fail
  refine (specPutInt_any z _).mono ?_
  rintro e w1 ⟨v0, rfl, hown0, hb1⟩
  have HO0 := hidd hown0
  have HB1 := hidd hb1
  clear hown0 hb1
  go_wp2_with fail
  refine (implPutInt_any z _).mono ?_
  rintro e w2 ⟨v1, rfl, hown1, hb2⟩
  have HO1 := hidd hown1
  have HO0' := hidd (own_below HO0.out hb2)
  have HB2 := hidd (HB1.out.trans (hb2.mono HB1.out.size))
  have HN : Hid (v0.ownBlock = none ∨ v0.ownBlock ≠ v1.ownBlock) := own_apart HO0.out hown1
  clear hown1 hb2 HO0
  generalize hz : putB z = zs at *
  have Hz := hidd hz
  clear hz
  generalize hc : putC z = c at *
  have Hc := hidd hc
  clear hc
  go_wp2_with fail
  refine (eqBytes_own _ _ zs.length v1 v0 zs _ (by omega) rfl HO1.out HO0'.out).mono ?_
  rintro e w3 ⟨rfl, m3, rfl⟩
  go_wp2_with fail
  refine (markBytes_own _ zs.length v1 _ 1 _ (by omega) (by omega) (by omega) (own_drewN HO1.out m3)).mono ?_
  rintro e w4 ⟨rfl, hown4, hg4⟩
  have HO4 := hidd hown4
  have HO0'' := hidd ((own_drewN HO0'.out m3).kept hg4 HN.out)
  have HB4 : Hid (Below w.heap.size w w4) := (below_drewN HB2.out m3).grown hg4 HB2.out.size (fun k hk => Nat.le_trans HB1.out.size (own_block HO1.out k hk))
  clear hown4 hg4 HO1 HO0'
  go_wp2_with fail
  refine (heldBytes_own _ zs.length v1 1 _ (by omega) (by omega) (by omega) HO4.out).mono ?_
  rintro e w5 ⟨rfl, rfl⟩
  go_wp2_with fail
  refine (implPutInt_any z _).mono ?_
  rintro e w6 ⟨v2, rfl, hown6, hb6⟩
  rw [Hz.out, Hc.out] at *
  have HO6 := hidd hown6
  have HO0F := hidd (own_below HO0''.out hb6)
  have HO4' := hidd (own_below HO4.out hb6)
  have HB6 := hidd (HB4.out.trans (hb6.mono HB4.out.size))
  clear hown6 hb6 HO4 HO0''
  go_wp2_with fail
  refine (eqBytes_own _ _ zs.length v2 v0 zs _ (by omega) rfl HO6.out HO0F.out).mono ?_
  rintro e w7 ⟨rfl, m7, rfl⟩
  go_wp2_with fail
  refine (heldBytes_own _ zs.length v1 1 _ (by omega) (by omega) (by omega) (own_drewN HO4'.out m7)).mono ?_
  rintro e w8 ⟨rfl, rfl⟩
  go_wp2
  go_ret
  exact ⟨rfl, below_drewN HB6.out m7⟩
end Go.Proofs.Ytomkhigocmplnaj
