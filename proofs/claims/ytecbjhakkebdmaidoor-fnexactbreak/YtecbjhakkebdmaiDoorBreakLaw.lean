import Derived.Test.YtecbjhakkebdmaiDoorBrkW
import Derived.Test.YtecbjhakkebdmaiDoorBrkT
import Derived.Test.YtecbjhakkebdmaiDoorToks
namespace Go.Proofs.YtecbjhakkebdmaiDoor
open Go Go.RowKit
set_option linter.unusedVariables false

theorem brkList_le (s : ByteArray) : (brkList s).length ≤ 8192 := by
  unfold brkList
  split
  · split
    · simp
    · omega
  · simp

set_option maxHeartbeats 2000000 in
set_option maxRecDepth 100000 in
theorem breakLaw_any (s : ByteArray) (w : World) (hT : Tabs w) :
    Calls Tryd.prog 4 #[.string s] w fun e w' => e = .returned (.bool true) ∧ Below w.heap.size w w' := by
  have HT := hidd hT
  clear hT
  by_cases hlong : 1048576 < s.size
  · have hlz : (1048576 : Int) < (s.size : Int) := by omega
    go_enter Tryd.func4, Tryd.ntmps4
    go_wp2
    go_ret
    exact ⟨rfl, Below.refl _ _⟩
  · have hlz : ¬ (1048576 : Int) < (s.size : Int) := by omega
    have hn := brkList_le s
    go_enter Tryd.func4, Tryd.ntmps4
    go_wp2_with fail
    refine (specBreak_any s _ (by omega)).mono ?_
    rintro e w1 ⟨v0, rfl, hown0, hb1⟩
    have HO0 := hidd hown0
    have HB1 := hidd hb1
    clear hown0 hb1
    go_wp2_with fail
    refine (implBreak_any s _ (by omega) (HT.out.below HB1.out)).mono ?_
    rintro e w2 ⟨v1, rfl, hown1, hb2⟩
    have HO1 := hidd hown1
    have HO0' := hidd (own4_below HO0.out hb2)
    have HB2 := hidd (HB1.out.trans (hb2.mono HB1.out.size))
    have HZ12 := hidd hb2.size
    have HN : Hid (v0.ownBlock = none ∨ v0.ownBlock ≠ v1.ownBlock) := own4_apart HO0.out hown1
    clear hown1 hb2 HO0
    generalize hz : brkList s = l at *
    have Hz := hidd hz
    clear hz
    generalize hc : brkCode s = c at *
    have Hc := hidd hc
    clear hc
    go_wp2_with fail
    refine (eqToks_own _ _ v1 v0 l _ (by omega) HO1.out HO0'.out).mono ?_
    rintro e w3 ⟨rfl, hb3⟩
    have HO1' := hidd (own4_below HO1.out hb3)
    have HO0'' := hidd (own4_below HO0'.out hb3)
    have HB3 := hidd (HB2.out.trans (hb3.mono HB2.out.size))
    have HZ23 := hidd hb3.size
    clear hb3
    go_wp2_with fail
    refine (markToks_own _ l.length v1 _ 1 _ (by omega) (by omega) (by omega) (by have := HZ12.out; have := HZ23.out; omega) HO1'.out).mono ?_
    rintro e w4 ⟨rfl, hown4, hg4⟩
    have HO4 := hidd hown4
    have HO04 := hidd (HO0''.out.kept hg4 HN.out)
    have HB4 : Hid (Below w.heap.size w w4) := HB3.out.grown hg4 HB3.out.size (fun k hk => Nat.le_trans HB1.out.size (own4_block HO1.out k hk))
    clear hown4 hg4 HO1 HO0' HO1' HO0''
    go_wp2_with fail
    refine (heldToks_own _ l.length v1 1 _ (by omega) (by omega) (by omega) HO4.out).mono ?_
    rintro e w5 ⟨rfl, hb5⟩
    have HO5 := hidd (own4_below HO4.out hb5)
    have HO05 := hidd (own4_below HO04.out hb5)
    have HB5 := hidd (HB4.out.trans (hb5.mono HB4.out.size))
    clear hb5 HO4 HO04
    go_wp2_with fail
    refine (implBreak_any s _ (by omega) (HT.out.below HB5.out)).mono ?_
    rintro e w6 ⟨v2, rfl, hown6, hb6⟩
    rw [Hz.out, Hc.out] at *
    have HO6 := hidd hown6
    have HO06 := hidd (own4_below HO05.out hb6)
    have HO56 := hidd (own4_below HO5.out hb6)
    have HB6 := hidd (HB5.out.trans (hb6.mono HB5.out.size))
    clear hown6 hb6 HO5 HO05
    go_wp2_with fail
    refine (eqToks_own _ _ v2 v0 l _ (by omega) HO6.out HO06.out).mono ?_
    rintro e w7 ⟨rfl, hb7⟩
    have HO57 := hidd (own4_below HO56.out hb7)
    have HB7 := hidd (HB6.out.trans (hb7.mono HB6.out.size))
    clear hb7
    go_wp2_with fail
    refine (heldToks_own _ l.length v1 1 _ (by omega) (by omega) (by omega) HO57.out).mono ?_
    rintro e w8 ⟨rfl, hb8⟩
    have HB8 := hidd (HB7.out.trans (hb8.mono HB7.out.size))
    clear hb8
    go_wp2
    go_ret
    exact ⟨rfl, HB8.out⟩
end Go.Proofs.YtecbjhakkebdmaiDoor
