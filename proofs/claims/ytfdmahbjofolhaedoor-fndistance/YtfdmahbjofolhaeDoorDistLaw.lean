import Derived.Test.YtfdmahbjofolhaeDoorEdK
import Derived.Test.YtfdmahbjofolhaeDoorDsA
import Derived.Test.YtfdmahbjofolhaeDoorTextP
namespace Go.Proofs.YtfdmahbjofolhaeDoor
open Go Go.RowKit
set_option linter.unusedVariables false

theorem toList_inj {s t : ByteArray} (h : s.toList = t.toList) : s = t := by
  rw [Lib.toList_data, Lib.toList_data] at h
  exact ByteArray.ext (Array.toList_inj.1 h)
theorem edCode_zero {s t : ByteArray} (h : edCode s t = 0) : ¬ 65536 < s.size ∧ ¬ 65536 < t.size ∧ validB s = true ∧ validB t = true ∧ ¬ 200 < (runes s).length ∧ ¬ 200 < (runes t).length := by
  unfold edCode at h
  split at h
  · omega
  split at h
  · omega
  split at h
  · omega
  split at h
  · omega
  rename_i h1 h2 h3 h4
  exact ⟨by omega, by omega, by simpa using h2, by simpa using h3, by omega, by omega⟩
theorem edCode_sym {s t : ByteArray} (h : edCode s t = 0) : edCode t s = 0 ∧ edVal t s = edVal s t := by
  obtain ⟨h1, h2, h3, h4, h5, h6⟩ := edCode_zero h
  have k := edCode_ok h2 h1 h4 h3 h6 h5
  have k2 := edCode_ok h1 h2 h3 h4 h5 h6
  rw [k.1, k.2, k2.2, edits_comm]
  exact ⟨rfl, rfl⟩
theorem edVal_zero {s t : ByteArray} (h : edCode s t = 0) : edVal s t = 0 ↔ s = t := by
  obtain ⟨h1, h2, h3, h4, h5, h6⟩ := edCode_zero h
  rw [(edCode_ok h1 h2 h3 h4 h5 h6).2]
  constructor
  · intro e
    have : runes s = runes t := (edits_zero _ _).1 (by omega)
    rw [← text_back s h3, ← text_back t h4, this]
  · intro e
    subst e
    rw [(edits_zero _ _).2 rfl]; rfl
theorem edVal_tri {s t c : ByteArray} (h : edCode s t = 0) (k : edCode s c = 0) (m : edCode c t = 0) : edVal s t ≤ edVal s c + edVal c t := by
  obtain ⟨h1, h2, h3, h4, h5, h6⟩ := edCode_zero h
  obtain ⟨k1, k2, k3, k4, k5, k6⟩ := edCode_zero k
  rw [(edCode_ok h1 h2 h3 h4 h5 h6).2, (edCode_ok k1 k2 k3 k4 k5 k6).2, (edCode_ok k2 h2 k4 h4 k6 h6).2]
  have := edits_tri (runes s) (runes c) (runes t)
  omega
theorem edVal_bd (s t : ByteArray) : 0 ≤ edVal s t ∧ edVal s t ≤ 400 := by
  by_cases h : edCode s t = 0
  · obtain ⟨h1, h2, h3, h4, h5, h6⟩ := edCode_zero h
    rw [(edCode_ok h1 h2 h3 h4 h5 h6).2]
    have := edAt_le (runes s) (runes t) (runes s).length (runes t).length
    unfold edits
    omega
  · rw [edVal_ne h]; omega

set_option maxHeartbeats 4000000 in
set_option maxRecDepth 100000 in
theorem distLaw_any (ao : Option Addr) (n cap : Nat) (ao2 : Option Addr) (n2 cap2 : Nat) (w : World) (hn : n ≤ maxLen) (hc : CodeIn w ao n) (hn2 : n2 ≤ maxLen) (hc2 : CodeIn w ao2 n2) (hT : Tabs w) :
    Calls Tryd.prog 5 #[.slice ao n cap, .slice ao2 n2 cap2] w fun e w' => e = .returned (.bool true) ∧ Below w.heap.size w w' := by
  have HT := hidd hT
  have HC := hidd hc
  have HC2 := hidd hc2
  clear hT hc hc2
  by_cases h1 : 1048576 < n
  · have hz : (1048576 : Int) < (n : Int) := by omega
    go_enter Tryd.func5, Tryd.ntmps5
    go_wp2
    go_ret
    exact ⟨rfl, Below.refl _ _⟩
  have hz1 : ¬ (1048576 : Int) < (n : Int) := by omega
  by_cases h2 : 1048576 < n2
  · have hz : (1048576 : Int) < (n2 : Int) := by omega
    go_enter Tryd.func5, Tryd.ntmps5
    go_wp2
    go_ret
    exact ⟨rfl, Below.refl _ _⟩
  have hz2 : ¬ (1048576 : Int) < (n2 : Int) := by omega
  go_enter Tryd.func5, Tryd.ntmps5
  go_wp2_with fail
  refine (drawEdits_any ao n cap _ (by omega) HC.out).mono ?_
  rintro e w1 ⟨s, t, rfl, hs, ht, hb1⟩
  have HB1 := hidd hb1
  clear hb1
  go_wp2_with fail
  refine (drawEdits_any ao2 n2 cap2 _ (by omega) (HC2.out.below HB1.out)).mono ?_
  rintro e w2 ⟨c, c', rfl, hcs, hcs', hb2⟩
  have HB2 := hidd (HB1.out.trans (hb2.mono HB1.out.size))
  clear hb2
  go_wp2_with fail
  refine (implEdits_any s t _ hs ht (HT.out.below HB2.out)).mono ?_
  rintro e w3 ⟨rfl, hb3⟩
  have HB3 := hidd (HB2.out.trans (hb3.mono HB2.out.size))
  clear hb3
  go_wp2_with fail
  refine (specEdits_any s t _ hs ht).mono ?_
  rintro e w4 ⟨rfl, hb4⟩
  have HB4 := hidd (HB3.out.trans (hb4.mono HB3.out.size))
  clear hb4
  have q1 : (edVal s t != edVal s t) = false := by simp
  have q2 : (edCode s t != edCode s t) = false := by simp
  go_wp2_with fail
  refine (implEdits_any t s _ ht hs (HT.out.below HB4.out)).mono ?_
  rintro e w5 ⟨rfl, hb5⟩
  have HB5 := hidd (HB4.out.trans (hb5.mono HB4.out.size))
  clear hb5
  go_wp2_with fail
  refine (implEdits_any s c _ hs hcs (HT.out.below HB5.out)).mono ?_
  rintro e w6 ⟨rfl, hb6⟩
  have HB6 := hidd (HB5.out.trans (hb6.mono HB5.out.size))
  clear hb6
  go_wp2_with fail
  refine (implEdits_any c t _ hcs ht (HT.out.below HB6.out)).mono ?_
  rintro e w7 ⟨rfl, hb7⟩
  have HB7 := hidd (HB6.out.trans (hb7.mono HB6.out.size))
  clear hb7 q1 q2
  have b1 := edVal_bd s t
  have b2 := edVal_bd s c
  have b3 := edVal_bd c t
  by_cases g1 : edCode s t = 0
  · by_cases g2 : edCode s c = 0
    · by_cases g3 : edCode c t = 0
      · have HS := hidd (edCode_sym g1)
        have HZ := hidd (edVal_zero g1)
        have HTr := hidd (edVal_tri g1 g2 g3)
        rw [g1, g2, g3, HS.out.1, HS.out.2]
        have htr := HTr.out
        have hself : (edVal s t == edVal s t) = true := by simp
        clear g1 g2 g3
        by_cases hx : edVal s t = 0
        · have Hst := hidd (HZ.out.1 hx)
          rw [hx] at htr hself ⊢
          clear hx HZ HTr HS
          generalize edVal s c = u at *
          generalize edVal c t = v at *
          obtain rfl := Hst.out
          go_wp2
          go_ret
          exact ⟨rfl, HB7.out⟩
        · have Hst := hidd (fun e => hx (HZ.out.2 e))
          have hxb : (edVal s t == 0) = false := beq_false_of_ne hx
          clear hx HZ HTr HS
          generalize edVal s t = x at *
          generalize edVal s c = u at *
          generalize edVal c t = v at *
          have hsl : (s.toList == t.toList) = false := beq_false_of_ne (fun e => Hst.out (toList_inj e))
          go_wp2
          all_goals go_ret
          all_goals exact ⟨rfl, HB7.out⟩
      · have gb : (edCode c t != 0) = true := by simp [g3]
        rw [g1, g2]
        clear g1 g2 g3
        go_wp2
        go_ret
        exact ⟨rfl, HB7.out⟩
    · have gb : (edCode s c != 0) = true := by simp [g2]
      rw [g1]
      clear g1 g2
      go_wp2
      go_ret
      exact ⟨rfl, HB7.out⟩
  · have gb : (edCode s t != 0) = true := by simp [g1]
    clear g1
    go_wp2
    go_ret
    exact ⟨rfl, HB7.out⟩
end Go.Proofs.YtfdmahbjofolhaeDoor
