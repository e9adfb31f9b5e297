import Derived.Test.YtibomnmgiimejadPkJi
import Derived.Test.YtibomnmgiimejadPkI
import Derived.Test.YtibomnmgiimejadPkK
namespace Go.Proofs.Ytibomnmgiimejad
open Go Go.RowKit
set_option linter.unusedVariables false

theorem packOut_long {zs : List Int} (h : 4096 < zs.length) : packOut zs = ([], 2) ∧ numsCode zs = 2 := by rw [packOut, if_pos h, numsCode, if_pos h]; exact ⟨rfl, rfl⟩
theorem packOut_bad {zs : List Int} (h : ¬ 4096 < zs.length) (ha : zs.all putOK = false) : packOut zs = ([], 12) ∧ numsCode zs = 12 := by rw [packOut, if_neg h, numsCode, if_neg h, ha]; exact ⟨rfl, rfl⟩
theorem packOut_good {zs : List Int} (h : ¬ 4096 < zs.length) (ha : zs.all putOK = true) : packOut zs = (packL (numsOf zs), 0) ∧ numsCode zs = 0 := by rw [packOut, if_neg h, numsCode, if_neg h, ha]; exact ⟨rfl, rfl⟩
theorem packOut_len (zs : List Int) : (packOut zs).1.length ≤ 50000 := by
  by_cases h : 4096 < zs.length
  · rw [(packOut_long h).1]; simp
  · cases ha : zs.all putOK with
    | false => rw [(packOut_bad h ha).1]; simp
    | true => rw [(packOut_good h ha).1]; exact packL_len _ (by rw [numsOf_length]; omega) (numsOf_62 ha)

set_option maxHeartbeats 2000000 in
set_option maxRecDepth 100000 in
theorem specPackInts_any (b off cap : Nat) (zs : List Int) (w : World) (hl : zs.length ≤ 1048576) (hcap : zs.length ≤ cap) (hc : IntsAt w b off zs) :
    Calls Try.prog 7 #[.slice (some ⟨b, off, none⟩) zs.length cap] w fun e w' => ∃ v', e = .returned (.tuple #[v', .int .i64 (packOut zs).2]) ∧ w'.ownsRow w.heap.size 5 1 v' (packOut zs).1.length (Lib.byteCells (packOut zs).1) ∧ Below w.heap.size w w' := by
  have Hc := hidd hc
  clear hc
  by_cases hlong : 4096 < zs.length
  · have hlz : (4096 : Int) < (zs.length : Int) := by omega
    have HE := hidd (packOut_long hlong).1
    go_enter Try.func7, Try.ntmps7
    go_wp2
    go_ret2
    rw [HE.out]
    exact ⟨_, rfl, own_empty w 5, (Below.refl _ _).alloc (Nat.le_refl _) _⟩
  · have hlz : ¬ (4096 : Int) < (zs.length : Int) := by omega
    cases ha : zs.all putOK with
    | false =>
      have HA := hidd ha
      have HE := hidd (packOut_bad hlong ha).1
      clear ha
      go_enter Try.func7, Try.ntmps7
      go_wp2_with fail
      refine (allNums_any b off cap zs _ hl Hc.out).mono ?_
      rintro e w' ⟨rfl, hw'⟩
      obtain rfl := hw'.symm
      clear hw'
      rw [HA.out]
      go_wp2
      go_ret2
      rw [HE.out]
      exact ⟨_, rfl, own_empty w 5, (Below.refl _ _).alloc (Nat.le_refl _) _⟩
    | true =>
      have HA := hidd ha
      have HE := hidd (packOut_good hlong ha).1
      have HP : Hid (Calls Try.prog 34 #[.slice (some ⟨b, off, none⟩) zs.length cap] w fun e w' => ∃ g cap', e = .returned (.slice (some ⟨g, 0, none⟩) (packL (numsOf zs)).length cap') ∧ w'.ownsRow w.heap.size 5 1 (.slice (some ⟨g, 0, none⟩) (packL (numsOf zs)).length cap') (packL (numsOf zs)).length (Lib.byteCells (packL (numsOf zs))) ∧ Below w.heap.size w w') := by
        have := specPack_any b off cap (numsOf zs) w (by rw [numsOf_length]; omega) (by rw [numsOf_length]; exact hcap) (numsOf_62 ha) (Hc.out.nums ha)
        rw [numsOf_length] at this
        exact this
      clear ha
      go_enter Try.func7, Try.ntmps7
      go_wp2_with fail
      refine (allNums_any b off cap zs _ hl Hc.out).mono ?_
      rintro e w' ⟨rfl, hw'⟩
      obtain rfl := hw'.symm
      clear hw'
      rw [HA.out]
      go_wp2_with fail
      refine HP.out.mono ?_
      rintro e w1 ⟨g, cp, rfl, ho, hb⟩
      have R := hidd (And.intro ho hb)
      clear ho hb
      go_wp2
      go_ret2
      rw [HE.out]
      exact ⟨_, rfl, R.out.1, R.out.2⟩

set_option maxHeartbeats 2000000 in
set_option maxRecDepth 100000 in
theorem implPackInts_any (b off cap : Nat) (zs : List Int) (w : World) (hcap : zs.length ≤ cap) (hbw : b < w.heap.size) (hc : IntsAt w b off zs) :
    Calls Try.prog 6 #[.slice (some ⟨b, off, none⟩) zs.length cap] w fun e w' => ∃ v', e = .returned (.tuple #[v', .int .i64 (packOut zs).2]) ∧ w'.ownsRow w.heap.size 5 1 v' (packOut zs).1.length (Lib.byteCells (packOut zs).1) ∧ Below w.heap.size w w' := by
  have Hc := hidd hc
  clear hc
  have bad : ∀ c : Int, c ≠ 0 → numsCode zs = c → packOut zs = ([], c) → Calls Try.prog 6 #[.slice (some ⟨b, off, none⟩) zs.length cap] w fun e w' => ∃ v', e = .returned (.tuple #[v', .int .i64 (packOut zs).2]) ∧ w'.ownsRow w.heap.size 5 1 v' (packOut zs).1.length (Lib.byteCells (packOut zs).1) ∧ Below w.heap.size w w' := by
    intro c hc0 h1 h2
    have H1 := hidd h1
    have H2 := hidd h2
    have hcn : (c != 0) = true := by simp [hc0]
    clear h1 h2
    go_enter Try.func6, Try.ntmps6
    go_wp2_with fail
    refine (numbersCode_any b off cap zs _ Hc.out).mono ?_
    rintro e w' ⟨rfl, hw'⟩
    obtain rfl := hw'.symm
    clear hw'
    rw [H1.out]
    go_wp2
    go_ret2
    rw [H2.out]
    exact ⟨_, rfl, World.ownsRow_nil _ _ _ _, Below.refl _ _⟩
  by_cases hlong : 4096 < zs.length
  · exact bad 2 (by omega) (packOut_long hlong).2 (packOut_long hlong).1
  · cases ha : zs.all putOK with
    | false => exact bad 12 (by omega) (packOut_bad hlong ha).2 (packOut_bad hlong ha).1
    | true =>
      clear bad
      have H1 := hidd (packOut_good hlong ha).2
      have HE := hidd (packOut_good hlong ha).1
      have HP : Hid (Calls Try.prog 32 #[.slice (some ⟨b, off, none⟩) zs.length cap] w fun e w' => ∃ v', e = .returned v' ∧ w'.ownsRow w.heap.size 5 1 v' (packL (numsOf zs)).length (Lib.byteCells (packL (numsOf zs))) ∧ Below w.heap.size w w') := by
        have := packed_int b off cap (numsOf zs) w (by rw [numsOf_length]; omega) (by rw [numsOf_length]; exact hcap) (numsOf_62 ha) hbw (Hc.out.nums ha)
        rw [numsOf_length] at this
        exact this
      clear ha
      go_enter Try.func6, Try.ntmps6
      go_wp2_with fail
      refine (numbersCode_any b off cap zs _ Hc.out).mono ?_
      rintro e w' ⟨rfl, hw'⟩
      obtain rfl := hw'.symm
      clear hw'
      rw [H1.out]
      go_wp2_with fail
      refine HP.out.mono ?_
      rintro e w1 ⟨v1, rfl, ho, hb⟩
      have R := hidd (And.intro ho hb)
      clear ho hb
      go_wp2
      go_ret2
      rw [HE.out]
      exact ⟨_, rfl, R.out.1, R.out.2⟩
end Go.Proofs.Ytibomnmgiimejad
