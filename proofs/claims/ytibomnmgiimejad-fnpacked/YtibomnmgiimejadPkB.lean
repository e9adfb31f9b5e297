import Derived.Test.YtibomnmgiimejadPkB0
namespace Go.Proofs.Ytibomnmgiimejad
open Go Go.RowKit
set_option linter.unusedVariables false
set_option maxHeartbeats 1000000 in
set_option maxRecDepth 100000 in
theorem implPutInt_any (z : Int) (w : World) :
    Calls Try.prog 10 #[.int .i64 z] w fun e w' => ∃ v', e = .returned (.tuple #[v', .int .i64 (putC z)]) ∧ w'.ownsRow w.heap.size 5 1 v' (putB z).length (Lib.byteCells (putB z)) ∧ Below w.heap.size w w' := by
  by_cases h : putOK z = true
  · have h' : 0 ≤ z ∧ z ≤ 4611686018427387903 := by simpa [putOK] using h
    obtain ⟨h0, h1⟩ := h'
    have HB : Hid (putB z = putL z.toNat ∧ putC z = 0) := ⟨by simp [putB, h], by simp [putC, h]⟩
    have HW : Hid ((decide ((0 : Int) ≤ z) && decide (z ≤ 4611686018427387903)) = true) := by show _ = _; simp [h0, h1]
    obtain ⟨x, rfl⟩ := Int.eq_ofNat_of_zero_le h0
    go_enter Try.func10, Try.ntmps10
    go_wp2_with fail
    refine (within_any _ _ _ _).mono ?_
    rintro e w' ⟨rfl, hw'⟩
    obtain rfl := hw'.symm
    clear hw'
    rw [HW.out]
    go_wp2_with fail
    refine (appendInt_any w.heap.size 0 (.slice none 0 0) [] x w (by omega) rfl (by omega) (Nat.le_refl _) (World.ownsRow_nil _ _ _ _)).mono ?_
    rintro e w1 ⟨v', rfl, ho, hg, hnn⟩
    have R : Hid (w1.ownsRow w.heap.size 5 1 v' (putB (x : Int)).length (Lib.byteCells (putB (x : Int))) ∧ Below w.heap.size w w1) := by
      rw [HB.out.1]
      refine ⟨by simpa using ho, hg.below (Nat.le_refl _) (World.ownsRow_nil w w.heap.size 5 1)⟩
    clear ho hg hnn
    go_wp2
    go_ret2
    rw [HB.out.2]
    exact ⟨_, rfl, R.out.1, R.out.2⟩
  · have HB : Hid (putB z = [] ∧ putC z = 12) := ⟨by simp [putB, h], by simp [putC, h]⟩
    have h' : ¬ (0 ≤ z ∧ z ≤ 4611686018427387903) := by simpa [putOK] using h
    have HW : Hid ((decide ((0 : Int) ≤ z) && decide (z ≤ 4611686018427387903)) = false) := by show _ = _; simp; omega
    clear h h'
    go_enter Try.func10, Try.ntmps10
    go_wp2_with fail
    refine (within_any _ _ _ _).mono ?_
    rintro e w' ⟨rfl, hw'⟩
    obtain rfl := hw'.symm
    clear hw'
    rw [HW.out]
    go_wp2
    go_ret2
    rw [HB.out.2, HB.out.1]
    exact ⟨_, rfl, World.ownsRow_nil _ _ _ _, Below.refl _ _⟩

end Go.Proofs.Ytibomnmgiimejad
