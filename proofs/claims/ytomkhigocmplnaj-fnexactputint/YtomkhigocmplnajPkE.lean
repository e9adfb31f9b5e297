import Derived.Test.YtomkhigocmplnajPkB
namespace Go.Proofs.Ytomkhigocmplnaj
open Go Go.RowKit
set_option linter.unusedVariables false
set_option maxHeartbeats 1000000 in
theorem specPutInt_any (z : Int) (w : World) :
    Calls Try.prog 5 #[.int .i64 z] w fun e w' => ∃ v', e = .returned (.tuple #[v', .int .i64 (putC z)]) ∧ w'.ownsRow w.heap.size 5 1 v' (putB z).length (Lib.byteCells (putB z)) ∧ Below w.heap.size w w' := by
  by_cases h : putOK z = true
  · have h' : 0 ≤ z ∧ z ≤ 4611686018427387903 := by simpa [putOK] using h
    obtain ⟨h0, h1⟩ := h'
    have HB : Hid (putB z = putL z.toNat ∧ putC z = 0) := ⟨by simp [putB, h], by simp [putC, h]⟩
    have HP := hidd h
    clear h
    obtain ⟨x, rfl⟩ := Int.eq_ofNat_of_zero_le h0
    go_enter Try.func5, Try.ntmps5
    go_wp2_with fail
    refine (num_any _ _).mono ?_
    rintro e w' ⟨rfl, hw'⟩
    obtain rfl := hw'.symm
    clear hw'
    rw [HP.out]
    go_wp2_with fail
    refine (specPut_any x _ (by omega)).mono ?_
    rintro e w1 ⟨g, cap, rfl, ho, hb⟩
    have R : Hid (w1.ownsRow w.heap.size 5 1 (.slice (some ⟨g, 0, none⟩) (putL x).length cap) (putB (x : Int)).length (Lib.byteCells (putB (x : Int))) ∧ Below w.heap.size w w1) := by
      rw [HB.out.1]
      exact ⟨ho, hb⟩
    clear ho hb
    go_wp2
    go_ret2
    rw [HB.out.2]
    exact ⟨_, rfl, R.out.1, R.out.2⟩
  · have HB : Hid (putB z = [] ∧ putC z = 12) := ⟨by simp [putB, h], by simp [putC, h]⟩
    have HP : Hid (putOK z = false) := by show _ = _; simpa using h
    clear h
    go_enter Try.func5, Try.ntmps5
    go_wp2_with fail
    refine (num_any _ _).mono ?_
    rintro e w' ⟨rfl, hw'⟩
    obtain rfl := hw'.symm
    clear hw'
    rw [HP.out]
    go_wp2
    go_ret2
    rw [HB.out.2, HB.out.1]
    exact ⟨_, rfl, own_empty w 5, (Below.refl _ _).alloc (Nat.le_refl _) _⟩
end Go.Proofs.Ytomkhigocmplnaj
