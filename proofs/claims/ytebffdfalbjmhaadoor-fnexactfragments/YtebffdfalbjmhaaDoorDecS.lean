import Derived.Test.YtebffdfalbjmhaaDoorDecSa
namespace Go.Proofs.YtebffdfalbjmhaaDoor
open Go Go.RowKit
set_option linter.unusedVariables false

set_option maxHeartbeats 1000000 in
theorem specDecode_any (s : ByteArray) (w : World) (hs : s.size ≤ 1048576) :
    Calls Tryd.prog 9 #[.string s] w fun e w' => ∃ v, e = .returned (.tuple #[v, .int .i64 (decCode s)]) ∧ w'.ownsRow w.heap.size 3 1 v (decList s).length ((decList s).map (Value.int .i64)) ∧ Below w.heap.size w w' := by
  by_cases hlong : 65536 < s.size
  · have HL : Hid (decList s = []) := by show _ = _; rw [decList, if_pos hlong]
    have HC : Hid (decCode s = 2) := by show _ = _; rw [decCode, if_pos hlong]
    have hlz : (65536 : Int) < (s.size : Int) := by omega
    go_enter Tryd.func9, Tryd.ntmps9
    go_wp2
    go_ret2
    rw [HL.out, HC.out]
    exact ⟨_, rfl, own_empty _ _, (Below.refl _ _).alloc (Nat.le_refl _) _⟩
  · have hlz : ¬ (65536 : Int) < (s.size : Int) := by omega
    by_cases hv : validB s = true
    · have HL : Hid (decList s = decL s) := by show _ = _; rw [decList, if_neg hlong]
      have HC : Hid (decCode s = 0) := by show _ = _; rw [decCode, if_neg hlong, if_pos hv]
      go_enter Tryd.func9, Tryd.ntmps9
      go_wp2_with fail
      refine (decode_any s _ hs).mono ?_
      rintro e w1 ⟨v, rfl, hown, hb1⟩
      have HO := hidd hown
      clear hown
      go_wp2
      go_ret2
      rw [HL.out, HC.out]
      exact ⟨_, rfl, HO.out, hb1⟩
    · have hv' : validB s = false := by simpa using hv
      have HL : Hid (decList s = []) := by show _ = _; rw [decList, if_neg hlong, decL, if_neg hv]
      have HC : Hid (decCode s = 3) := by show _ = _; rw [decCode, if_neg hlong, if_neg hv]
      clear hv
      go_enter Tryd.func9, Tryd.ntmps9
      go_wp2_with fail
      refine (decode_any s _ hs).mono ?_
      rintro e w1 ⟨v, rfl, hown, hb1⟩
      clear hown
      go_wp2
      go_ret2
      rw [HL.out, HC.out]
      exact ⟨_, rfl, own_mono (own_empty _ _) hb1.size, hb1.alloc hb1.size _⟩
end Go.Proofs.YtebffdfalbjmhaaDoor
