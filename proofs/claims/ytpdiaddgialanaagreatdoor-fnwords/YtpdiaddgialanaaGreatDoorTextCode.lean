import Derived.Test.YtpdiaddgialanaaGreatDoorTextCa
namespace Go.Proofs.YtpdiaddgialanaaGreatDoor
open Go Go.RowKit
set_option linter.unusedVariables false

set_option maxHeartbeats 1000000 in
theorem textCode_any (s : ByteArray) (w : World) (hs : s.size ≤ 1048576) (hT : Tabs w) :
    Calls Tryz.prog 25 #[.string s] w fun e w' => e = .returned (.int .i64 (decCode s)) ∧ Below w.heap.size w w' := by
  have HT := hidd hT
  clear hT
  by_cases hlong : 65536 < s.size
  · have HC : Hid (decCode s = 2) := by show _ = _; rw [decCode, if_pos hlong]
    have hlz : (65536 : Int) < (s.size : Int) := by omega
    go_enter Tryz.func25, Tryz.ntmps25
    go_wp2
    go_ret
    rw [HC.out]
    exact ⟨rfl, Below.refl _ _⟩
  · have hlz : ¬ (65536 : Int) < (s.size : Int) := by omega
    by_cases hv : validB s = true
    · have HC : Hid (decCode s = 0) := by show _ = _; rw [decCode, if_neg hlong, if_pos hv]
      go_enter Tryz.func25, Tryz.ntmps25
      go_wp2_with fail
      refine (valid_any s _ hs HT.out).mono ?_
      rintro e w1 ⟨rfl, hb1⟩
      go_wp2
      go_ret
      rw [HC.out]
      exact ⟨rfl, hb1⟩
    · have hv' : validB s = false := by simpa using hv
      have HC : Hid (decCode s = 3) := by show _ = _; rw [decCode, if_neg hlong, if_neg hv]
      clear hv
      go_enter Tryz.func25, Tryz.ntmps25
      go_wp2_with fail
      refine (valid_any s _ hs HT.out).mono ?_
      rintro e w1 ⟨rfl, hb1⟩
      go_wp2
      go_ret
      rw [HC.out]
      exact ⟨rfl, hb1⟩
end Go.Proofs.YtpdiaddgialanaaGreatDoor
