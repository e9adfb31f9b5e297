import Derived.Test.YtnekdkafhoacoaaDoorAzH
import Derived.Test.YtnekdkafhoacoaaDoorTextCa
import Derived.Test.YtnekdkafhoacoaaDoorDecSa
import Derived.Test.YtnekdkafhoacoaaDoorWithin
import Derived.Test.YtnekdkafhoacoaaDoorOwn
namespace Go.Proofs.YtnekdkafhoacoaaDoor
open Go Go.RowKit
set_option linter.unusedVariables false

set_option maxHeartbeats 1000000 in
theorem specTermOK_any (t : List UInt8) (w : World) (hs : (bs t).size ≤ 1048576) :
    Calls Tryd.prog 32 #[.string (bs t)] w fun e w' => e = .returned (.bool (tOK t)) ∧ Below w.heap.size w w' := by
  have HZ : Hid (t.length = (bs t).size) := (bs_size t).symm
  have HT : Hid (tOK t = (decide (1 ≤ t.length) && decide (t.length ≤ 64) && validB (bs t))) := rfl
  rw [HZ.out] at HT
  generalize bs t = s at *
  clear HZ
  by_cases h1 : 1 ≤ s.size
  · have h1z : (1 : Int) ≤ (s.size : Int) := by omega
    by_cases h64 : s.size ≤ 64
    · have h64z : (s.size : Int) ≤ 64 := by omega
      have HR : Hid (tOK t = validB s) := by show _ = _; rw [HT.out, decide_eq_true h1, decide_eq_true h64]; rfl
      clear HT
      go_enter Tryd.func32, Tryd.ntmps32
      go_wp2_with fail
      refine (decode_any s _ hs).mono ?_
      rintro e w1 ⟨v, rfl, _, hb1⟩
      go_wp2_with fail
      go_ret
      rw [HR.out]
      exact ⟨rfl, hb1⟩
    · have h64b : decide ((s.size : Int) ≤ 64) = false := decide_eq_false (by omega)
      have HR : Hid (tOK t = false) := by show _ = _; rw [HT.out, decide_eq_false h64]; simp
      clear HT
      go_enter Tryd.func32, Tryd.ntmps32
      go_wp2_with fail
      refine (decode_any s _ hs).mono ?_
      rintro e w1 ⟨v, rfl, _, hb1⟩
      go_wp2_with fail
      go_ret
      rw [HR.out]
      exact ⟨rfl, hb1⟩
  · have h1b : decide ((1 : Int) ≤ (s.size : Int)) = false := decide_eq_false (by omega)
    have HR : Hid (tOK t = false) := by show _ = _; rw [HT.out, decide_eq_false h1]; simp
    clear HT
    go_enter Tryd.func32, Tryd.ntmps32
    go_wp2_with fail
    refine (decode_any s _ hs).mono ?_
    rintro e w1 ⟨v, rfl, _, hb1⟩
    go_wp2_with fail
    go_ret
    rw [HR.out]
    exact ⟨rfl, hb1⟩

set_option maxHeartbeats 1000000 in
theorem implTermOK_any (t : List UInt8) (w : World) (hs : (bs t).size ≤ 1048576) (hT : Tabs w) :
    Calls Tryd.prog 53 #[.string (bs t)] w fun e w' => e = .returned (.bool (tOK t)) ∧ Below w.heap.size w w' := by
  have HTb := hidd hT
  clear hT
  have HZ : Hid (t.length = (bs t).size) := (bs_size t).symm
  have HT : Hid (tOK t = (decide (1 ≤ t.length) && decide (t.length ≤ 64) && validB (bs t))) := rfl
  rw [HZ.out] at HT
  generalize bs t = s at *
  clear HZ
  by_cases hin : 1 ≤ s.size ∧ s.size ≤ 64
  · have HR : Hid (tOK t = validB s) := by show _ = _; rw [HT.out, decide_eq_true hin.1, decide_eq_true hin.2]; rfl
    have HW : Hid ((decide ((1 : Int) ≤ (s.size : Int)) && decide ((s.size : Int) ≤ 64)) = true) := by show _ = _; rw [decide_eq_true (by omega), decide_eq_true (by omega)]; rfl
    clear HT hin
    go_enter Tryd.func53, Tryd.ntmps53
    go_wp2_with fail
    refine (within_any _ _ _ _).mono ?_
    rintro e w' ⟨rfl, hw⟩
    obtain rfl := hw.symm
    clear hw
    rw [HW.out]
    go_wp2_with fail
    refine (valid_any s _ hs HTb.out).mono ?_
    rintro e w1 ⟨rfl, hb1⟩
    go_wp2_with fail
    go_ret
    rw [HR.out]
    exact ⟨rfl, hb1⟩
  · have HR : Hid (tOK t = false) := by
      show _ = _
      rw [HT.out]
      by_cases h1 : 1 ≤ s.size
      · rw [decide_eq_false (p := s.size ≤ 64) (by omega)]; simp
      · rw [decide_eq_false h1]; simp
    have HW : Hid ((decide ((1 : Int) ≤ (s.size : Int)) && decide ((s.size : Int) ≤ 64)) = false) := by
      show _ = _
      by_cases h1 : 1 ≤ s.size
      · rw [decide_eq_false (p := (s.size : Int) ≤ 64) (by omega), Bool.and_false]
      · rw [decide_eq_false (p := (1 : Int) ≤ (s.size : Int)) (by omega), Bool.false_and]
    clear HT hin
    go_enter Tryd.func53, Tryd.ntmps53
    go_wp2_with fail
    refine (within_any _ _ _ _).mono ?_
    rintro e w' ⟨rfl, hw⟩
    obtain rfl := hw.symm
    clear hw
    rw [HW.out]
    go_wp2_with fail
    go_ret
    rw [HR.out]
    exact ⟨rfl, Below.refl _ _⟩

end Go.Proofs.YtnekdkafhoacoaaDoor
