import Derived.Test.YtifgcimmlonagaaDoorExactSuggestJ26
namespace Go.Proofs.YtifgcimmlonagaaDoor
open Go Go.RowKit
set_option linter.unusedVariables false

/-! spec.Edits. -/
def edCode (s t : ByteArray) : Int :=
  if 65536 < s.size ∨ 65536 < t.size then 2 else if validB s = false then 3 else if validB t = false then 3 else if 200 < (runes s).length ∨ 200 < (runes t).length then 12 else 0
def edVal (s t : ByteArray) : Int := if edCode s t = 0 then ((edits (runes s) (runes t) : Nat) : Int) else 0
theorem edCode_ok {s t : ByteArray} (h1 : ¬ 65536 < s.size) (h2 : ¬ 65536 < t.size) (h3 : validB s = true) (h4 : validB t = true) (h5 : ¬ 200 < (runes s).length) (h6 : ¬ 200 < (runes t).length) : edCode s t = 0 ∧ edVal s t = ((edits (runes s) (runes t) : Nat) : Int) := by
  have : edCode s t = 0 := by
    rw [edCode, if_neg (by omega), if_neg (by simp [h3]), if_neg (by simp [h4]), if_neg (by omega)]
  exact ⟨this, by rw [edVal, if_pos this]⟩
theorem edVal_ne {s t : ByteArray} (h : edCode s t ≠ 0) : edVal s t = 0 := by rw [edVal, if_neg h]
theorem decList_ok {s : ByteArray} (h1 : ¬ 65536 < s.size) (h3 : validB s = true) : decList s = runes s ∧ decCode s = 0 := by
  rw [decList, if_neg h1, decL, if_pos h3, decCode, if_neg h1, if_pos h3]
  exact ⟨rfl, rfl⟩
theorem decCode_bad {s : ByteArray} (h1 : ¬ 65536 < s.size) (h3 : validB s = false) : decCode s = 3 := by
  rw [decCode, if_neg h1, if_neg (by simp [h3])]
set_option maxHeartbeats 4000000 in
set_option maxRecDepth 100000 in
theorem specEdits_any (s t : ByteArray) (w : World) (hs : s.size ≤ 1048576) (ht : t.size ≤ 1048576) :
    Calls Tryd.prog 23 #[.string s, .string t] w fun e w' => e = .returned (.tuple #[.int .i64 (edVal s t), .int .i64 (edCode s t)]) ∧ Below w.heap.size w w' := by
  by_cases h1 : 65536 < s.size
  · have HC : Hid (edCode s t = 2) := by show _ = _; rw [edCode, if_pos (Or.inl h1)]
    have HV := hidd (edVal_ne (s := s) (t := t) (by rw [HC.out]; omega))
    have hz : (65536 : Int) < (s.size : Int) := by omega
    go_enter Tryd.func23, Tryd.ntmps23
    go_wp2
    go_ret2
    rw [HV.out, HC.out]
    exact ⟨rfl, Below.refl _ _⟩
  have hz1 : ¬ (65536 : Int) < (s.size : Int) := by omega
  by_cases h2 : 65536 < t.size
  · have HC : Hid (edCode s t = 2) := by show _ = _; rw [edCode, if_pos (Or.inr h2)]
    have HV := hidd (edVal_ne (s := s) (t := t) (by rw [HC.out]; omega))
    have hz : (65536 : Int) < (t.size : Int) := by omega
    go_enter Tryd.func23, Tryd.ntmps23
    go_wp2
    go_ret2
    rw [HV.out, HC.out]
    exact ⟨rfl, Below.refl _ _⟩
  have hz2 : ¬ (65536 : Int) < (t.size : Int) := by omega
  cases h3 : validB s with
  | false =>
    have HC : Hid (edCode s t = 3) := by show _ = _; rw [edCode, if_neg (by omega), if_pos h3]
    have HV := hidd (edVal_ne (s := s) (t := t) (by rw [HC.out]; omega))
    have HD := hidd (decCode_bad h1 h3)
    clear h3
    go_enter Tryd.func23, Tryd.ntmps23
    go_wp2_with fail
    refine (specDecode_any s _ hs).mono ?_
    rintro e w1 ⟨v, rfl, hown, hb1⟩
    clear hown
    rw [HD.out]
    go_wp2
    go_ret2
    rw [HV.out, HC.out]
    exact ⟨rfl, hb1⟩
  | true =>
  cases h4 : validB t with
  | false =>
    have HC : Hid (edCode s t = 3) := by show _ = _; rw [edCode, if_neg (by omega), if_neg (by simp [h3]), if_pos h4]
    have HV := hidd (edVal_ne (s := s) (t := t) (by rw [HC.out]; omega))
    have HD := hidd (decList_ok h1 h3).2
    have HD2 := hidd (decCode_bad h2 h4)
    clear h3 h4
    go_enter Tryd.func23, Tryd.ntmps23
    go_wp2_with fail
    refine (specDecode_any s _ hs).mono ?_
    rintro e w1 ⟨v, rfl, hown, hb1⟩
    clear hown
    rw [HD.out]
    go_wp2_with fail
    refine (specDecode_any t _ ht).mono ?_
    rintro e w2 ⟨v2, rfl, hown, hb2⟩
    clear hown
    rw [HD2.out]
    have HB := hidd (hb1.trans (hb2.mono hb1.size))
    clear hb1 hb2
    go_wp2
    go_ret2
    rw [HV.out, HC.out]
    exact ⟨rfl, HB.out⟩
  | true =>
  have HD := hidd (decList_ok h1 h3)
  have HD2 := hidd (decList_ok h2 h4)
  by_cases h5 : 200 < (runes s).length
  · have HC : Hid (edCode s t = 12) := by show _ = _; rw [edCode, if_neg (by omega), if_neg (by simp [h3]), if_neg (by simp [h4]), if_pos (Or.inl h5)]
    have HV := hidd (edVal_ne (s := s) (t := t) (by rw [HC.out]; omega))
    have hz : (200 : Int) < ((runes s).length : Int) := by omega
    clear h3 h4
    go_enter Tryd.func23, Tryd.ntmps23
    go_wp2_with fail
    refine (specDecode_any s _ hs).mono ?_
    rintro e w1 ⟨v, rfl, hown, hb1⟩
    rw [HD.out.1] at hown
    rw [HD.out.2]
    have HO1 := hidd hown
    have HB1 := hidd hb1
    clear hown hb1
    go_wp2_with fail
    refine (specDecode_any t _ ht).mono ?_
    rintro e w2 ⟨v2, rfl, hown, hb2⟩
    rw [HD2.out.1] at hown
    rw [HD2.out.2]
    obtain ⟨a1, c1, rfl, -⟩ := HoldI.own HO1.out
    obtain ⟨a2, c2, rfl, -⟩ := HoldI.own hown
    have HB := hidd (HB1.out.trans (hb2.mono HB1.out.size))
    clear hown hb2 HO1
    go_wp2
    go_ret2
    rw [HV.out, HC.out]
    exact ⟨rfl, HB.out⟩
  have hz5 : ¬ (200 : Int) < ((runes s).length : Int) := by omega
  by_cases h6 : 200 < (runes t).length
  · have HC : Hid (edCode s t = 12) := by show _ = _; rw [edCode, if_neg (by omega), if_neg (by simp [h3]), if_neg (by simp [h4]), if_pos (Or.inr h6)]
    have HV := hidd (edVal_ne (s := s) (t := t) (by rw [HC.out]; omega))
    have hz : (200 : Int) < ((runes t).length : Int) := by omega
    clear h3 h4
    go_enter Tryd.func23, Tryd.ntmps23
    go_wp2_with fail
    refine (specDecode_any s _ hs).mono ?_
    rintro e w1 ⟨v, rfl, hown, hb1⟩
    rw [HD.out.1] at hown
    rw [HD.out.2]
    have HO1 := hidd hown
    have HB1 := hidd hb1
    clear hown hb1
    go_wp2_with fail
    refine (specDecode_any t _ ht).mono ?_
    rintro e w2 ⟨v2, rfl, hown, hb2⟩
    rw [HD2.out.1] at hown
    rw [HD2.out.2]
    obtain ⟨a1, c1, rfl, -⟩ := HoldI.own HO1.out
    obtain ⟨a2, c2, rfl, -⟩ := HoldI.own hown
    have HB := hidd (HB1.out.trans (hb2.mono HB1.out.size))
    clear hown hb2 HO1
    go_wp2
    go_ret2
    rw [HV.out, HC.out]
    exact ⟨rfl, HB.out⟩
  have hz6 : ¬ (200 : Int) < ((runes t).length : Int) := by omega
  have HE := hidd (edCode_ok h1 h2 h3 h4 h5 h6)
  clear h3 h4
  go_enter Tryd.func23, Tryd.ntmps23
  go_wp2_with fail
  refine (specDecode_any s _ hs).mono ?_
  rintro e w1 ⟨v, rfl, hown, hb1⟩
  rw [HD.out.1] at hown
  rw [HD.out.2]
  have HO1 := hidd hown
  have HB1 := hidd hb1
  clear hown hb1
  go_wp2_with fail
  refine (specDecode_any t _ ht).mono ?_
  rintro e w2 ⟨v2, rfl, hown, hb2⟩
  rw [HD2.out.1] at hown
  rw [HD2.out.2]
  have HL := hidd (l05Edits_any (runes s) (runes t) v v2 w2 (by omega) (by omega) ((HoldI.own HO1.out).below hb2) (HoldI.own hown))
  obtain ⟨a1, c1, rfl, -⟩ := HoldI.own HO1.out
  obtain ⟨a2, c2, rfl, -⟩ := HoldI.own hown
  have HB := hidd (HB1.out.trans (hb2.mono HB1.out.size))
  clear hown hb2 HO1
  go_wp2_with fail
  refine HL.out.mono ?_
  rintro e w3 ⟨rfl, hb3⟩
  have HB3 := hidd (HB.out.trans (hb3.mono HB.out.size))
  clear hb3
  go_wp2
  go_ret2
  rw [HE.out.1, HE.out.2]
  exact ⟨rfl, HB3.out⟩
end Go.Proofs.YtifgcimmlonagaaDoor
