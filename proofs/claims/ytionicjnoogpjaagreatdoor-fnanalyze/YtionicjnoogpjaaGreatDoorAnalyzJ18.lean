import Derived.Test.YtionicjnoogpjaaGreatDoorAnalyzJ17
import Derived.Deep.DeepCutAuto
import Derived.Laws.EntriesVeiled
namespace Go.Proofs.YtionicjnoogpjaaGreatDoor
open Go Go.RowKit
set_option linter.unusedVariables false

theorem cat_s (s : ByteArray) (l : List UInt8) : s ++ (⟨l.toArray⟩ : ByteArray) = bs (lst s ++ l) := by
  apply ByteArray.ext
  simp [bs, lst]
set_option maxHeartbeats 400000 in
theorem sing_sses (s : ByteArray) (w : World) (hs : s.size ≤ 64) :
    Calls Tryz.prog 150 #[.string s, .string ⟨#[115, 115, 101, 115]⟩] w fun e w' => e = .returned (.string (bs (sing (lst s) [115, 115, 101, 115]))) ∧ w' = w := by
  have HM : Hid (sing (lst s) [115, 115, 101, 115] = lst s ++ [115, 115]) := by show _ = _; rw [sing]; rfl
  go_enter Tryz.func150, Tryz.ntmps150
  go_wp2
  go_ret
  rw [HM.out]
  exact ⟨congrArg (fun x => Ending.returned (Value.string x)) (cat_s s _), rfl⟩
set_option maxHeartbeats 400000 in
theorem sing_ies_a (s : ByteArray) (w : World) (hs : s.size ≤ 64) (h : 2 ≤ s.size) :
    Calls Tryz.prog 150 #[.string s, .string ⟨#[105, 101, 115]⟩] w fun e w' => e = .returned (.string (bs (sing (lst s) [105, 101, 115]))) ∧ w' = w := by
  have hz : (2 : Int) ≤ (s.size : Int) := by omega
  have HM : Hid (sing (lst s) [105, 101, 115] = lst s ++ [121]) := by show _ = _; rw [sing, if_pos rfl, lst_len, if_pos h]
  go_enter Tryz.func150, Tryz.ntmps150
  go_wp2
  go_ret
  rw [HM.out]
  exact ⟨congrArg (fun x => Ending.returned (Value.string x)) (cat_s s _), rfl⟩
set_option maxHeartbeats 400000 in
theorem sing_ies_b (s : ByteArray) (w : World) (hs : s.size ≤ 64) (h : ¬ 2 ≤ s.size) :
    Calls Tryz.prog 150 #[.string s, .string ⟨#[105, 101, 115]⟩] w fun e w' => e = .returned (.string (bs (sing (lst s) [105, 101, 115]))) ∧ w' = w := by
  have hz : ¬ (2 : Int) ≤ (s.size : Int) := by omega
  have HM : Hid (sing (lst s) [105, 101, 115] = lst s ++ [105, 101, 115]) := by show _ = _; rw [sing, if_pos rfl, lst_len, if_neg h]
  go_enter Tryz.func150, Tryz.ntmps150
  go_wp2
  go_ret
  rw [HM.out]
  exact ⟨congrArg (fun x => Ending.returned (Value.string x)) (cat_s s _), rfl⟩
set_option maxHeartbeats 400000 in
theorem sing_ss (s : ByteArray) (w : World) (hs : s.size ≤ 64) :
    Calls Tryz.prog 150 #[.string s, .string ⟨#[115, 115]⟩] w fun e w' => e = .returned (.string (bs (sing (lst s) [115, 115]))) ∧ w' = w := by
  have HM : Hid (sing (lst s) [115, 115] = lst s ++ [115, 115]) := by show _ = _; rw [sing]; rfl
  go_enter Tryz.func150, Tryz.ntmps150
  go_wp2
  go_ret
  rw [HM.out]
  exact ⟨congrArg (fun x => Ending.returned (Value.string x)) (cat_s s _), rfl⟩
set_option maxHeartbeats 400000 in
theorem sing_us (s : ByteArray) (w : World) (hs : s.size ≤ 64) :
    Calls Tryz.prog 150 #[.string s, .string ⟨#[117, 115]⟩] w fun e w' => e = .returned (.string (bs (sing (lst s) [117, 115]))) ∧ w' = w := by
  have HM : Hid (sing (lst s) [117, 115] = lst s ++ [117, 115]) := by show _ = _; rw [sing]; rfl
  go_enter Tryz.func150, Tryz.ntmps150
  go_wp2
  go_ret
  rw [HM.out]
  exact ⟨congrArg (fun x => Ending.returned (Value.string x)) (cat_s s _), rfl⟩
set_option maxHeartbeats 400000 in
theorem sing_is (s : ByteArray) (w : World) (hs : s.size ≤ 64) :
    Calls Tryz.prog 150 #[.string s, .string ⟨#[105, 115]⟩] w fun e w' => e = .returned (.string (bs (sing (lst s) [105, 115]))) ∧ w' = w := by
  have HM : Hid (sing (lst s) [105, 115] = lst s ++ [105, 115]) := by show _ = _; rw [sing]; rfl
  go_enter Tryz.func150, Tryz.ntmps150
  go_wp2
  go_ret
  rw [HM.out]
  exact ⟨congrArg (fun x => Ending.returned (Value.string x)) (cat_s s _), rfl⟩
set_option maxHeartbeats 400000 in
theorem sing_s_a (s : ByteArray) (w : World) (hs : s.size ≤ 64) (h : s.size < 3) :
    Calls Tryz.prog 150 #[.string s, .string ⟨#[115]⟩] w fun e w' => e = .returned (.string (bs (sing (lst s) [115]))) ∧ w' = w := by
  have hz : (s.size : Int) < 3 := by omega
  have HM : Hid (sing (lst s) [115] = lst s ++ [115]) := by show _ = _; rw [sing, if_neg (by decide), if_pos rfl, lst_len, if_pos h]
  go_enter Tryz.func150, Tryz.ntmps150
  go_wp2
  go_ret
  rw [HM.out]
  exact ⟨congrArg (fun x => Ending.returned (Value.string x)) (cat_s s _), rfl⟩
set_option maxHeartbeats 400000 in
theorem sing_s_b (s : ByteArray) (w : World) (hs : s.size ≤ 64) (h : ¬ s.size < 3) :
    Calls Tryz.prog 150 #[.string s, .string ⟨#[115]⟩] w fun e w' => e = .returned (.string (bs (sing (lst s) [115]))) ∧ w' = w := by
  have hz : ¬ (s.size : Int) < 3 := by omega
  have HM : Hid (sing (lst s) [115] = lst s) := by show _ = _; rw [sing, if_neg (by decide), if_pos rfl, lst_len, if_neg h]
  go_enter Tryz.func150, Tryz.ntmps150
  go_wp2
  go_ret
  rw [HM.out]
  exact ⟨congrArg (fun x => Ending.returned (Value.string x)) (bs_lst s).symm, rfl⟩
def sEnds : List (List UInt8) := [[115, 115, 101, 115], [105, 101, 115], [115, 115], [117, 115], [105, 115], [115]]
theorem sing_any (e : List UInt8) (he : e ∈ sEnds) (s : ByteArray) (w : World) (hs : s.size ≤ 64) :
    Calls Tryz.prog 150 #[.string s, .string (bs e)] w fun e' w' => e' = .returned (.string (bs (sing (lst s) e))) ∧ Below w.heap.size w w' := by
  have key : Calls Tryz.prog 150 #[.string s, .string (bs e)] w fun e' w' => e' = .returned (.string (bs (sing (lst s) e))) ∧ w' = w := by
    simp only [sEnds, List.mem_cons, List.not_mem_nil, or_false] at he
    rcases he with rfl | rfl | rfl | rfl | rfl | rfl
    · exact sing_sses s w hs
    · by_cases h : 2 ≤ s.size
      · exact sing_ies_a s w hs h
      · exact sing_ies_b s w hs h
    · exact sing_ss s w hs
    · exact sing_us s w hs
    · exact sing_is s w hs
    · by_cases h : s.size < 3
      · exact sing_s_a s w hs h
      · exact sing_s_b s w hs h
  exact key.mono fun _ _ ⟨h1, h2⟩ => ⟨h1, h2 ▸ Below.refl _ _⟩
set_option maxHeartbeats 400000 in
theorem mann_any (s p : ByteArray) (w : World) (hs : s.size ≤ 64) (hp : p.size ≤ 64) :
    Calls Tryz.prog 152 #[.string s, .string p] w fun e w' => e = .returned (.string (bs (mann (lst s) (lst p)))) ∧ Below w.heap.size w w' := by
  by_cases h : s.size < 3
  · have hz : (s.size : Int) < 3 := by omega
    have HM : Hid (mann (lst s) (lst p) = lst s ++ lst p) := by show _ = _; rw [mann, lst_len, if_pos h]
    go_enter Tryz.func152, Tryz.ntmps152
    go_wp2
    go_ret
    rw [HM.out]
    exact ⟨congrArg (fun x => Ending.returned (Value.string x)) (cat_s s (lst p)), Below.refl _ _⟩
  · have hz : ¬ (s.size : Int) < 3 := by omega
    have HM : Hid (mann (lst s) (lst p) = lst s) := by show _ = _; rw [mann, lst_len, if_neg h]
    go_enter Tryz.func152, Tryz.ntmps152
    go_wp2
    go_ret
    rw [HM.out]
    exact ⟨congrArg (fun x => Ending.returned (Value.string x)) (bs_lst s).symm, Below.refl _ _⟩
set_option maxHeartbeats 400000 in
theorem withY_any (s p : ByteArray) (w : World) (hs : s.size ≤ 64) (hp : p.size ≤ 64) :
    Calls Tryz.prog 153 #[.string s, .string p] w fun e w' => e = .returned (.string (bs (withY (lst s) (lst p)))) ∧ Below w.heap.size w w' := by
  by_cases h : s.size < 2
  · have hz : (s.size : Int) < 2 := by omega
    have HM : Hid (withY (lst s) (lst p) = lst s ++ lst p) := by show _ = _; rw [withY, lst_len, decide_eq_true h]; rfl
    go_enter Tryz.func153, Tryz.ntmps153
    go_wp2_with fail
    go_ret
    rw [HM.out]
    exact ⟨congrArg (fun x => Ending.returned (Value.string x)) (cat_s s (lst p)), Below.refl _ _⟩
  · have hz : ¬ (s.size : Int) < 2 := by omega
    have hb : decide ((s.size : Int) < 2) = false := decide_eq_false hz
    cases hv : vow (lastB (lst s) 1)
    · have HM : Hid (withY (lst s) (lst p) = lst s ++ [105]) := by show _ = _; rw [withY, lst_len, decide_eq_false h, hv]; rfl
      have HV := hidd hv
      clear hv
      go_enter Tryz.func153, Tryz.ntmps153
      go_wp2_with fail
      refine (endsVowel_any s _ (by omega) (by omega)).mono ?_
      rintro e w' ⟨rfl, hw⟩
      obtain rfl := hw.symm
      rw [HV.out]
      go_wp2_with fail
      go_ret
      rw [HM.out]
      exact ⟨congrArg (fun x => Ending.returned (Value.string x)) (cat_s s _), Below.refl _ _⟩
    · have HM : Hid (withY (lst s) (lst p) = lst s ++ lst p) := by show _ = _; rw [withY, lst_len, decide_eq_false h, hv]; rfl
      have HV := hidd hv
      clear hv
      go_enter Tryz.func153, Tryz.ntmps153
      go_wp2_with fail
      refine (endsVowel_any s _ (by omega) (by omega)).mono ?_
      rintro e w' ⟨rfl, hw⟩
      obtain rfl := hw.symm
      rw [HV.out]
      go_wp2_with fail
      go_ret
      rw [HM.out]
      exact ⟨congrArg (fun x => Ending.returned (Value.string x)) (cat_s s (lst p)), Below.refl _ _⟩
end Go.Proofs.YtionicjnoogpjaaGreatDoor

namespace Go.Proofs.YtionicjnoogpjaaGreatDoor
open Go Go.RowKit
set_option linter.unusedVariables false

theorem small_ascii {l : List UInt8} (h : allS l = true) : ∀ (j : Nat) b, l[j]? = some b → b.toNat < 128 := by
  intro j b hb
  rw [allS, List.all_eq_true] at h
  have := h b (List.mem_of_getElem? hb)
  rw [small, decide_eq_true_eq] at this
  omega
theorem vws_ascii : ∀ (j : Nat) b, vws[j]? = some b → b.toNat < 128 := by
  intro j b hb
  have hm : b ∈ vws := List.mem_of_getElem? hb
  simp only [vws, List.mem_cons, List.not_mem_nil, or_false] at hm
  rcases hm with rfl | rfl | rfl | rfl | rfl | rfl <;> decide
theorem containsAny_any (s : ByteArray) (w : World) (hs : s.size ≤ 64) (ha : allS (lst s) = true) :
    Calls Tryz.prog 167 #[.string s, .string ⟨#[97, 101, 105, 111, 117, 121]⟩] w fun e w' => e = .returned (.bool (hasV (lst s))) ∧ Below w.heap.size w w' := by
  refine (Tryz.strings_ContainsAny_laid s ⟨#[97, 101, 105, 111, 117, 121]⟩ w (by omega) (by decide) (small_ascii ha) vws_ascii).mono ?_
  rintro e w' ⟨rfl, hb⟩
  rw [← containsAny_hasV]
  exact ⟨rfl, hb⟩
set_option maxHeartbeats 1000000 in
theorem tense_none (s p : ByteArray) (w : World) (hs : s.size ≤ 64) (hp : p.size ≤ 64) (HA : Hid (allS (lst s) = true)) (h : s.size < 3 ∨ hasV (lst s) = false) :
    Calls Tryz.prog 151 #[.string s, .string p] w fun e w' => e = .returned (.string (bs (tense (lst s) (lst p)))) ∧ Below w.heap.size w w' := by
  by_cases h3 : s.size < 3
  · have hz : (s.size : Int) < 3 := by omega
    have HM : Hid (tense (lst s) (lst p) = lst s ++ lst p) := by show _ = _; rw [tense, lst_len, decide_eq_true h3]; rfl
    go_enter Tryz.func151, Tryz.ntmps151
    go_wp2_with fail
    go_ret
    rw [HM.out]
    exact ⟨congrArg (fun x => Ending.returned (Value.string x)) (cat_s s (lst p)), Below.refl _ _⟩
  · have hz : ¬ (s.size : Int) < 3 := by omega
    have hb : decide ((s.size : Int) < 3) = false := decide_eq_false hz
    have HV : Hid (hasV (lst s) = false) := h.resolve_left h3
    have HM : Hid (tense (lst s) (lst p) = lst s ++ lst p) := by show _ = _; rw [tense, HV.out, Bool.not_false, Bool.or_true, if_pos rfl]
    clear h
    go_enter Tryz.func151, Tryz.ntmps151
    go_wp2_with fail
    refine (containsAny_any s _ hs HA.out).mono ?_
    rintro e w' ⟨rfl, hbw⟩
    rw [HV.out]
    go_wp2_with fail
    go_ret
    rw [HM.out]
    exact ⟨congrArg (fun x => Ending.returned (Value.string x)) (cat_s s (lst p)), hbw⟩
theorem mend_tail (pre : List UInt8) (x y : UInt8) :
    mend (pre ++ [x, y]) = if x == y && !vow y && y != 108 && y != 115 && y != 122 then cutB (pre ++ [x, y]) 1 else if ends [x, y] [97, 116] || ends [x, y] [98, 108] || ends [x, y] [105, 122] then pre ++ [x, y] ++ [101] else pre ++ [x, y] := by
  have l1 : lastB (pre ++ [x, y]) 1 = y := by simp [lastB]
  have l2 : lastB (pre ++ [x, y]) 2 = x := by simp [lastB]
  have ha : alike (pre ++ [x, y]) = (x == y && !vow y && y != 108 && y != 115 && y != 122) := by
    rw [alike, l1, l2, decide_eq_true (by simp), Bool.true_and]
    congr 4
    rw [Bool.eq_iff_iff, beq_iff_eq, beq_iff_eq]
    exact eq_comm
  rw [mend, ha, ends_app_iff _ _ _ (by simp), ends_app_iff _ _ _ (by simp), ends_app_iff _ _ _ (by simp)]
theorem tail_eq {t : ByteArray} {x y a b : UInt8} (h : lst t = [x, y]) : (t.toList == [a, b]) = (x == a && y == b) := by
  rw [Lib.toList_data, show t.data.toList = [x, y] from h]
  simp
theorem ends_two (x y a b : UInt8) : ends [x, y] [a, b] = (x == a && y == b) := by
  rw [Bool.eq_iff_iff, ends_iff]
  simp only [Bool.and_eq_true, beq_iff_eq]
  constructor
  · rintro ⟨u, hu⟩
    have hl := congrArg List.length hu
    simp at hl
    subst hl
    simpa using hu
  · rintro ⟨rfl, rfl⟩; exact ⟨[], rfl⟩
set_option maxHeartbeats 2000000 in
theorem tense_some (s p t : ByteArray) (x y : UInt8) (pre : List UInt8) (w : World) (hs : s.size ≤ 64) (hp : p.size ≤ 64) (h3 : 3 ≤ s.size) (HA : Hid (allS (lst s) = true)) (HV : Hid (hasV (lst s) = true)) (HT : Hid (s.extract (s.size - 1 - 1) s.size = t)) (HL : Hid (lst t = [x, y])) (HS : Hid (lst s = pre ++ [x, y])) (hts : t.size = 2) (p0 : 0 < t.size) (p1 : 1 < t.size) (H0 : Hid ((t[0]'p0) = x)) (H1 : Hid ((t[1]'p1) = y)) :
    Calls Tryz.prog 151 #[.string s, .string p] w fun e w' => e = .returned (.string (bs (mend (lst s)))) ∧ Below w.heap.size w w' := by
  have hz : ¬ (s.size : Int) < 3 := by omega
  have hb : decide ((s.size : Int) < 3) = false := decide_eq_false hz
  go_enter Tryz.func151, Tryz.ntmps151
  go_wp2_with fail
  refine (containsAny_any s _ hs HA.out).mono ?_
  rintro e w' ⟨rfl, hbw⟩
  rw [HV.out]
  clear HV HA
  go_upto_region 4 with fail
  go_cut [6] (fun c wx => c = .string t ∧ wx = w')
  case first =>
    go_wp2_with fail
    go_meet
    case rel => exact ⟨by rw [HT.out], rfl⟩
  case rest =>
    obtain ⟨rfl, hw⟩ := hcut
    obtain rfl := hw.symm
    clear HT
    by_cases c1 : (t.toList == [97, 116]) = true
    · have hxy := c1
      rw [tail_eq HL.out, Bool.and_eq_true, beq_iff_eq, beq_iff_eq] at hxy
      have HM : Hid (mend (lst s) = lst s ++ [101]) := by show _ = _; rw [HS.out, mend_tail, hxy.1, hxy.2]; simp [ends_two]
      clear hxy H0 H1
      go_wp2_with fail
      go_ret
      rw [HM.out]
      exact ⟨congrArg (fun z => Ending.returned (Value.string z)) (cat_s s _), hbw⟩
    have c1' : (t.toList == [97, 116]) = false := by simpa only [Bool.not_eq_true] using c1
    have d1 : Hid ((x == 97 && y == 116) = false) := by show _ = _; rw [← tail_eq HL.out]; exact c1'
    clear c1
    by_cases c2 : (t.toList == [98, 108]) = true
    · have hxy := c2
      rw [tail_eq HL.out, Bool.and_eq_true, beq_iff_eq, beq_iff_eq] at hxy
      have HM : Hid (mend (lst s) = lst s ++ [101]) := by show _ = _; rw [HS.out, mend_tail, hxy.1, hxy.2]; simp [ends_two]
      clear hxy H0 H1
      go_wp2_with fail
      go_ret
      rw [HM.out]
      exact ⟨congrArg (fun z => Ending.returned (Value.string z)) (cat_s s _), hbw⟩
    have c2' : (t.toList == [98, 108]) = false := by simpa only [Bool.not_eq_true] using c2
    have d2 : Hid ((x == 98 && y == 108) = false) := by show _ = _; rw [← tail_eq HL.out]; exact c2'
    clear c2
    by_cases c3 : (t.toList == [105, 122]) = true
    · have hxy := c3
      rw [tail_eq HL.out, Bool.and_eq_true, beq_iff_eq, beq_iff_eq] at hxy
      have HM : Hid (mend (lst s) = lst s ++ [101]) := by show _ = _; rw [HS.out, mend_tail, hxy.1, hxy.2]; simp [ends_two]
      clear hxy H0 H1
      go_wp2_with fail
      go_ret
      rw [HM.out]
      exact ⟨congrArg (fun z => Ending.returned (Value.string z)) (cat_s s _), hbw⟩
    have c3' : (t.toList == [105, 122]) = false := by simpa only [Bool.not_eq_true] using c3
    have d3 : Hid ((x == 105 && y == 122) = false) := by show _ = _; rw [← tail_eq HL.out]; exact c3'
    clear c3
    by_cases c4 : (t.toList == [108, 108]) = true
    · have hxy := c4
      rw [tail_eq HL.out, Bool.and_eq_true, beq_iff_eq, beq_iff_eq] at hxy
      have HM : Hid (mend (lst s) = lst s) := by show _ = _; rw [HS.out, mend_tail, hxy.1, hxy.2]; simp [ends_two]
      clear hxy H0 H1
      go_wp2_with fail
      go_ret
      rw [HM.out]
      exact ⟨congrArg (fun z => Ending.returned (Value.string z)) (bs_lst s).symm, hbw⟩
    have c4' : (t.toList == [108, 108]) = false := by simpa only [Bool.not_eq_true] using c4
    have d4 : Hid ((x == 108 && y == 108) = false) := by show _ = _; rw [← tail_eq HL.out]; exact c4'
    clear c4
    by_cases c5 : (t.toList == [115, 115]) = true
    · have hxy := c5
      rw [tail_eq HL.out, Bool.and_eq_true, beq_iff_eq, beq_iff_eq] at hxy
      have HM : Hid (mend (lst s) = lst s) := by show _ = _; rw [HS.out, mend_tail, hxy.1, hxy.2]; simp [ends_two]
      clear hxy H0 H1
      go_wp2_with fail
      go_ret
      rw [HM.out]
      exact ⟨congrArg (fun z => Ending.returned (Value.string z)) (bs_lst s).symm, hbw⟩
    have c5' : (t.toList == [115, 115]) = false := by simpa only [Bool.not_eq_true] using c5
    have d5 : Hid ((x == 115 && y == 115) = false) := by show _ = _; rw [← tail_eq HL.out]; exact c5'
    clear c5
    by_cases c6 : (t.toList == [122, 122]) = true
    · have hxy := c6
      rw [tail_eq HL.out, Bool.and_eq_true, beq_iff_eq, beq_iff_eq] at hxy
      have HM : Hid (mend (lst s) = lst s) := by show _ = _; rw [HS.out, mend_tail, hxy.1, hxy.2]; simp [ends_two]
      clear hxy H0 H1
      go_wp2_with fail
      go_ret
      rw [HM.out]
      exact ⟨congrArg (fun z => Ending.returned (Value.string z)) (bs_lst s).symm, hbw⟩
    have c6' : (t.toList == [122, 122]) = false := by simpa only [Bool.not_eq_true] using c6
    have d6 : Hid ((x == 122 && y == 122) = false) := by show _ = _; rw [← tail_eq HL.out]; exact c6'
    clear c6
    by_cases g : ((t[0]'p0).toNat : Int) = ((t[1]'p1).toNat : Int)
    · have hxy : x = y := by
        rw [H0.out, H1.out] at g
        exact UInt8.toNat_inj.1 (by omega)
      have HLV : Hid (lastB (lst t) 1 = y) := by show _ = _; rw [HL.out]; rfl
      by_cases hv : vow y = true
      · have HM : Hid (mend (lst s) = lst s) := by show _ = _; rw [HS.out, mend_tail, ends_two, ends_two, ends_two, d1.out, d2.out, d3.out, hv]; simp
        have HV : Hid (vow (lastB (lst t) 1) = true) := by show _ = _; rw [HLV.out, hv]
        have hv2 : vow (lastB (lst t) 1) = true := HV.out
        clear d1 d2 d3 d4 d5 d6 hv hxy H0 H1 HL HLV
        go_wp2_with fail
        go_quiet ((go_at_call 168; refine Calls.quiet_of_same (endsVowel_any _ _ (by omega) (by omega))))
        go_wp2_with fail
        go_ret
        rw [HM.out]
        exact ⟨congrArg (fun z => Ending.returned (Value.string z)) (bs_lst s).symm, below_drewN hbw _⟩
      · have hvf : vow y = false := by simpa using hv
        have HM : Hid (mend (lst s) = cutB (lst s) 1) := by
          show _ = _
          have e4 := d4.out
          have e5 := d5.out
          have e6 := d6.out
          rw [hxy, Bool.and_self] at e4 e5 e6
          rw [HS.out, mend_tail, hxy, hvf, bne, bne, bne, e4, e5, e6]
          simp
        have hv2 : vow (lastB (lst t) 1) = false := by rw [HLV.out, hvf]
        clear d1 d2 d3 d4 d5 d6 hv hvf hxy H0 H1 HL HLV
        go_wp2_with fail
        go_quiet ((go_at_call 168; refine Calls.quiet_of_same (endsVowel_any _ _ (by omega) (by omega))))
        go_wp2_with fail
        go_ret
        rw [HM.out, ← extract_cut]
        exact ⟨rfl, below_drewN hbw _⟩
    · have hxy : (x == y) = false := by
        rw [beq_eq_false_iff_ne]
        intro e
        apply g
        rw [H0.out, H1.out, e]
      have gb : (((t[0]'p0).toNat : Int) == ((t[1]'p1).toNat : Int)) = false := beq_eq_false_iff_ne.2 g
      have HM : Hid (mend (lst s) = lst s) := by show _ = _; rw [HS.out, mend_tail, ends_two, ends_two, ends_two, d1.out, d2.out, d3.out, hxy]; simp
      clear d1 d2 d3 d4 d5 d6 hxy H0 H1 HL
      go_wp2_with fail
      go_quiet (fail)
      go_wp2_with fail
      go_ret
      rw [HM.out]
      exact ⟨congrArg (fun z => Ending.returned (Value.string z)) (bs_lst s).symm, below_drewN hbw _⟩
theorem split_two (l : List UInt8) (h : 2 ≤ l.length) : ∃ pre x y, l = pre ++ [x, y] := by
  have : l = l.take (l.length - 2) ++ l.drop (l.length - 2) := (List.take_append_drop _ _).symm
  have hd : (l.drop (l.length - 2)).length = 2 := by rw [List.length_drop]; omega
  generalize l.drop (l.length - 2) = d at *
  match d, hd with
  | [x, y], _ => exact ⟨_, x, y, this⟩
theorem tense_any (s p : ByteArray) (w : World) (hs : s.size ≤ 64) (hp : p.size ≤ 64) (ha : allS (lst s) = true) :
    Calls Tryz.prog 151 #[.string s, .string p] w fun e w' => e = .returned (.string (bs (tense (lst s) (lst p)))) ∧ Below w.heap.size w w' := by
  by_cases h3 : s.size < 3
  · exact tense_none s p w hs hp ha (Or.inl h3)
  by_cases hv : hasV (lst s) = true
  · obtain ⟨pre, x, y, hl⟩ := split_two (lst s) (by rw [lst_len]; omega)
    have hn : s.size = pre.length + 2 := by rw [← lst_len, hl]; simp
    have ht : lst (s.extract (s.size - 1 - 1) s.size) = [x, y] := by
      rw [lst, Lib.extract_data, show s.data.toList = lst s from rfl, hl, hn]
      simp
    have hz : (s.extract (s.size - 1 - 1) s.size).size = 2 := by rw [← lst_len, ht]; rfl
    have e : tense (lst s) (lst p) = mend (lst s) := by rw [tense, lst_len, decide_eq_false h3, hv]; rfl
    rw [e]
    refine tense_some s p _ x y pre w hs hp (by omega) ha hv rfl ht hl hz (by omega) (by omega) ?_ ?_
    · show _ = _; rw [get_list, ht]; rfl
    · show _ = _; rw [get_list, ht]; rfl
  · exact tense_none s p w hs hp ha (Or.inr (by simpa using hv))
end Go.Proofs.YtionicjnoogpjaaGreatDoor

namespace Go.Proofs.YtionicjnoogpjaaGreatDoor
open Go Go.RowKit
set_option linter.unusedVariables false

def cutOr (l e : List UInt8) : List UInt8 := if ends l e = true then cutB l e.length else l
theorem cutSuffix_any (s : ByteArray) (e : List UInt8) (w : World) (hs : s.size ≤ 64) :
    Calls Tryz.prog 154 #[.string s, .string (bs e)] w fun x w' => x = .returned (.tuple #[.string (bs (cutOr (lst s) e)), .bool (ends (lst s) e)]) ∧ w' = w := by
  refine (Tryz.strings_CutSuffix s (bs e) w (by omega)).mono ?_
  rintro x w' ⟨rfl, rfl⟩
  rw [show (bs e).data.toList = e from lst_bs e]
  exact ⟨rfl, rfl⟩
theorem drop_getD (es : List (List UInt8)) (k : Nat) (h : k < es.length) : es.drop k = es.getD k [] :: es.drop (k + 1) := by
  rw [List.drop_eq_getElem_cons h]
  simp [h]
theorem getD_mem (es : List (List UInt8)) (k : Nat) (h : k < es.length) : es.getD k [] ∈ es := by
  rw [List.getD_eq_getElem?_getD, List.getElem?_eq_getElem h, Option.getD_some]
  exact List.getElem_mem _
set_option maxHeartbeats 2000000 in
theorem apply_any (es : List (List UInt8)) (F : List UInt8 → List UInt8 → List UInt8) (g b n cap : Nat) (s : ByteArray) (w : World) (hs : s.size ≤ 64)
    (eg : ∀ args w, (callFunc g args).run Tryz.prog w = .ok (.enter g args) w) (hl : es.length = n) (hn : n ≤ 8) (hbl : b < w.heap.size)
    (hc : ∀ t, t < n → w.cell? ⟨b, t, none⟩ = some (.string (bs (es.getD t []))))
    (HF : Hid (∀ e ∈ es, ∀ W, ends (lst s) e = true → Calls Tryz.prog g #[.string (bs (cutB (lst s) e.length)), .string (bs e)] W fun x W' => x = .returned (.string (bs (F (cutB (lst s) e.length) e))) ∧ Below W.heap.size W W')) :
    Calls Tryz.prog 127 #[.agg #[.slice (some ⟨b, 0, none⟩) n cap, .func (.func g) #[] #[]], .string s] w fun e w' => e = .returned (.string (bs (firstOf F (lst s) es))) ∧ Below w.heap.size w w' := by
  have Hc := hidd hc
  clear hc
  go_enter Tryz.func127, Tryz.ntmps127
  go_wp2_with fail
  have HB : Hid (Below w.heap.size w (w.alloc (.cells #[.slice (some ⟨b, 0, none⟩) n cap, .func (.func g) #[] #[]] 154))) := (Below.refl _ _).alloc (Nat.le_refl _) _
  go_loop [12] (fun i => ∃ k : Nat, k ≤ n ∧ i = .int .i64 k ∧ firstOf F (lst s) es = firstOf F (lst s) (es.drop k)) (fun i => n - (intOf i).toNat)
  case atStart => exact ⟨0, Nat.zero_le _, rfl, rfl⟩
  case round =>
    obtain ⟨k, hk, rfl, hfst⟩ := hrel
    have HK := hidd hfst
    clear hfst
    by_cases hlt : k < n
    · have g1 := (HB.out.cell (p := ⟨b, k, none⟩) hbl).trans (Hc.out k hlt)
      have hkl : k < es.length := by omega
      have HD := hidd (drop_getD es k hkl)
      have HM := hidd (getD_mem es k hkl)
      generalize hee : es.getD k [] = e at *
      clear hee
      by_cases he : ends (lst s) e = true
      · have HR : Hid (firstOf F (lst s) es = F (cutB (lst s) e.length) e) := by show _ = _; rw [HK.out, HD.out, firstOf, if_pos he]
        have HE := hidd he
        have HO : Hid (cutOr (lst s) e = cutB (lst s) e.length) := by show _ = _; rw [cutOr, if_pos he]
        clear he
        go_wp2_with fail
        refine (cutSuffix_any s e _ hs).mono ?_
        rintro x w' ⟨rfl, hw⟩
        obtain rfl := hw.symm
        rw [HE.out, HO.out]
        go_wp2_with (go_at_fn g; refine (HF.out e HM.out _ HE.out).mono ?_; rintro x w2 ⟨rfl, hb2⟩)
        go_ret
        rw [HR.out]
        exact ⟨rfl, HB.out.trans (hb2.mono (by simp))⟩
      · have he' : ends (lst s) e = false := by simpa using he
        have HN : Hid (firstOf F (lst s) es = firstOf F (lst s) (es.drop (k + 1))) := by show _ = _; rw [HK.out, HD.out, firstOf, if_neg he]
        have HE := hidd he'
        clear he he'
        go_wp2_with fail
        refine (cutSuffix_any s e _ hs).mono ?_
        rintro x w' ⟨rfl, hw⟩
        obtain rfl := hw.symm
        rw [HE.out]
        go_wp2_with fail
        go_round
        case rel => exact ⟨k + 1, by omega, by go_num, HN.out⟩
        case measure => simp [intOf]; omega
    · have HR : Hid (firstOf F (lst s) es = lst s) := by show _ = _; rw [HK.out, List.drop_of_length_le (by omega), firstOf]
      go_wp2_with fail
      go_ret
      rw [HR.out, bs_lst]
      exact ⟨rfl, HB.out⟩
end Go.Proofs.YtionicjnoogpjaaGreatDoor
