import Derived.Test.YteedakkclppipaiStemJ
import Derived.Deep.DeepCutAuto
namespace Go.Proofs.Yteedakkclppipai
open Go Go.RowKit
set_option linter.unusedVariables false

theorem small_ascii {l : List UInt8} (h : allS l = true) : ∀ (j : Nat) b, l[j]? = some b → b.toNat < 128 := by
  intro j b hb
  rw [allS, List.all_eq_true] at h
  have := h b (List.mem_of_getElem? hb)
  rw [small, decide_eq_true_eq] at this
  omega
theorem vws_ascii : ∀ (j : Nat) b, vws[j]? = some b → b.toNat < 128 := by
  intro j b hb
  have hm : b ∈ vws := List.mem_of_getElem? hb
  simp only [vws, List.mem_cons, List.not_mem_nil, or_false] at hm
  rcases hm with rfl | rfl | rfl | rfl | rfl | rfl <;> decide

theorem containsAny_any (s : ByteArray) (w : World) (hs : s.size ≤ 64) (ha : allS (lst s) = true) :
    Calls Try.prog 49 #[.string s, .string ⟨#[97, 101, 105, 111, 117, 121]⟩] w fun e w' => e = .returned (.bool (hasV (lst s))) ∧ Below w.heap.size w w' := by
  refine (Try.strings_ContainsAny_laid s ⟨#[97, 101, 105, 111, 117, 121]⟩ w (by omega) (by decide) (small_ascii ha) vws_ascii).mono ?_
  rintro e w' ⟨rfl, hb⟩
  rw [← containsAny_hasV]
  exact ⟨rfl, hb⟩

set_option maxHeartbeats 1000000 in
theorem tense_none (s p : ByteArray) (w : World) (hs : s.size ≤ 64) (hp : p.size ≤ 64) (HA : Hid (allS (lst s) = true)) (h : s.size < 3 ∨ hasV (lst s) = false) :
    Calls Try.prog 42 #[.string s, .string p] w fun e w' => e = .returned (.string (bs (tense (lst s) (lst p)))) ∧ Below w.heap.size w w' := by
  by_cases h3 : s.size < 3
  · have hz : (s.size : Int) < 3 := by omega
    have HM : Hid (tense (lst s) (lst p) = lst s ++ lst p) := by show _ = _; rw [tense, lst_len, decide_eq_true h3]; rfl
    go_enter Try.func42, Try.ntmps42
    go_wp2_with fail
    go_ret
    rw [HM.out]
    exact ⟨congrArg (fun x => Ending.returned (Value.string x)) (cat_s s (lst p)), Below.refl _ _⟩
  · have hz : ¬ (s.size : Int) < 3 := by omega
    have hb : decide ((s.size : Int) < 3) = false := decide_eq_false hz
    have HV : Hid (hasV (lst s) = false) := h.resolve_left h3
    have HM : Hid (tense (lst s) (lst p) = lst s ++ lst p) := by show _ = _; rw [tense, HV.out, Bool.not_false, Bool.or_true, if_pos rfl]
    clear h
    go_enter Try.func42, Try.ntmps42
    go_wp2_with fail
    refine (containsAny_any s _ hs HA.out).mono ?_
    rintro e w' ⟨rfl, hbw⟩
    rw [HV.out]
    go_wp2_with fail
    go_ret
    rw [HM.out]
    exact ⟨congrArg (fun x => Ending.returned (Value.string x)) (cat_s s (lst p)), hbw⟩

theorem mend_tail (pre : List UInt8) (x y : UInt8) :
    mend (pre ++ [x, y]) = if x == y && !vow y && y != 108 && y != 115 && y != 122 then cutB (pre ++ [x, y]) 1 else if ends [x, y] [97, 116] || ends [x, y] [98, 108] || ends [x, y] [105, 122] then pre ++ [x, y] ++ [101] else pre ++ [x, y] := by
  have l1 : lastB (pre ++ [x, y]) 1 = y := by simp [lastB]
  have l2 : lastB (pre ++ [x, y]) 2 = x := by simp [lastB]
  have ha : alike (pre ++ [x, y]) = (x == y && !vow y && y != 108 && y != 115 && y != 122) := by
    rw [alike, l1, l2, decide_eq_true (by simp), Bool.true_and]
    congr 4
    rw [Bool.eq_iff_iff, beq_iff_eq, beq_iff_eq]
    exact eq_comm
  rw [mend, ha, ends_app_iff _ _ _ (by simp), ends_app_iff _ _ _ (by simp), ends_app_iff _ _ _ (by simp)]
theorem tail_eq {t : ByteArray} {x y a b : UInt8} (h : lst t = [x, y]) : (t.toList == [a, b]) = (x == a && y == b) := by
  rw [Lib.toList_data, show t.data.toList = [x, y] from h]
  simp
theorem ends_two (x y a b : UInt8) : ends [x, y] [a, b] = (x == a && y == b) := by
  rw [Bool.eq_iff_iff, ends_iff]
  simp only [Bool.and_eq_true, beq_iff_eq]
  constructor
  · rintro ⟨u, hu⟩
    have hl := congrArg List.length hu
    simp at hl
    subst hl
    simpa using hu
  · rintro ⟨rfl, rfl⟩; exact ⟨[], rfl⟩

set_option maxHeartbeats 2000000 in
theorem tense_some (s p t : ByteArray) (x y : UInt8) (pre : List UInt8) (w : World) (hs : s.size ≤ 64) (hp : p.size ≤ 64) (h3 : 3 ≤ s.size) (HA : Hid (allS (lst s) = true)) (HV : Hid (hasV (lst s) = true)) (HT : Hid (s.extract (s.size - 1 - 1) s.size = t)) (HL : Hid (lst t = [x, y])) (HS : Hid (lst s = pre ++ [x, y])) (hts : t.size = 2) (p0 : 0 < t.size) (p1 : 1 < t.size) (H0 : Hid ((t[0]'p0) = x)) (H1 : Hid ((t[1]'p1) = y)) :
    Calls Try.prog 42 #[.string s, .string p] w fun e w' => e = .returned (.string (bs (mend (lst s)))) ∧ Below w.heap.size w w' := by
  have hz : ¬ (s.size : Int) < 3 := by omega
  have hb : decide ((s.size : Int) < 3) = false := decide_eq_false hz
  go_enter Try.func42, Try.ntmps42
  go_wp2_with fail
  refine (containsAny_any s _ hs HA.out).mono ?_
  rintro e w' ⟨rfl, hbw⟩
  rw [HV.out]
  clear HV HA
  go_upto_region 4 with fail
  go_cut [6] (fun c wx => c = .string t ∧ wx = w')
  case first =>
    go_wp2_with fail
    go_meet
    case rel => exact ⟨by rw [HT.out], rfl⟩
  case rest =>
    obtain ⟨rfl, hw⟩ := hcut
    obtain rfl := hw.symm
    clear HT
    by_cases c1 : (t.toList == [97, 116]) = true
    · have hxy := c1
      rw [tail_eq HL.out, Bool.and_eq_true, beq_iff_eq, beq_iff_eq] at hxy
      have HM : Hid (mend (lst s) = lst s ++ [101]) := by show _ = _; rw [HS.out, mend_tail, hxy.1, hxy.2]; simp [ends_two]
      clear hxy H0 H1
      go_wp2_with fail
      go_ret
      rw [HM.out]
      exact ⟨congrArg (fun z => Ending.returned (Value.string z)) (cat_s s _), hbw⟩
    have c1' : (t.toList == [97, 116]) = false := by simpa only [Bool.not_eq_true] using c1
    have d1 : Hid ((x == 97 && y == 116) = false) := by show _ = _; rw [← tail_eq HL.out]; exact c1'
    clear c1
    by_cases c2 : (t.toList == [98, 108]) = true
    · have hxy := c2
      rw [tail_eq HL.out, Bool.and_eq_true, beq_iff_eq, beq_iff_eq] at hxy
      have HM : Hid (mend (lst s) = lst s ++ [101]) := by show _ = _; rw [HS.out, mend_tail, hxy.1, hxy.2]; simp [ends_two]
      clear hxy H0 H1
      go_wp2_with fail
      go_ret
      rw [HM.out]
      exact ⟨congrArg (fun z => Ending.returned (Value.string z)) (cat_s s _), hbw⟩
    have c2' : (t.toList == [98, 108]) = false := by simpa only [Bool.not_eq_true] using c2
    have d2 : Hid ((x == 98 && y == 108) = false) := by show _ = _; rw [← tail_eq HL.out]; exact c2'
    clear c2
    by_cases c3 : (t.toList == [105, 122]) = true
    · have hxy := c3
      rw [tail_eq HL.out, Bool.and_eq_true, beq_iff_eq, beq_iff_eq] at hxy
      have HM : Hid (mend (lst s) = lst s ++ [101]) := by show _ = _; rw [HS.out, mend_tail, hxy.1, hxy.2]; simp [ends_two]
      clear hxy H0 H1
      go_wp2_with fail
      go_ret
      rw [HM.out]
      exact ⟨congrArg (fun z => Ending.returned (Value.string z)) (cat_s s _), hbw⟩
    have c3' : (t.toList == [105, 122]) = false := by simpa only [Bool.not_eq_true] using c3
    have d3 : Hid ((x == 105 && y == 122) = false) := by show _ = _; rw [← tail_eq HL.out]; exact c3'
    clear c3
    by_cases c4 : (t.toList == [108, 108]) = true
    · have hxy := c4
      rw [tail_eq HL.out, Bool.and_eq_true, beq_iff_eq, beq_iff_eq] at hxy
      have HM : Hid (mend (lst s) = lst s) := by show _ = _; rw [HS.out, mend_tail, hxy.1, hxy.2]; simp [ends_two]
      clear hxy H0 H1
      go_wp2_with fail
      go_ret
      rw [HM.out]
      exact ⟨congrArg (fun z => Ending.returned (Value.string z)) (bs_lst s).symm, hbw⟩
    have c4' : (t.toList == [108, 108]) = false := by simpa only [Bool.not_eq_true] using c4
    have d4 : Hid ((x == 108 && y == 108) = false) := by show _ = _; rw [← tail_eq HL.out]; exact c4'
    clear c4
    by_cases c5 : (t.toList == [115, 115]) = true
    · have hxy := c5
      rw [tail_eq HL.out, Bool.and_eq_true, beq_iff_eq, beq_iff_eq] at hxy
      have HM : Hid (mend (lst s) = lst s) := by show _ = _; rw [HS.out, mend_tail, hxy.1, hxy.2]; simp [ends_two]
      clear hxy H0 H1
      go_wp2_with fail
      go_ret
      rw [HM.out]
      exact ⟨congrArg (fun z => Ending.returned (Value.string z)) (bs_lst s).symm, hbw⟩
    have c5' : (t.toList == [115, 115]) = false := by simpa only [Bool.not_eq_true] using c5
    have d5 : Hid ((x == 115 && y == 115) = false) := by show _ = _; rw [← tail_eq HL.out]; exact c5'
    clear c5
    by_cases c6 : (t.toList == [122, 122]) = true
    · have hxy := c6
      rw [tail_eq HL.out, Bool.and_eq_true, beq_iff_eq, beq_iff_eq] at hxy
      have HM : Hid (mend (lst s) = lst s) := by show _ = _; rw [HS.out, mend_tail, hxy.1, hxy.2]; simp [ends_two]
      clear hxy H0 H1
      go_wp2_with fail
      go_ret
      rw [HM.out]
      exact ⟨congrArg (fun z => Ending.returned (Value.string z)) (bs_lst s).symm, hbw⟩
    have c6' : (t.toList == [122, 122]) = false := by simpa only [Bool.not_eq_true] using c6
    have d6 : Hid ((x == 122 && y == 122) = false) := by show _ = _; rw [← tail_eq HL.out]; exact c6'
    clear c6
    by_cases g : ((t[0]'p0).toNat : Int) = ((t[1]'p1).toNat : Int)
    · have hxy : x = y := by
        rw [H0.out, H1.out] at g
        exact UInt8.toNat_inj.1 (by omega)
      have HLV : Hid (lastB (lst t) 1 = y) := by show _ = _; rw [HL.out]; rfl
      by_cases hv : vow y = true
      · have HM : Hid (mend (lst s) = lst s) := by show _ = _; rw [HS.out, mend_tail, ends_two, ends_two, ends_two, d1.out, d2.out, d3.out, hv]; simp
        have HV : Hid (vow (lastB (lst t) 1) = true) := by show _ = _; rw [HLV.out, hv]
        have hv2 : vow (lastB (lst t) 1) = true := HV.out
        clear d1 d2 d3 d4 d5 d6 hv hxy H0 H1 HL HLV
        go_wp2_with fail
        go_quiet ((go_at_call 50; refine Calls.quiet_of_same (endsVowel_any _ _ (by omega) (by omega))))
        go_wp2_with fail
        go_ret
        rw [HM.out]
        exact ⟨congrArg (fun z => Ending.returned (Value.string z)) (bs_lst s).symm, below_drewN hbw _⟩
      · have hvf : vow y = false := by simpa using hv
        have HM : Hid (mend (lst s) = cutB (lst s) 1) := by
          show _ = _
          have e4 := d4.out
          have e5 := d5.out
          have e6 := d6.out
          rw [hxy, Bool.and_self] at e4 e5 e6
          rw [HS.out, mend_tail, hxy, hvf, bne, bne, bne, e4, e5, e6]
          simp
        have hv2 : vow (lastB (lst t) 1) = false := by rw [HLV.out, hvf]
        clear d1 d2 d3 d4 d5 d6 hv hvf hxy H0 H1 HL HLV
        go_wp2_with fail
        go_quiet ((go_at_call 50; refine Calls.quiet_of_same (endsVowel_any _ _ (by omega) (by omega))))
        go_wp2_with fail
        go_ret
        rw [HM.out, ← extract_cut]
        exact ⟨rfl, below_drewN hbw _⟩
    · have hxy : (x == y) = false := by
        rw [beq_eq_false_iff_ne]
        intro e
        apply g
        rw [H0.out, H1.out, e]
      have gb : (((t[0]'p0).toNat : Int) == ((t[1]'p1).toNat : Int)) = false := beq_eq_false_iff_ne.2 g
      have HM : Hid (mend (lst s) = lst s) := by show _ = _; rw [HS.out, mend_tail, ends_two, ends_two, ends_two, d1.out, d2.out, d3.out, hxy]; simp
      clear d1 d2 d3 d4 d5 d6 hxy H0 H1 HL
      go_wp2_with fail
      go_quiet (fail)
      go_wp2_with fail
      go_ret
      rw [HM.out]
      exact ⟨congrArg (fun z => Ending.returned (Value.string z)) (bs_lst s).symm, below_drewN hbw _⟩

theorem split_two (l : List UInt8) (h : 2 ≤ l.length) : ∃ pre x y, l = pre ++ [x, y] := by
  have : l = l.take (l.length - 2) ++ l.drop (l.length - 2) := (List.take_append_drop _ _).symm
  have hd : (l.drop (l.length - 2)).length = 2 := by rw [List.length_drop]; omega
  generalize l.drop (l.length - 2) = d at *
  match d, hd with
  | [x, y], _ => exact ⟨_, x, y, this⟩

theorem tense_any (s p : ByteArray) (w : World) (hs : s.size ≤ 64) (hp : p.size ≤ 64) (ha : allS (lst s) = true) :
    Calls Try.prog 42 #[.string s, .string p] w fun e w' => e = .returned (.string (bs (tense (lst s) (lst p)))) ∧ Below w.heap.size w w' := by
  by_cases h3 : s.size < 3
  · exact tense_none s p w hs hp ha (Or.inl h3)
  by_cases hv : hasV (lst s) = true
  · obtain ⟨pre, x, y, hl⟩ := split_two (lst s) (by rw [lst_len]; omega)
    have hn : s.size = pre.length + 2 := by rw [← lst_len, hl]; simp
    have ht : lst (s.extract (s.size - 1 - 1) s.size) = [x, y] := by
      rw [lst, Lib.extract_data, show s.data.toList = lst s from rfl, hl, hn]
      simp
    have hz : (s.extract (s.size - 1 - 1) s.size).size = 2 := by rw [← lst_len, ht]; rfl
    have e : tense (lst s) (lst p) = mend (lst s) := by rw [tense, lst_len, decide_eq_false h3, hv]; rfl
    rw [e]
    refine tense_some s p _ x y pre w hs hp (by omega) ha hv rfl ht hl hz (by omega) (by omega) ?_ ?_
    · show _ = _; rw [get_list, ht]; rfl
    · show _ = _; rw [get_list, ht]; rfl
  · exact tense_none s p w hs hp ha (Or.inr (by simpa using hv))
end Go.Proofs.Yteedakkclppipai
