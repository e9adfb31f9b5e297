import Derived.Test.YteedakkclppipaiStemR
namespace Go.Proofs.Yteedakkclppipai
open Go Go.RowKit
set_option linter.unusedVariables false

set_option maxHeartbeats 2000000 in
set_option maxRecDepth 100000 in
theorem specStem_no (s : ByteArray) (w : World) (h3 : 3 ≤ s.size) (h64 : s.size ≤ 64) (HA : Hid (allS (lst s) = false)) :
    Calls Try.prog 15 #[.string s] w fun e w' => e = .returned (.string s) ∧ ∃ m, w' = w.drewN m := by
  have b0 : decide ((s.size : Int) < 3) = false := decide_eq_false (by omega)
  have b1 : decide ((64 : Int) < (s.size : Int)) = false := decide_eq_false (by omega)
  have b2 : ¬ (65536 : Int) < (s.size : Int) := by omega
  go_enter Try.func15, Try.ntmps15
  go_wp2
  go_loop [3] (fun i => ∃ k : Nat, k ≤ s.size ∧ i = .int .i64 k ∧ allS ((lst s).take k) = true) (fun i => s.size - (intOf i).toNat)
  case atStart => exact ⟨0, Nat.zero_le _, rfl, rfl⟩
  case round =>
    obtain ⟨k, hk, rfl, hall⟩ := hrel
    have HK := hidd hall
    clear hall
    by_cases hlt : k < s.size
    · have hkl : k < (lst s).length := by rw [lst_len]; exact hlt
      have HG := hidd (get_list s k hlt)
      by_cases hsm : small ((lst s).getD k 0) = true
      · have HN : Hid (allS ((lst s).take (k + 1)) = true) := by show _ = _; rw [allS, all_take_small _ _ hkl, ← allS, HK.out, hsm]; rfl
        rw [← HG.out, small, decide_eq_true_eq] at hsm
        obtain ⟨g1, g2⟩ := hsm
        have g1z : ¬ ((s[k]'hlt).toNat : Int) < 97 := by omega
        have g2z : ¬ (122 : Int) < ((s[k]'hlt).toNat : Int) := by omega
        have g1b : decide (((s[k]'hlt).toNat : Int) < 97) = false := decide_eq_false g1z
        have g2b : decide ((122 : Int) < ((s[k]'hlt).toNat : Int)) = false := decide_eq_false g2z
        go_wp2
        go_round
        case rel => exact ⟨k + 1, by omega, by go_num, HN.out⟩
        case measure => simp [intOf]; omega
      · have hsm' : small ((lst s).getD k 0) = false := by simpa using hsm
        rw [← HG.out, small, decide_eq_false_iff_not] at hsm'
        by_cases g1 : ((s[k]'hlt).toNat : Int) < 97
        · clear hsm hsm'
          go_wp2
          go_ret
          exact ⟨rfl, 0, rfl⟩
        · have g1b : decide (((s[k]'hlt).toNat : Int) < 97) = false := decide_eq_false g1
          have g2 : (122 : Int) < ((s[k]'hlt).toNat : Int) := by omega
          clear hsm hsm'
          go_wp2
          go_ret
          exact ⟨rfl, 0, rfl⟩
    · exfalso
      have h1 := HK.out
      rw [List.take_of_length_le (by rw [lst_len]; omega), HA.out] at h1
      cases h1

set_option maxHeartbeats 2000000 in
set_option maxRecDepth 100000 in
theorem specStem_any (s : ByteArray) (w : World) (hs : s.size ≤ 1048576) :
    Calls Try.prog 15 #[.string s] w fun e w' => e = .returned (.string (bs (stemW (lst s)))) ∧ ∃ m, w' = w.drewN m := by
  by_cases hlong : 65536 < s.size
  · have HM : Hid (stemW (lst s) = []) := by show _ = _; rw [stemW, lst_len, if_pos hlong]
    have hz : (65536 : Int) < (s.size : Int) := by omega
    go_enter Try.func15, Try.ntmps15
    go_wp2
    go_ret
    rw [HM.out]
    exact ⟨rfl, 0, rfl⟩
  have hz : ¬ (65536 : Int) < (s.size : Int) := by omega
  by_cases h3 : s.size < 3
  · have HM : Hid (stemW (lst s) = lst s) := by show _ = _; rw [stemW, lst_len, if_neg hlong, if_pos (Or.inl h3)]
    have h3z : (s.size : Int) < 3 := by omega
    go_enter Try.func15, Try.ntmps15
    go_wp2
    go_ret
    rw [HM.out, bs_lst]
    exact ⟨rfl, 0, rfl⟩
  by_cases h64 : 64 < s.size
  · have HM : Hid (stemW (lst s) = lst s) := by show _ = _; rw [stemW, lst_len, if_neg hlong, if_pos (Or.inr h64)]
    have h3b : decide ((s.size : Int) < 3) = false := decide_eq_false (by omega)
    have h64z : (64 : Int) < (s.size : Int) := by omega
    go_enter Try.func15, Try.ntmps15
    go_wp2
    go_ret
    rw [HM.out, bs_lst]
    exact ⟨rfl, 0, rfl⟩
  have e0 : stemW (lst s) = if allS (lst s) = true then stem4 (stem3 (stem2 (stem1 (lst s)))) else lst s := by rw [stemW, lst_len, if_neg hlong, if_neg (by omega)]; rfl
  by_cases ha : allS (lst s) = true
  · rw [e0, if_pos ha]
    exact specStem_in s w (by omega) (by omega) ha
  · rw [e0, if_neg ha, bs_lst]
    have ha' : allS (lst s) = false := by simpa using ha
    exact specStem_no s w (by omega) (by omega) ha'

set_option maxHeartbeats 2000000 in
set_option maxRecDepth 100000 in
theorem implStem_any (s : ByteArray) (w : World) (hs : s.size ≤ 1048576) :
    Calls Try.prog 16 #[.string s] w fun e w' => e = .returned (.string (bs (stemW (lst s)))) ∧ Below w.heap.size w w' := by
  by_cases hlong : 65536 < s.size
  · have HM : Hid (stemW (lst s) = []) := by show _ = _; rw [stemW, lst_len, if_pos hlong]
    have hz : (65536 : Int) < (s.size : Int) := by omega
    go_enter Try.func16, Try.ntmps16
    go_wp2_with fail
    go_ret
    rw [HM.out]
    exact ⟨rfl, Below.refl _ _⟩
  have hz : ¬ (65536 : Int) < (s.size : Int) := by omega
  by_cases hin : 3 ≤ s.size ∧ s.size ≤ 64
  · have e0 : stemW (lst s) = if allS (lst s) = true then stem4 (stem3 (stem2 (stem1 (lst s)))) else lst s := by rw [stemW, lst_len, if_neg hlong, if_neg (by omega)]; rfl
    by_cases ha : allS (lst s) = true
    · rw [e0, if_pos ha]
      exact implStem_in s w (by omega) (by omega) ha
    · have HM : Hid (stemW (lst s) = lst s) := by show _ = _; rw [e0, if_neg ha]
      have ha' : allS (lst s) = false := by simpa using ha
      have HA := hidd ha'
      have HW : Hid ((decide ((3 : Int) ≤ (s.size : Int)) && decide ((s.size : Int) ≤ 64)) = true) := by show _ = _; rw [decide_eq_true (by omega), decide_eq_true (by omega)]; rfl
      clear e0 ha ha' hin
      go_enter Try.func16, Try.ntmps16
      go_wp2_with fail
      refine (clone_any s _ (by omega)).mono ?_
      rintro e w1 ⟨rfl, hb1⟩
      have HB1 := hidd hb1
      clear hb1
      go_wp2_with fail
      refine (within_any _ _ _ _).mono ?_
      rintro e w' ⟨rfl, hw⟩
      obtain rfl := hw.symm
      rw [HW.out]
      go_wp2_with fail
      refine (allSmall_any s _ (by omega)).mono ?_
      rintro e w' ⟨rfl, hw⟩
      obtain rfl := hw.symm
      rw [HA.out]
      go_wp2_with fail
      go_ret
      rw [HM.out, bs_lst]
      exact ⟨rfl, HB1.out⟩
  · have HM : Hid (stemW (lst s) = lst s) := by show _ = _; rw [stemW, lst_len, if_neg hlong, if_pos (by omega)]
    have HW : Hid ((decide ((3 : Int) ≤ (s.size : Int)) && decide ((s.size : Int) ≤ 64)) = false) := by
      show _ = _
      by_cases h3 : 3 ≤ s.size
      · rw [decide_eq_false (p := (s.size : Int) ≤ 64) (by omega), Bool.and_false]
      · rw [decide_eq_false (p := (3 : Int) ≤ (s.size : Int)) (by omega), Bool.false_and]
    clear hin
    go_enter Try.func16, Try.ntmps16
    go_wp2_with fail
    refine (clone_any s _ (by omega)).mono ?_
    rintro e w1 ⟨rfl, hb1⟩
    have HB1 := hidd hb1
    clear hb1
    go_wp2_with fail
    refine (within_any _ _ _ _).mono ?_
    rintro e w' ⟨rfl, hw⟩
    obtain rfl := hw.symm
    rw [HW.out]
    go_wp2_with fail
    go_ret
    rw [HM.out, bs_lst]
    exact ⟨rfl, HB1.out⟩
end Go.Proofs.Yteedakkclppipai
