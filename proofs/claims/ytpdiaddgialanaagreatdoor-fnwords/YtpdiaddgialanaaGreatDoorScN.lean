import Derived.Test.YtpdiaddgialanaaGreatDoorScPi
import Derived.Test.YtpdiaddgialanaaGreatDoorWithin
import Derived.Test.YtpdiaddgialanaaGreatDoorOwn
import Derived.Test.YtpdiaddgialanaaGreatDoorRunes
import Derived.WalkLawsBesides
import Derived.BigQuiet
import Derived.Deep.QuietTactic
namespace Go.Proofs.YtpdiaddgialanaaGreatDoor
open Go Go.RowKit
set_option linter.unusedVariables false
set_option maxRecDepth 100000

theorem get_listN (s : ByteArray) (k : Nat) (h : k < s.size) : s[k] = (lst s).getD k 0 := by
  have h' : k < (lst s).length := by rw [lst_len]; exact h
  rw [List.getD_eq_getElem?_getD, List.getElem?_eq_getElem h', Option.getD_some]
  simp [lst]
  rfl
theorem all_takeC (p : UInt8 → Bool) (l : List UInt8) {k : Nat} (hk : k < l.length) (h : (l.take k).all p = true) (hp : p (l.getD k 0) = true) : (l.take (k + 1)).all p = true := by
  rw [List.take_succ_eq_append_getElem hk, List.all_append, h]
  rw [List.getD_eq_getElem?_getD, List.getElem?_eq_getElem hk] at hp
  simpa using hp
theorem all_notC (p : UInt8 → Bool) (l : List UInt8) {k : Nat} (hk : k < l.length) (hp : p (l.getD k 0) = false) : l.all p = false := by
  rw [List.all_eq_false]
  rw [List.getD_eq_getElem?_getD, List.getElem?_eq_getElem hk] at hp
  exact ⟨l[k], List.getElem_mem hk, by simpa using hp⟩

set_option maxHeartbeats 1000000 in
theorem allSmallC_any (s : ByteArray) (w : World) (hs : s.size ≤ 1048576) :
    Calls Tryz.prog 110 #[.string s] w fun e w' => e = .returned (.bool ((lst s).all smallC)) ∧ w' = w := by
  go_enter Tryz.func110, Tryz.ntmps110
  go_wp2
  go_loop [6] (fun i => ∃ k : Nat, k ≤ s.size ∧ i = .int .i64 k ∧ ((lst s).take k).all smallC = true) (fun i => s.size - (intOf i).toNat)
  case atStart => exact ⟨0, Nat.zero_le _, rfl, rfl⟩
  case round =>
    obtain ⟨k, hk, rfl, hall⟩ := hrel
    have HA := hidd hall
    clear hall
    by_cases hlt : k < s.size
    · have hkl : k < (lst s).length := by rw [lst_len]; exact hlt
      have HG := hidd (get_listN s k hlt)
      have hb8 : ((s[k]'hlt).toNat : Int) ≤ 255 := by have := UInt8.toNat_lt (s[k]'hlt); omega
      have HW : Hid ((decide ((97 : Int) ≤ ((s[k]'hlt).toNat : Int)) && decide (((s[k]'hlt).toNat : Int) ≤ 122)) = smallC ((lst s).getD k 0)) := by show _ = _; rw [smallC, HG.out]
      by_cases hv : smallC ((lst s).getD k 0) = true
      · have HN : Hid (((lst s).take (k + 1)).all smallC = true) := all_takeC _ _ hkl HA.out hv
        go_wp2_with fail
        refine (within_any _ _ _ _).mono ?_
        rintro e w' ⟨rfl, hw⟩
        obtain rfl := hw.symm
        rw [HW.out, hv]
        clear hv
        go_wp2
        go_round
        case rel => exact ⟨k + 1, by omega, by go_num, HN.out⟩
        case measure => simp [intOf]; omega
      · have hv' : smallC ((lst s).getD k 0) = false := by simpa using hv
        have HR : Hid ((lst s).all smallC = false) := all_notC _ _ hkl hv'
        go_wp2_with fail
        refine (within_any _ _ _ _).mono ?_
        rintro e w' ⟨rfl, hw⟩
        obtain rfl := hw.symm
        rw [HW.out, hv']
        clear hv hv'
        go_wp2
        go_ret
        rw [HR.out]
        exact ⟨rfl, rfl⟩
    · have HR : Hid ((lst s).all smallC = true) := by
        have := HA.out
        rw [List.take_of_length_le (by rw [lst_len]; omega)] at this
        exact this
      go_wp2
      go_ret
      rw [HR.out]
      exact ⟨rfl, rfl⟩
theorem small_first (s : ByteArray) (h : 1 ≤ s.size) : (lst (s.extract 0 1)).all smallC = smallC ((lst s).getD 0 0) := by
  have e : lst (s.extract 0 1) = (lst s).take 1 := by simp [lst, ByteArray.data_extract]
  rw [e]
  have hl : 1 ≤ (lst s).length := by rw [lst_len]; exact h
  match hq : lst s, hl with
  | c :: t, _ => simp
set_option maxHeartbeats 2000000 in
theorem nameOK_any (s : ByteArray) (w : World) (hs : s.size ≤ 1048576) :
    Calls Tryz.prog 99 #[.string s] w fun e w' => e = .returned (.bool (nmOK (lst s))) ∧ w' = w := by
  go_enter Tryz.func99, Tryz.ntmps99
  have hll := lst_len s
  by_cases hin : 1 ≤ s.size ∧ s.size ≤ 30
  · have HW : Hid ((decide ((1 : Int) ≤ (s.size : Int)) && decide ((s.size : Int) ≤ 30)) = true) := by show _ = _; rw [decide_eq_true (by omega), decide_eq_true (by omega)]; rfl
    obtain ⟨h1, h30⟩ := hin
    go_wp2_with fail
    refine (within_any _ _ _ _).mono ?_
    rintro e w' ⟨rfl, hw⟩
    obtain rfl := hw.symm
    rw [HW.out]
    have HX : Hid ((lst (s.extract 0 1)).all smallC = smallC ((lst s).getD 0 0)) := small_first s h1
    go_wp2_with fail
    refine (allSmallC_any _ _ (by rw [ByteArray.size_extract]; omega)).mono ?_
    rintro e w' ⟨rfl, hw⟩
    obtain rfl := hw.symm
    rw [HX.out]
    by_cases hf : smallC ((lst s).getD 0 0) = true
    · rw [hf]
      have HF := hidd hf
      clear hf HX HW hw
      go_wp2_with fail
      go_loopw [17] (fun i wr => ∃ k : Nat, k ≤ s.size ∧ i = .int .i64 k ∧ ((lst s).take k).all nmC = true ∧ wr = w) (fun i _ => s.size - (intOf i).toNat)
      case atStart => exact ⟨0, Nat.zero_le _, rfl, rfl, rfl⟩
      case round =>
        obtain ⟨k, hk, rfl, hall, hww⟩ := hrel
        have hww' := hww.symm
        subst hww'
        clear hww
        have HA := hidd hall
        clear hall
        by_cases hlt : k < s.size
        · have hkl : k < (lst s).length := by rw [lst_len]; exact hlt
          have HG := hidd (get_listN s k hlt)
          have hb8 : ((s[k]'hlt).toNat : Int) ≤ 255 := by have := UInt8.toNat_lt (s[k]'hlt); omega
          have HW1 : Hid ((decide ((97 : Int) ≤ ((s[k]'hlt).toNat : Int)) && decide (((s[k]'hlt).toNat : Int) ≤ 122)) = smallC ((lst s).getD k 0)) := by show _ = _; rw [smallC, HG.out]
          have HW2 : Hid ((decide ((48 : Int) ≤ ((s[k]'hlt).toNat : Int)) && decide (((s[k]'hlt).toNat : Int) ≤ 57)) = digC ((lst s).getD k 0)) := by show _ = _; rw [digC, HG.out]
          have HW3 : Hid (decide (((s[k]'hlt).toNat : Int) = 95) = decide ((((lst s).getD k 0).toNat : Int) = 95)) := by show _ = _; rw [HG.out]
          go_wp2_with fail
          refine (within_any _ _ _ _).mono ?_
          rintro e w' ⟨rfl, hw⟩
          obtain rfl := hw.symm
          rw [HW1.out]
          by_cases hc1 : smallC ((lst s).getD k 0) = true
          · rw [hc1]
            have HN : Hid (((lst s).take (k + 1)).all nmC = true) := all_takeC _ _ hkl HA.out (by rw [nmC, hc1]; rfl)
            clear hc1 HW1 HW2 HW3 hw
            go_wp2_with fail
            go_roundw
            case rel => exact ⟨k + 1, by omega, by go_num, HN.out, by first | trivial | rfl⟩
            case measure => simp [intOf]; omega
          · have hc1' : smallC ((lst s).getD k 0) = false := by simpa using hc1
            rw [hc1']
            have HC1 := hidd hc1'
            clear hc1 hc1' HW1 hw
            go_wp2_with fail
            refine (within_any _ _ _ _).mono ?_
            rintro e w' ⟨rfl, hw⟩
            obtain rfl := hw.symm
            rw [HW2.out]
            by_cases hc2 : digC ((lst s).getD k 0) = true
            · rw [hc2]
              have HN : Hid (((lst s).take (k + 1)).all nmC = true) := all_takeC _ _ hkl HA.out (by rw [nmC, hc2]; simp)
              clear hc2 HW2 HW3 hw
              go_wp2_with fail
              go_roundw
              case rel => exact ⟨k + 1, by omega, by go_num, HN.out, by first | trivial | rfl⟩
              case measure => simp [intOf]; omega
            · have hc2' : digC ((lst s).getD k 0) = false := by simpa using hc2
              rw [hc2']
              have HC2 := hidd hc2'
              clear hc2 hc2' HW2 hw
              by_cases hc3 : ((s[k]'hlt).toNat : Int) = 95
              · have HN : Hid (((lst s).take (k + 1)).all nmC = true) := all_takeC _ _ hkl HA.out (by rw [nmC, ← HW3.out, decide_eq_true hc3]; simp)
                clear HW3
                go_wp2_with fail
                go_roundw
                case rel => exact ⟨k + 1, by omega, by go_num, HN.out, by first | trivial | rfl⟩
                case measure => simp [intOf]; omega
              · have HR : Hid (nmOK (lst s) = false) := nmOK_no hkl (by rw [nmC, HC1.out, HC2.out, ← HW3.out, decide_eq_false hc3]; rfl)
                clear HW3
                go_wp2_with fail
                go_ret
                rw [HR.out]
                exact ⟨rfl, rfl⟩
        · have HR : Hid (nmOK (lst s) = true) := by
            show _ = _
            have := HA.out
            rw [List.take_of_length_le (by rw [lst_len]; omega)] at this
            rw [nmOK, this, HF.out, decide_eq_true (p := 1 ≤ (lst s).length) (by omega), decide_eq_true (p := (lst s).length ≤ 30) (by omega)]; rfl
          go_wp2_with fail
          go_ret
          rw [HR.out]
          exact ⟨rfl, rfl⟩
    · have hf' : smallC ((lst s).getD 0 0) = false := by simpa using hf
      have HR : Hid (nmOK (lst s) = false) := by show _ = _; rw [nmOK, hf']; simp
      rw [hf']
      clear hf hf' HX HW hw
      go_wp2_with fail
      go_ret
      rw [HR.out]
      exact ⟨rfl, rfl⟩
  · have HR : Hid (nmOK (lst s) = false) := by
      show _ = _
      rw [nmOK, hll]
      by_cases h1 : 1 ≤ s.size
      · rw [decide_eq_false (p := s.size ≤ 30) (by omega)]; simp
      · rw [decide_eq_false h1]; simp
    have HW : Hid ((decide ((1 : Int) ≤ (s.size : Int)) && decide ((s.size : Int) ≤ 30)) = false) := by
      show _ = _
      by_cases h1 : 1 ≤ s.size
      · rw [decide_eq_false (p := (s.size : Int) ≤ 30) (by omega), Bool.and_false]
      · rw [decide_eq_false (p := (1 : Int) ≤ (s.size : Int)) (by omega), Bool.false_and]
    clear hin
    go_wp2_with fail
    refine (within_any _ _ _ _).mono ?_
    rintro e w' ⟨rfl, hw⟩
    obtain rfl := hw.symm
    rw [HW.out]
    clear HW hw
    go_wp2_with fail
    go_ret
    rw [HR.out]
    exact ⟨rfl, rfl⟩
end Go.Proofs.YtpdiaddgialanaaGreatDoor
