import Derived.Test.YtgoklapafidpkaaGreatDoorDocOKJ01
import Derived.Test.YtgoklapafidpkaaGreatDoorDocOKJ03
import Derived.Test.YtgoklapafidpkaaGreatDoorDocOKJ00
import Derived.WalkLawsBesides
import Derived.BigQuiet
import Derived.Deep.QuietTactic
namespace Go.Proofs.YtgoklapafidpkaaGreatDoor
open Go Go.RowKit
set_option linter.unusedVariables false
set_option maxRecDepth 100000

theorem get_listN (s : ByteArray) (k : Nat) (h : k < s.size) : s[k] = (lst s).getD k 0 := by
  have h' : k < (lst s).length := by rw [lst_len]; exact h
  rw [List.getD_eq_getElem?_getD, List.getElem?_eq_getElem h', Option.getD_some]
  simp [lst]
  rfl
theorem all_takeC (p : UInt8 → Bool) (l : List UInt8) {k : Nat} (hk : k < l.length) (h : (l.take k).all p = true) (hp : p (l.getD k 0) = true) : (l.take (k + 1)).all p = true := by
  rw [List.take_succ_eq_append_getElem hk, List.all_append, h]
  rw [List.getD_eq_getElem?_getD, List.getElem?_eq_getElem hk] at hp
  simpa using hp
theorem all_notC (p : UInt8 → Bool) (l : List UInt8) {k : Nat} (hk : k < l.length) (hp : p (l.getD k 0) = false) : l.all p = false := by
  rw [List.all_eq_false]
  rw [List.getD_eq_getElem?_getD, List.getElem?_eq_getElem hk] at hp
  exact ⟨l[k], List.getElem_mem hk, by simpa using hp⟩
set_option maxHeartbeats 1000000 in
theorem allSmallC_any (s : ByteArray) (w : World) (hs : s.size ≤ 1048576) :
    Calls Tryz.prog 136 #[.string s] w fun e w' => e = .returned (.bool ((lst s).all smallC)) ∧ w' = w := by
  go_enter Tryz.func136, Tryz.ntmps136
  go_wp2
  go_loop [6] (fun i => ∃ k : Nat, k ≤ s.size ∧ i = .int .i64 k ∧ ((lst s).take k).all smallC = true) (fun i => s.size - (intOf i).toNat)
  case atStart => exact ⟨0, Nat.zero_le _, rfl, rfl⟩
  case round =>
    obtain ⟨k, hk, rfl, hall⟩ := hrel
    have HA := hidd hall
    clear hall
    by_cases hlt : k < s.size
    · have hkl : k < (lst s).length := by rw [lst_len]; exact hlt
      have HG := hidd (get_listN s k hlt)
      have hb8 : ((s[k]'hlt).toNat : Int) ≤ 255 := by have := UInt8.toNat_lt (s[k]'hlt); omega
      have HW : Hid ((decide ((97 : Int) ≤ ((s[k]'hlt).toNat : Int)) && decide (((s[k]'hlt).toNat : Int) ≤ 122)) = smallC ((lst s).getD k 0)) := by show _ = _; rw [smallC, HG.out]
      by_cases hv : smallC ((lst s).getD k 0) = true
      · have HN : Hid (((lst s).take (k + 1)).all smallC = true) := all_takeC _ _ hkl HA.out hv
        go_wp2_with fail
        refine (within_any _ _ _ _).mono ?_
        rintro e w' ⟨rfl, hw⟩
        obtain rfl := hw.symm
        rw [HW.out, hv]
        clear hv
        go_wp2
        go_round
        case rel => exact ⟨k + 1, by omega, by go_num, HN.out⟩
        case measure => simp [intOf]; omega
      · have hv' : smallC ((lst s).getD k 0) = false := by simpa using hv
        have HR : Hid ((lst s).all smallC = false) := all_notC _ _ hkl hv'
        go_wp2_with fail
        refine (within_any _ _ _ _).mono ?_
        rintro e w' ⟨rfl, hw⟩
        obtain rfl := hw.symm
        rw [HW.out, hv']
        clear hv hv'
        go_wp2
        go_ret
        rw [HR.out]
        exact ⟨rfl, rfl⟩
    · have HR : Hid ((lst s).all smallC = true) := by
        have := HA.out
        rw [List.take_of_length_le (by rw [lst_len]; omega)] at this
        exact this
      go_wp2
      go_ret
      rw [HR.out]
      exact ⟨rfl, rfl⟩
theorem small_first (s : ByteArray) (h : 1 ≤ s.size) : (lst (s.extract 0 1)).all smallC = smallC ((lst s).getD 0 0) := by
  have e : lst (s.extract 0 1) = (lst s).take 1 := by simp [lst, ByteArray.data_extract]
  rw [e]
  have hl : 1 ≤ (lst s).length := by rw [lst_len]; exact h
  match hq : lst s, hl with
  | c :: t, _ => simp
set_option maxHeartbeats 2000000 in
theorem nameOK_any (s : ByteArray) (w : World) (hs : s.size ≤ 1048576) :
    Calls Tryz.prog 107 #[.string s] w fun e w' => e = .returned (.bool (nmOK (lst s))) ∧ w' = w := by
  go_enter Tryz.func107, Tryz.ntmps107
  have hll := lst_len s
  by_cases hin : 1 ≤ s.size ∧ s.size ≤ 30
  · have HW : Hid ((decide ((1 : Int) ≤ (s.size : Int)) && decide ((s.size : Int) ≤ 30)) = true) := by show _ = _; rw [decide_eq_true (by omega), decide_eq_true (by omega)]; rfl
    obtain ⟨h1, h30⟩ := hin
    go_wp2_with fail
    refine (within_any _ _ _ _).mono ?_
    rintro e w' ⟨rfl, hw⟩
    obtain rfl := hw.symm
    rw [HW.out]
    have HX : Hid ((lst (s.extract 0 1)).all smallC = smallC ((lst s).getD 0 0)) := small_first s h1
    go_wp2_with fail
    refine (allSmallC_any _ _ (by rw [ByteArray.size_extract]; omega)).mono ?_
    rintro e w' ⟨rfl, hw⟩
    obtain rfl := hw.symm
    rw [HX.out]
    by_cases hf : smallC ((lst s).getD 0 0) = true
    · rw [hf]
      have HF := hidd hf
      clear hf HX HW hw
      go_wp2_with fail
      go_loopw [17] (fun i wr => ∃ k : Nat, k ≤ s.size ∧ i = .int .i64 k ∧ ((lst s).take k).all nmC = true ∧ wr = w) (fun i _ => s.size - (intOf i).toNat)
      case atStart => exact ⟨0, Nat.zero_le _, rfl, rfl, rfl⟩
      case round =>
        obtain ⟨k, hk, rfl, hall, hww⟩ := hrel
        have hww' := hww.symm
        subst hww'
        clear hww
        have HA := hidd hall
        clear hall
        by_cases hlt : k < s.size
        · have hkl : k < (lst s).length := by rw [lst_len]; exact hlt
          have HG := hidd (get_listN s k hlt)
          have hb8 : ((s[k]'hlt).toNat : Int) ≤ 255 := by have := UInt8.toNat_lt (s[k]'hlt); omega
          have HW1 : Hid ((decide ((97 : Int) ≤ ((s[k]'hlt).toNat : Int)) && decide (((s[k]'hlt).toNat : Int) ≤ 122)) = smallC ((lst s).getD k 0)) := by show _ = _; rw [smallC, HG.out]
          have HW2 : Hid ((decide ((48 : Int) ≤ ((s[k]'hlt).toNat : Int)) && decide (((s[k]'hlt).toNat : Int) ≤ 57)) = digC ((lst s).getD k 0)) := by show _ = _; rw [digC, HG.out]
          have HW3 : Hid (decide (((s[k]'hlt).toNat : Int) = 95) = decide ((((lst s).getD k 0).toNat : Int) = 95)) := by show _ = _; rw [HG.out]
          go_wp2_with fail
          refine (within_any _ _ _ _).mono ?_
          rintro e w' ⟨rfl, hw⟩
          obtain rfl := hw.symm
          rw [HW1.out]
          by_cases hc1 : smallC ((lst s).getD k 0) = true
          · rw [hc1]
            have HN : Hid (((lst s).take (k + 1)).all nmC = true) := all_takeC _ _ hkl HA.out (by rw [nmC, hc1]; rfl)
            clear hc1 HW1 HW2 HW3 hw
            go_wp2_with fail
            go_roundw
            case rel => exact ⟨k + 1, by omega, by go_num, HN.out, by first | trivial | rfl⟩
            case measure => simp [intOf]; omega
          · have hc1' : smallC ((lst s).getD k 0) = false := by simpa using hc1
            rw [hc1']
            have HC1 := hidd hc1'
            clear hc1 hc1' HW1 hw
            go_wp2_with fail
            refine (within_any _ _ _ _).mono ?_
            rintro e w' ⟨rfl, hw⟩
            obtain rfl := hw.symm
            rw [HW2.out]
            by_cases hc2 : digC ((lst s).getD k 0) = true
            · rw [hc2]
              have HN : Hid (((lst s).take (k + 1)).all nmC = true) := all_takeC _ _ hkl HA.out (by rw [nmC, hc2]; simp)
              clear hc2 HW2 HW3 hw
              go_wp2_with fail
              go_roundw
              case rel => exact ⟨k + 1, by omega, by go_num, HN.out, by first | trivial | rfl⟩
              case measure => simp [intOf]; omega
            · have hc2' : digC ((lst s).getD k 0) = false := by simpa using hc2
              rw [hc2']
              have HC2 := hidd hc2'
              clear hc2 hc2' HW2 hw
              by_cases hc3 : ((s[k]'hlt).toNat : Int) = 95
              · have HN : Hid (((lst s).take (k + 1)).all nmC = true) := all_takeC _ _ hkl HA.out (by rw [nmC, ← HW3.out, decide_eq_true hc3]; simp)
                clear HW3
                go_wp2_with fail
                go_roundw
                case rel => exact ⟨k + 1, by omega, by go_num, HN.out, by first | trivial | rfl⟩
                case measure => simp [intOf]; omega
              · have HR : Hid (nmOK (lst s) = false) := nmOK_no hkl (by rw [nmC, HC1.out, HC2.out, ← HW3.out, decide_eq_false hc3]; rfl)
                clear HW3
                go_wp2_with fail
                go_ret
                rw [HR.out]
                exact ⟨rfl, rfl⟩
        · have HR : Hid (nmOK (lst s) = true) := by
            show _ = _
            have := HA.out
            rw [List.take_of_length_le (by rw [lst_len]; omega)] at this
            rw [nmOK, this, HF.out, decide_eq_true (p := 1 ≤ (lst s).length) (by omega), decide_eq_true (p := (lst s).length ≤ 30) (by omega)]; rfl
          go_wp2_with fail
          go_ret
          rw [HR.out]
          exact ⟨rfl, rfl⟩
    · have hf' : smallC ((lst s).getD 0 0) = false := by simpa using hf
      have HR : Hid (nmOK (lst s) = false) := by show _ = _; rw [nmOK, hf']; simp
      rw [hf']
      clear hf hf' HX HW hw
      go_wp2_with fail
      go_ret
      rw [HR.out]
      exact ⟨rfl, rfl⟩
  · have HR : Hid (nmOK (lst s) = false) := by
      show _ = _
      rw [nmOK, hll]
      by_cases h1 : 1 ≤ s.size
      · rw [decide_eq_false (p := s.size ≤ 30) (by omega)]; simp
      · rw [decide_eq_false h1]; simp
    have HW : Hid ((decide ((1 : Int) ≤ (s.size : Int)) && decide ((s.size : Int) ≤ 30)) = false) := by
      show _ = _
      by_cases h1 : 1 ≤ s.size
      · rw [decide_eq_false (p := (s.size : Int) ≤ 30) (by omega), Bool.and_false]
      · rw [decide_eq_false (p := (1 : Int) ≤ (s.size : Int)) (by omega), Bool.false_and]
    clear hin
    go_wp2_with fail
    refine (within_any _ _ _ _).mono ?_
    rintro e w' ⟨rfl, hw⟩
    obtain rfl := hw.symm
    rw [HW.out]
    clear HW hw
    go_wp2_with fail
    go_ret
    rw [HR.out]
    exact ⟨rfl, rfl⟩
set_option maxHeartbeats 4000000 in
theorem specName_any (s : ByteArray) (w : World) (hs : s.size ≤ 1048576) :
    Calls Tryz.prog 62 #[.string s] w fun e w' => e = .returned (.bool (nmOK (lst s))) ∧ w' = w := by
  have hll := lst_len s
  by_cases h1 : (s.size : Int) < 1
  · have HR : Hid (nmOK (lst s) = false) := by show _ = _; rw [nmOK, hll, decide_eq_false (p := 1 ≤ s.size) (by omega)]; simp
    go_enter Tryz.func62, Tryz.ntmps62
    go_wp2_with fail
    go_ret
    rw [HR.out]
    exact ⟨rfl, rfl⟩
  by_cases h2 : (s.size : Int) > 30
  · have HR : Hid (nmOK (lst s) = false) := by show _ = _; rw [nmOK, hll, decide_eq_false (p := s.size ≤ 30) (by omega)]; simp
    go_enter Tryz.func62, Tryz.ntmps62
    go_wp2_with fail
    go_ret
    rw [HR.out]
    exact ⟨rfl, rfl⟩
  have h0 : 0 < s.size := by omega
  have HG0 := hidd (get_listN s 0 h0)
  by_cases h3 : ((s[0]'h0).toNat : Int) < 97
  · have HR : Hid (nmOK (lst s) = false) := by show _ = _; rw [nmOK, smallC, ← HG0.out, decide_eq_false (p := (97 : Int) ≤ ((s[0]'h0).toNat : Int)) (by omega)]; simp
    clear HG0
    go_enter Tryz.func62, Tryz.ntmps62
    go_wp2_with fail
    go_ret
    rw [HR.out]
    exact ⟨rfl, rfl⟩
  by_cases h4 : ((s[0]'h0).toNat : Int) > 122
  · have HR : Hid (nmOK (lst s) = false) := by show _ = _; rw [nmOK, smallC, ← HG0.out, decide_eq_false (p := ((s[0]'h0).toNat : Int) ≤ 122) (by omega)]; simp
    clear HG0
    go_enter Tryz.func62, Tryz.ntmps62
    go_wp2_with fail
    go_ret
    rw [HR.out]
    exact ⟨rfl, rfl⟩
  have HF : Hid (smallC ((lst s).getD 0 0) = true) := by show _ = _; rw [smallC, ← HG0.out, decide_eq_true (p := (97 : Int) ≤ ((s[0]'h0).toNat : Int)) (by omega), decide_eq_true (p := ((s[0]'h0).toNat : Int) ≤ 122) (by omega)]; rfl
  clear HG0
  go_enter Tryz.func62, Tryz.ntmps62
  go_wp2_with fail
  go_loopw [3] (fun i wr => ∃ k : Nat, k ≤ s.size ∧ i = .int .i64 k ∧ ((lst s).take k).all nmC = true ∧ wr = w) (fun i _ => s.size - (intOf i).toNat)
  case atStart => exact ⟨0, Nat.zero_le _, rfl, rfl, rfl⟩
  case round =>
    obtain ⟨k, hk, rfl, hall, hww⟩ := hrel
    have hww' := hww.symm
    subst hww'
    clear hww h3 h4
    have HA := hidd hall
    clear hall
    by_cases hlt : k < s.size
    · have hkz : (k : Int) < (s.size : Int) := by omega
      have hkl : k < (lst s).length := by rw [lst_len]; exact hlt
      have HG := hidd (get_listN s k hlt)
      obtain ⟨z, hz⟩ : ∃ z : Int, ((s[k]'hlt).toNat : Int) = z := ⟨_, rfl⟩
      have HZ : Hid ((((lst s).getD k 0).toNat : Int) = z) := by show _ = _; rw [← HG.out]; exact hz
      have HNo : Hid (∀ b : Bool, nmC ((lst s).getD k 0) = b → b = (decide (97 ≤ z) && decide (z ≤ 122) || (decide (48 ≤ z) && decide (z ≤ 57)) || decide (z = 95))) := fun b hb => by rw [← hb, nmC, smallC, digC, HZ.out]
      clear HG
      have go1 : (97 ≤ z ∧ z ≤ 122) ∨ (48 ≤ z ∧ z ≤ 57) ∨ z = 95 ∨ (nmC ((lst s).getD k 0) = false) := by
        by_cases q1 : 97 ≤ z ∧ z ≤ 122
        · exact Or.inl q1
        by_cases q2 : 48 ≤ z ∧ z ≤ 57
        · exact Or.inr (Or.inl q2)
        by_cases q3 : z = 95
        · exact Or.inr (Or.inr (Or.inl q3))
        refine Or.inr (Or.inr (Or.inr ?_))
        rw [HNo.out _ rfl]
        simp only [Bool.or_eq_false_iff, Bool.and_eq_false_iff, decide_eq_false_iff_not]
        omega
      by_cases hok : nmC ((lst s).getD k 0) = true
      · have HN : Hid (((lst s).take (k + 1)).all nmC = true) := all_takeC _ _ hkl HA.out hok
        have hz3 : (97 ≤ z ∧ z ≤ 122) ∨ (48 ≤ z ∧ z ≤ 57) ∨ z = 95 := by
          rcases go1 with h | h | h | h
          · exact Or.inl h
          · exact Or.inr (Or.inl h)
          · exact Or.inr (Or.inr h)
          · rw [h] at hok; cases hok
        clear hok go1 HNo HZ
        rcases hz3 with ⟨q1, q2⟩ | ⟨q1, q2⟩ | q1
        all_goals
          go_wp2_with fail
          go_roundw
          case rel => exact ⟨k + 1, by omega, by go_num, HN.out, by first | trivial | rfl⟩
          case measure => simp [intOf]; omega
      · have HR : Hid (nmOK (lst s) = false) := nmOK_no hkl (by simpa using hok)
        have hz3 : ¬ (97 ≤ z ∧ z ≤ 122) ∧ ¬ (48 ≤ z ∧ z ≤ 57) ∧ z ≠ 95 := by
          have hf : nmC ((lst s).getD k 0) = false := by simpa using hok
          have := HNo.out _ hf
          refine ⟨fun h => ?_, fun h => ?_, fun h => ?_⟩
          · rw [decide_eq_true h.1, decide_eq_true h.2] at this; simp at this
          · rw [decide_eq_true h.1, decide_eq_true h.2] at this; simp at this
          · rw [decide_eq_true h] at this; simp at this
        clear hok go1 HNo HZ
        obtain ⟨q1, q2, q3⟩ := hz3
        by_cases p1 : z < 97
        · by_cases p2 : z < 48
          · go_wp2_with fail
            go_ret
            rw [HR.out]
            exact ⟨rfl, rfl⟩
          · have p3 : z > 57 := by omega
            go_wp2_with fail
            go_ret
            rw [HR.out]
            exact ⟨rfl, rfl⟩
        · have p3 : z > 122 := by omega
          have p4 : ¬ z < 48 := by omega
          have p5 : z > 57 := by omega
          go_wp2_with fail
          go_ret
          rw [HR.out]
          exact ⟨rfl, rfl⟩
    · have hkz : ¬ (k : Int) < (s.size : Int) := by omega
      have HR : Hid (nmOK (lst s) = true) := by
        show _ = _
        have := HA.out
        rw [List.take_of_length_le (by rw [lst_len]; omega)] at this
        rw [nmOK, this, HF.out, decide_eq_true (p := 1 ≤ (lst s).length) (by omega), decide_eq_true (p := (lst s).length ≤ 30) (by omega)]; rfl
      go_wp2_with fail
      go_ret
      rw [HR.out]
      exact ⟨rfl, rfl⟩
end Go.Proofs.YtgoklapafidpkaaGreatDoor

namespace Go.Proofs.YtgoklapafidpkaaGreatDoor
open Go Go.RowKit
set_option linter.unusedVariables false
set_option maxRecDepth 100000

theorem txCount_any (a : Option Addr) (n c : Nat) (w : World) (hn : n ≤ 1048576) : Calls Tryz.prog 110 #[.slice a n c] w fun e w' => e = .returned (.int .i64 (n : Int)) ∧ w' = w := by
  go_enter Tryz.func110, Tryz.ntmps110
  go_wp2_with fail
  go_ret
  exact ⟨rfl, rfl⟩
theorem nuCount_any (a : Option Addr) (n c : Nat) (w : World) (hn : n ≤ 1048576) : Calls Tryz.prog 113 #[.slice a n c] w fun e w' => e = .returned (.int .i64 (n : Int)) ∧ w' = w := by
  go_enter Tryz.func113, Tryz.ntmps113
  go_wp2_with fail
  go_ret
  exact ⟨rfl, rfl⟩
set_option maxHeartbeats 2000000 in
theorem nuStor_any (a : Option Addr) (c : Nat) (l : List Int) (w : World) (hn : l.length ≤ 1048576) (h : HoldZ w a l) : Calls Tryz.prog 114 #[.slice a l.length c] w fun e w' => e = .returned (.bool (l.all nuOK)) ∧ w' = w := by
  have HH := hidd h
  clear h
  go_enter Tryz.func114, Tryz.ntmps114
  go_wp2_with fail
  go_loopw [7] (fun kv wr => ∃ k : Nat, k ≤ l.length ∧ kv = .int .i64 (k : Int) ∧ (l.take k).all nuOK = true ∧ wr = w) (fun kv _ => l.length - (intOf kv).toNat)
  case atStart => exact ⟨0, Nat.zero_le _, rfl, by simp, rfl⟩
  case round =>
    obtain ⟨k, hk, rfl, hal, hww⟩ := hrel
    have hww' := hww.symm
    subst hww'
    clear hww
    have HAl := hidd hal
    clear hal
    by_cases hkt : k < l.length
    · have hktz : (k : Int) < (l.length : Int) := by omega
      obtain ⟨bt, ot, rfl, hbt, hct⟩ := HH.out.resolve_left (fun e => by rw [e] at hkt; simp at hkt)
      have t1 := hct k hkt
      obtain ⟨z, hz⟩ : ∃ z, l.getD k 0 = z := ⟨_, rfl⟩
      rw [hz] at t1
      have Hz := hidd hz
      clear hz hct
      have HW : Hid (Calls Tryz.prog 70 #[.int .i64 z, .int .i64 (-1000000000000), .int .i64 1000000000000] w fun e w' => e = .returned (.bool (nuOK z)) ∧ w' = w) := (within_any z (-1000000000000) 1000000000000 w).mono (fun e w' h => ⟨by rw [h.1, nuOK, Bool.decide_and], h.2⟩)
      go_wp2_with fail
      refine HW.out.mono ?_
      rintro e w' ⟨rfl, hw'⟩
      have hw2 := hw'.symm
      subst hw2
      clear hw'
      dsimp only
      cases hnz : nuOK z with
      | false =>
        have HO : Hid (l.all nuOK = false) := all_not nuOK l 0 hkt (by rw [Hz.out]; exact hnz)
        clear HW
        go_wp2_with fail
        go_ret
        exact ⟨by rw [HO.out]; rfl, rfl⟩
      | true =>
        have HA2 := hidd (all_take nuOK l 0 hkt HAl.out (by rw [Hz.out]; exact hnz))
        clear HW
        go_wp2_with fail
        go_roundw
        case rel => exact ⟨k + 1, by omega, by go_num, HA2.out, by first | trivial | rfl⟩
        case measure => simp [intOf]; omega
    · have hktz : ¬ (k : Int) < (l.length : Int) := by omega
      have HAx : Hid (l.all nuOK = true) := by show _ = _; have := HAl.out; rwa [show k = l.length by omega, List.take_length] at this
      go_wp2_with fail
      go_ret
      exact ⟨by rw [HAx.out]; rfl, rfl⟩
set_option maxHeartbeats 2000000 in
theorem implId_any (s : ByteArray) (w : World) (hs : s.size ≤ 1048576) :
    Calls Tryz.prog 72 #[.string s] w fun e w' => e = .returned (.bool (idV (lst s))) ∧ w' = w := by
  go_enter Tryz.func72, Tryz.ntmps72
  have hll := lst_len s
  by_cases hin : 1 ≤ s.size ∧ s.size ≤ 30
  · have HW : Hid ((decide ((1 : Int) ≤ (s.size : Int)) && decide ((s.size : Int) ≤ 30)) = true) := by show _ = _; rw [decide_eq_true (by omega), decide_eq_true (by omega)]; rfl
    obtain ⟨h1, h30⟩ := hin
    have HI : Hid (idV (lst s) = (lst s).all idC) := by show _ = _; rw [idV, decide_eq_true (by omega), decide_eq_true (by omega)]; rfl
    go_wp2_with fail
    refine (within_any _ _ _ _).mono ?_
    rintro e w' ⟨rfl, hw⟩
    obtain rfl := hw.symm
    rw [HW.out]
    clear HW hw
    go_wp2_with fail
    go_loopw [10] (fun i wr => ∃ k : Nat, k ≤ s.size ∧ i = .int .i64 k ∧ ((lst s).take k).all idC = true ∧ wr = w) (fun i _ => s.size - (intOf i).toNat)
    case atStart => exact ⟨0, Nat.zero_le _, rfl, rfl, rfl⟩
    case round =>
      obtain ⟨k, hk, rfl, hall, hww⟩ := hrel
      have hww' := hww.symm
      subst hww'
      clear hww
      have HA := hidd hall
      clear hall
      by_cases hlt : k < s.size
      · have hkl : k < (lst s).length := by rw [lst_len]; exact hlt
        have HG := hidd (get_listN s k hlt)
        have hb8 : ((s[k]'hlt).toNat : Int) ≤ 255 := by have := UInt8.toNat_lt (s[k]'hlt); omega
        have HW1 : Hid ((decide ((33 : Int) ≤ ((s[k]'hlt).toNat : Int)) && decide (((s[k]'hlt).toNat : Int) ≤ 126)) = idC ((lst s).getD k 0)) := by show _ = _; rw [idC, HG.out]
        go_wp2_with fail
        refine (within_any _ _ _ _).mono ?_
        rintro e w' ⟨rfl, hw⟩
        obtain rfl := hw.symm
        rw [HW1.out]
        cases hc1 : idC ((lst s).getD k 0) with
        | true =>
          have HN : Hid (((lst s).take (k + 1)).all idC = true) := all_takeC _ _ hkl HA.out hc1
          clear hc1 HW1 hw
          go_wp2_with fail
          go_roundw
          case rel => exact ⟨k + 1, by omega, by go_num, HN.out, by first | trivial | rfl⟩
          case measure => simp [intOf]; omega
        | false =>
          have HR : Hid ((lst s).all idC = false) := all_notC _ _ hkl hc1
          clear hc1 HW1 hw
          go_wp2_with fail
          go_ret
          rw [HI.out, HR.out]
          exact ⟨rfl, rfl⟩
      · have HR : Hid ((lst s).all idC = true) := by
          have := HA.out
          rw [List.take_of_length_le (by rw [lst_len]; omega)] at this
          exact this
        go_wp2_with fail
        go_ret
        rw [HI.out, HR.out]
        exact ⟨rfl, rfl⟩
  · have HW : Hid ((decide ((1 : Int) ≤ (s.size : Int)) && decide ((s.size : Int) ≤ 30)) = false) := by
      show _ = _
      by_cases h1 : 1 ≤ s.size
      · rw [decide_eq_false (p := (s.size : Int) ≤ 30) (by omega), Bool.and_false]
      · rw [decide_eq_false (p := (1 : Int) ≤ (s.size : Int)) (by omega), Bool.false_and]
    have HI : Hid (idV (lst s) = false) := by
      show _ = _
      rw [idV]
      by_cases h1 : 1 ≤ s.size
      · rw [decide_eq_false (p := (lst s).length ≤ 30) (by omega)]; simp
      · rw [decide_eq_false (p := 1 ≤ (lst s).length) (by omega)]; simp
    clear hin
    go_wp2_with fail
    refine (within_any _ _ _ _).mono ?_
    rintro e w' ⟨rfl, hw⟩
    obtain rfl := hw.symm
    rw [HW.out]
    clear HW hw
    go_wp2_with fail
    go_ret
    rw [HI.out]
    exact ⟨rfl, rfl⟩
set_option maxHeartbeats 4000000 in
theorem bodySize_any (id : List UInt8) (a : Option Addr) (cap : Nat) (V : List Vl) (w : World) (hn : V.length ≤ 1048576) (hA : ∀ i, (V.getD i vl0).1.length ≤ 1048576 ∧ (V.getD i vl0).2.1.length ≤ 1048576 ∧ (V.getD i vl0).2.2.length ≤ 1048576) (hB : bodyV V ≤ 1048576) (hS : HoldV w a V) :
    Calls Tryz.prog 73 #[.agg #[.string ⟨id.toArray⟩, .slice a V.length cap]] w fun e w' => e = .returned (.int .i64 (bodyV V : Int)) ∧ Below w.heap.size w w' := by
  have HS := hidd hS
  have HA := hidd hA
  clear hS hA
  have HBa := hidd ((Below.refl w.heap.size w).alloc (Nat.le_refl _) (.cells #[.string ⟨id.toArray⟩, .slice a V.length cap] 37))
  go_enter Tryz.func73, Tryz.ntmps73
  go_wp2_with fail
  obtain ⟨wa, hwa⟩ : ∃ wa, w.alloc (.cells #[.string ⟨id.toArray⟩, .slice a V.length cap] 37) = wa := ⟨_, rfl⟩
  rw [hwa] at HBa
  try rw [hwa]
  clear hwa
  go_loopw [3, 11] (fun sv iv wr => ∃ k : Nat, k ≤ V.length ∧ iv = .int .i64 (k : Int) ∧ sv = .int .i64 (bodyV (V.take k) : Int) ∧ Below wa.heap.size wa wr) (fun _ iv _ => V.length - (intOf iv).toNat)
  case atStart => exact ⟨0, Nat.zero_le _, rfl, by simp [bodyV], Below.refl _ _⟩
  case round =>
    obtain ⟨k, hk, rfl, rfl, hbel⟩ := hrel
    have HB := hidd hbel
    clear hbel
    by_cases hlt : k < V.length
    · have hkz : (k : Int) < (V.length : Int) := by omega
      obtain ⟨b, off, rfl, hbl, hc⟩ := ((HS.out.below HBa.out).below HB.out).resolve_left (fun h => by rw [h] at hlt; simp at hlt)
      obtain ⟨x0, ⟨at_, ct, x1, hTx⟩, an, cn, x2, hZ⟩ := hc k hlt
      clear hc hZ
      have hal := HA.out k
      have HT := hidd (bodyV_take V hlt)
      have hle := bodyV_take_le V (k + 1)
      rw [HT.out] at hle
      obtain ⟨Y, hY⟩ : ∃ Y, bodyV (V.take k) = Y := ⟨_, rfl⟩
      rw [hY] at HT hle
      rw [hY]
      clear hY
      generalize V.getD k vl0 = s at *
      obtain ⟨f, tx, nz⟩ := s
      dsimp only at x0 x1 x2 hTx hal HT hle
      have HTx := hidd hTx
      clear hTx
      go_upto_region 5 with fail
      obtain ⟨wb, hwb⟩ : ∃ wb, wr.alloc (.cells #[.string ⟨f.toArray⟩, .slice at_ tx.length ct, .slice an nz.length cn] 60) = wb := ⟨_, rfl⟩
      have HBb := hidd ((Below.refl wr.heap.size wr).alloc (Nat.le_refl _) (.cells #[.string ⟨f.toArray⟩, .slice at_ tx.length ct, .slice an nz.length cn] 60))
      have HXb := hidd (heap_alloc_new wr (.cells #[.string ⟨f.toArray⟩, .slice at_ tx.length ct, .slice an nz.length cn] 60))
      rw [hwb] at HBb HXb
      try rw [hwb]
      clear hwb
      have v1 : wb.cell? ⟨wr.heap.size, 1, none⟩ = some (.slice at_ tx.length ct) := blkc HXb.out 1
      have HTb := hidd (HTx.out.below HBb.out)
      clear HTx
      go_wp2_with fail
      go_loopw [3, 18] (fun sv jv wz => ∃ j : Nat, j ≤ tx.length ∧ jv = .int .i64 (j : Int) ∧ sv = .int .i64 ((Y + txSum (tx.take j) : Nat) : Int) ∧ wz = wb) (fun _ jv _ => tx.length - (intOf jv).toNat)
      case atStart => exact ⟨0, Nat.zero_le _, rfl, by simp [txSum], rfl⟩
      case round =>
        obtain ⟨j, hj, rfl, rfl, hww⟩ := hrel
        have hww' := hww.symm
        subst hww'
        clear hww
        by_cases hjt : j < tx.length
        · have hjz : (j : Int) < (tx.length : Int) := by omega
          obtain ⟨bt, ot, rfl, hbt, hct⟩ := HTb.out.resolve_left (fun e => by rw [e] at hjt; simp at hjt)
          have t1 := hct j hjt
          clear hct
          have HT2 := hidd (txSum_take tx hjt)
          have hle2 := txSum_take_le tx (j + 1)
          rw [HT2.out] at hle2
          generalize tx.getD j [] = t at *
          generalize txSum (tx.take j) = Z at *
          have hfl : (⟨t.toArray⟩ : ByteArray).size = t.length := by rw [Lib.size_eq]
          go_wp2_with fail
          go_roundw
          case rel => exact ⟨j + 1, by omega, by go_num, by rw [HT2.out]; go_num, by first | trivial | rfl⟩
          case measure => simp [intOf]; omega
        · have hjz : ¬ (j : Int) < (tx.length : Int) := by omega
          have HE : Hid (Y + txSum (tx.take j) = bodyV (V.take (k + 1))) := by show _ = _; rw [HT.out, show j = tx.length by omega, List.take_length]
          generalize Y + txSum (tx.take j) = Z at *
          go_wp2_with fail
          go_roundw
          case rel => exact ⟨k + 1, by omega, by go_num, by rw [HE.out], HB.out.trans (HBb.out.mono HB.out.size)⟩
          case measure => simp [intOf]; omega
    · have hkz : ¬ (k : Int) < (V.length : Int) := by omega
      have HE : Hid (bodyV (V.take k) = bodyV V) := by show _ = _; rw [show k = V.length by omega, List.take_length]
      generalize bodyV (V.take k) = Z at *
      go_wp2_with fail
      go_ret
      rw [HE.out]
      exact ⟨rfl, HBa.out.trans (HB.out.mono HBa.out.size)⟩
/-- What a value holds, as an interface. -/
def ctV (at_ an : Option Addr) (n ct m cn : Nat) : Value := if m = 0 ∧ 0 < n then .iface 146 (.slice at_ n ct) else if n = 0 ∧ 0 < m then .iface 147 (.slice an m cn) else .nilIface
set_option maxHeartbeats 4000000 in
theorem content_any (f : List UInt8) (at_ an : Option Addr) (n ct m cn : Nat) (w : World) (hn : n ≤ 1048576) (hm : m ≤ 1048576) :
    Calls Tryz.prog 75 #[.agg #[.string ⟨f.toArray⟩, .slice at_ n ct, .slice an m cn]] w fun e w' => e = .returned (ctV at_ an n ct m cn) ∧ Below w.heap.size w w' := by
  have HBa := hidd ((Below.refl w.heap.size w).alloc (Nat.le_refl _) (.cells #[.string ⟨f.toArray⟩, .slice at_ n ct, .slice an m cn] 60))
  go_enter Tryz.func75, Tryz.ntmps75
  by_cases hm0 : m = 0
  · by_cases hn0 : n = 0
    · have HE : Hid (ctV at_ an n ct m cn = .nilIface) := by show _ = _; rw [ctV, if_neg (by omega), if_neg (by omega)]
      subst hm0 hn0
      go_wp2_with fail
      go_ret
      exact ⟨HE.out.symm ▸ rfl, HBa.out⟩
    · have HE : Hid (ctV at_ an n ct m cn = .iface 146 (.slice at_ n ct)) := by show _ = _; rw [ctV, if_pos (by omega)]
      subst hm0
      have hn1 : (0 : Int) < (n : Int) := by omega
      go_wp2_with fail
      go_ret
      exact ⟨HE.out.symm ▸ rfl, HBa.out⟩
  · by_cases hn0 : n = 0
    · have HE : Hid (ctV at_ an n ct m cn = .iface 147 (.slice an m cn)) := by show _ = _; rw [ctV, if_neg (by omega), if_pos (by omega)]
      subst hn0
      have hm1 : (0 : Int) < (m : Int) := by omega
      have hm2 : ¬ (m : Int) = 0 := by omega
      go_wp2_with fail
      go_ret
      exact ⟨HE.out.symm ▸ rfl, HBa.out⟩
    · have HE : Hid (ctV at_ an n ct m cn = .nilIface) := by show _ = _; rw [ctV, if_neg (by omega), if_neg (by omega)]
      have hm2 : ¬ (m : Int) = 0 := by omega
      have hn2 : ¬ (n : Int) = 0 := by omega
      go_wp2_with fail
      go_ret
      exact ⟨HE.out.symm ▸ rfl, HBa.out⟩
end Go.Proofs.YtgoklapafidpkaaGreatDoor

namespace Go.Proofs.YtgoklapafidpkaaGreatDoor
open Go Go.RowKit
set_option linter.unusedVariables false

/-- A slice that holds these texts, wherever it lies. -/
def HoldS (w : World) (a : Option Addr) (l : List (List UInt8)) : Prop :=
  l = [] ∨ ∃ b off, a = some ⟨b, off, none⟩ ∧ b < w.heap.size ∧ ∀ t, t < l.length → w.cell? ⟨b, off + t, none⟩ = some (.string (bs (l.getD t [])))
theorem HoldS.below {w w' : World} {a : Option Addr} {l : List (List UInt8)} (h : HoldS w a l) (hb : Below w.heap.size w w') : HoldS w' a l := by
  rcases h with h | ⟨b, off, h1, h2, h3⟩
  · exact Or.inl h
  · exact Or.inr ⟨b, off, h1, Nat.lt_of_lt_of_le h2 hb.size, fun t ht => (hb.cell (p := ⟨b, off + t, none⟩) h2).trans (h3 t ht)⟩
/-- A slice of pairs of texts. -/
def HoldY (w : World) (a : Option Addr) (l : List (List UInt8 × List UInt8)) : Prop :=
  l = [] ∨ ∃ b off, a = some ⟨b, off, none⟩ ∧ b < w.heap.size ∧ ∀ t, t < l.length → w.cell? ⟨b, off + t * 2, none⟩ = some (.string (bs (l.getD t ([], [])).1)) ∧ w.cell? ⟨b, off + t * 2 + 1, none⟩ = some (.string (bs (l.getD t ([], [])).2))
theorem HoldY.below {w w' : World} {a : Option Addr} {l : List (List UInt8 × List UInt8)} (h : HoldY w a l) (hb : Below w.heap.size w w') : HoldY w' a l := by
  rcases h with h | ⟨b, off, h1, h2, h3⟩
  · exact Or.inl h
  · exact Or.inr ⟨b, off, h1, Nat.lt_of_lt_of_le h2 hb.size, fun t ht => ⟨(hb.cell (p := ⟨b, off + t * 2, none⟩) h2).trans (h3 t ht).1, (hb.cell (p := ⟨b, off + t * 2 + 1, none⟩) h2).trans (h3 t ht).2⟩⟩
def szS (l : List (List UInt8)) : Prop := ∀ t, t < l.length → (bs (l.getD t [])).size ≤ 1048576
def szY (l : List (List UInt8 × List UInt8)) : Prop := ∀ t, t < l.length → (bs (l.getD t ([], [])).1).size ≤ 1048576 ∧ (bs (l.getD t ([], [])).2).size ≤ 1048576
end Go.Proofs.YtgoklapafidpkaaGreatDoor
