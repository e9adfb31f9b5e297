import Derived.Test.YtefhmbnhhkgifaaHpA
import Derived.Test.YtefhmbnhhkgifaaStemP
import Derived.Test.YtefhmbnhhkgifaaWithin
import Derived.Deep.QuietTactic
import Derived.BigQuiet
namespace Go.Proofs.Ytefhmbnhhkgifaa
open Go Go.RowKit
set_option linter.unusedVariables false
set_option linter.unusedSimpArgs false
set_option maxRecDepth 100000

def idC (c : UInt8) : Bool := decide (33 ≤ (c.toNat : Int)) && decide ((c.toNat : Int) ≤ 126)
def idV (id : List UInt8) : Bool := decide (1 ≤ id.length) && decide (id.length ≤ 30) && id.all idC
theorem get_listN (s : ByteArray) (k : Nat) (h : k < s.size) : s[k] = (lst s).getD k 0 := by
  have h' : k < (lst s).length := by rw [lst_len]; exact h
  rw [List.getD_eq_getElem?_getD, List.getElem?_eq_getElem h', Option.getD_some]
  simp [lst]
  rfl
theorem all_takeC (p : UInt8 → Bool) (l : List UInt8) {k : Nat} (hk : k < l.length) (h : (l.take k).all p = true) (hp : p (l.getD k 0) = true) : (l.take (k + 1)).all p = true := by
  rw [List.take_succ_eq_append_getElem hk, List.all_append, h]
  rw [List.getD_eq_getElem?_getD, List.getElem?_eq_getElem hk] at hp
  simpa using hp
theorem all_notC (p : UInt8 → Bool) (l : List UInt8) {k : Nat} (hk : k < l.length) (hp : p (l.getD k 0) = false) : l.all p = false := by
  rw [List.all_eq_false]
  rw [List.getD_eq_getElem?_getD, List.getElem?_eq_getElem hk] at hp
  exact ⟨l[k], List.getElem_mem hk, by simpa using hp⟩
set_option maxHeartbeats 2000000 in
theorem implId_any (s : ByteArray) (w : World) (hs : s.size ≤ 1048576) :
    Calls Try.prog 34 #[.string s] w fun e w' => e = .returned (.bool (idV (lst s))) ∧ w' = w := by
  go_enter Try.func34, Try.ntmps34
  have hll := lst_len s
  by_cases hin : 1 ≤ s.size ∧ s.size ≤ 30
  · have HW : Hid ((decide ((1 : Int) ≤ (s.size : Int)) && decide ((s.size : Int) ≤ 30)) = true) := by show _ = _; rw [decide_eq_true (by omega), decide_eq_true (by omega)]; rfl
    obtain ⟨h1, h30⟩ := hin
    have HI : Hid (idV (lst s) = (lst s).all idC) := by show _ = _; rw [idV, decide_eq_true (by omega), decide_eq_true (by omega)]; rfl
    go_wp2_with fail
    refine (within_any _ _ _ _).mono ?_
    rintro e w' ⟨rfl, hw⟩
    obtain rfl := hw.symm
    rw [HW.out]
    clear HW hw
    go_wp2_with fail
    go_loopw [10] (fun i wr => ∃ k : Nat, k ≤ s.size ∧ i = .int .i64 k ∧ ((lst s).take k).all idC = true ∧ wr = w) (fun i _ => s.size - (intOf i).toNat)
    case atStart => exact ⟨0, Nat.zero_le _, rfl, rfl, rfl⟩
    case round =>
      obtain ⟨k, hk, rfl, hall, hww⟩ := hrel
      have hww' := hww.symm
      subst hww'
      clear hww
      have HA := hidd hall
      clear hall
      by_cases hlt : k < s.size
      · have hkl : k < (lst s).length := by rw [lst_len]; exact hlt
        have HG := hidd (get_listN s k hlt)
        have hb8 : ((s[k]'hlt).toNat : Int) ≤ 255 := by have := UInt8.toNat_lt (s[k]'hlt); omega
        have HW1 : Hid ((decide ((33 : Int) ≤ ((s[k]'hlt).toNat : Int)) && decide (((s[k]'hlt).toNat : Int) ≤ 126)) = idC ((lst s).getD k 0)) := by show _ = _; rw [idC, HG.out]
        go_wp2_with fail
        refine (within_any _ _ _ _).mono ?_
        rintro e w' ⟨rfl, hw⟩
        obtain rfl := hw.symm
        rw [HW1.out]
        cases hc1 : idC ((lst s).getD k 0) with
        | true =>
          have HN : Hid (((lst s).take (k + 1)).all idC = true) := all_takeC _ _ hkl HA.out hc1
          clear hc1 HW1 hw
          go_wp2_with fail
          go_roundw
          case rel => exact ⟨k + 1, by omega, by go_num, HN.out, by first | trivial | rfl⟩
          case measure => simp [intOf]; omega
        | false =>
          have HR : Hid ((lst s).all idC = false) := all_notC _ _ hkl hc1
          clear hc1 HW1 hw
          go_wp2_with fail
          go_ret
          rw [HI.out, HR.out]
          exact ⟨rfl, rfl⟩
      · have HR : Hid ((lst s).all idC = true) := by
          have := HA.out
          rw [List.take_of_length_le (by rw [lst_len]; omega)] at this
          exact this
        go_wp2_with fail
        go_ret
        rw [HI.out, HR.out]
        exact ⟨rfl, rfl⟩
  · have HW : Hid ((decide ((1 : Int) ≤ (s.size : Int)) && decide ((s.size : Int) ≤ 30)) = false) := by
      show _ = _
      by_cases h1 : 1 ≤ s.size
      · rw [decide_eq_false (p := (s.size : Int) ≤ 30) (by omega), Bool.and_false]
      · rw [decide_eq_false (p := (1 : Int) ≤ (s.size : Int)) (by omega), Bool.false_and]
    have HI : Hid (idV (lst s) = false) := by
      show _ = _
      rw [idV]
      by_cases h1 : 1 ≤ s.size
      · rw [decide_eq_false (p := (lst s).length ≤ 30) (by omega)]; simp
      · rw [decide_eq_false (p := 1 ≤ (lst s).length) (by omega)]; simp
    clear hin
    go_wp2_with fail
    refine (within_any _ _ _ _).mono ?_
    rintro e w' ⟨rfl, hw⟩
    obtain rfl := hw.symm
    rw [HW.out]
    clear HW hw
    go_wp2_with fail
    go_ret
    rw [HI.out]
    exact ⟨rfl, rfl⟩
set_option maxHeartbeats 4000000 in
theorem specId_any (s : ByteArray) (w : World) (hs : s.size ≤ 1048576) :
    Calls Try.prog 25 #[.string s] w fun e w' => e = .returned (.bool (idV (lst s))) ∧ w' = w := by
  have hll := lst_len s
  go_enter Try.func25, Try.ntmps25
  go_wp2_with fail
  go_loopw [3] (fun i wr => ∃ k : Nat, k ≤ s.size ∧ i = .int .i64 k ∧ ((lst s).take k).all idC = true ∧ wr = w) (fun i _ => s.size - (intOf i).toNat)
  case atStart => exact ⟨0, Nat.zero_le _, rfl, rfl, rfl⟩
  case round =>
    obtain ⟨k, hk, rfl, hall, hww⟩ := hrel
    have hww' := hww.symm
    subst hww'
    clear hww
    have HA := hidd hall
    clear hall
    by_cases hlt : k < s.size
    · have hkz : (k : Int) < (s.size : Int) := by omega
      have hkl : k < (lst s).length := by rw [lst_len]; exact hlt
      have HG := hidd (get_listN s k hlt)
      obtain ⟨z, hz⟩ : ∃ z : Int, ((s[k]'hlt).toNat : Int) = z := ⟨_, rfl⟩
      have HZ : Hid (idC ((lst s).getD k 0) = (decide (33 ≤ z) && decide (z ≤ 126))) := by show _ = _; rw [idC, ← HG.out, hz]
      clear HG
      by_cases h1 : z < 33
      · have HR : Hid (idV (lst s) = false) := by
          show _ = _
          rw [idV, all_notC idC _ hkl (by rw [HZ.out, decide_eq_false (p := (33 : Int) ≤ z) (by omega)]; rfl)]
          simp
        clear HZ
        go_wp2_with fail
        go_ret
        rw [HR.out]
        exact ⟨rfl, rfl⟩
      by_cases h2 : z > 126
      · have HR : Hid (idV (lst s) = false) := by
          show _ = _
          rw [idV, all_notC idC _ hkl (by rw [HZ.out, decide_eq_false (p := z ≤ 126) (by omega)]; simp)]
          simp
        clear HZ
        go_wp2_with fail
        go_ret
        rw [HR.out]
        exact ⟨rfl, rfl⟩
      have HN : Hid (((lst s).take (k + 1)).all idC = true) := all_takeC _ _ hkl HA.out (by rw [HZ.out, decide_eq_true (p := (33 : Int) ≤ z) (by omega), decide_eq_true (p := z ≤ 126) (by omega)]; rfl)
      clear HZ
      go_wp2_with fail
      go_roundw
      case rel => exact ⟨k + 1, by omega, by go_num, HN.out, by first | trivial | rfl⟩
      case measure => simp [intOf]; omega
    · have hkz : ¬ (k : Int) < (s.size : Int) := by omega
      have HR : Hid (idV (lst s) = (decide (1 ≤ s.size) && decide (s.size ≤ 30))) := by
        show _ = _
        have := HA.out
        rw [List.take_of_length_le (by rw [lst_len]; omega)] at this
        rw [idV, this, hll, Bool.and_true]
      by_cases h1 : 1 ≤ s.size
      · by_cases h2 : s.size ≤ 30
        · have z1 : (1 : Int) ≤ (s.size : Int) := by omega
          have z2 : (s.size : Int) ≤ 30 := by omega
          rw [decide_eq_true h1, decide_eq_true h2] at HR
          go_wp2_with fail
          go_ret
          rw [HR.out]
          exact ⟨rfl, rfl⟩
        · have z1 : (1 : Int) ≤ (s.size : Int) := by omega
          have z2 : ¬ (s.size : Int) ≤ 30 := by omega
          rw [decide_eq_true h1, decide_eq_false h2] at HR
          go_wp2_with fail
          go_ret
          rw [HR.out]
          exact ⟨rfl, rfl⟩
      · have z1 : ¬ (1 : Int) ≤ (s.size : Int) := by omega
        rw [decide_eq_false h1, Bool.false_and] at HR
        go_wp2_with fail
        go_ret
        rw [HR.out]
        exact ⟨rfl, rfl⟩
end Go.Proofs.Ytefhmbnhhkgifaa
