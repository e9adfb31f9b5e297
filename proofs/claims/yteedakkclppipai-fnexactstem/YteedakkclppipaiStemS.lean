import Derived.Test.YteedakkclppipaiProg
import Derived.Test.YteedakkclppipaiStemP
import Derived.Test.YteedakkclppipaiAid
import Derived.WalkLawsBesides
import Derived.Deep.QuietTactic
import Derived.BigQuiet
import Derived.Deep.DeepCutAuto
namespace Go.Proofs.Yteedakkclppipai
open Go Go.RowKit
set_option linter.unusedVariables false

def vz (z : Int) : Bool := z == 97 || z == 101 || z == 105 || z == 111 || z == 117 || z == 121
theorem vz_vow (c : UInt8) : vz (c.toNat : Int) = vow c := by
  have key : ∀ k : Nat, k < 256 → (((c.toNat : Int) == (k : Int)) = (c == UInt8.ofNat k)) := by
    intro k hk
    rw [Bool.eq_iff_iff, beq_iff_eq, beq_iff_eq]
    constructor
    · intro h
      have h' : c.toNat = k := by omega
      rw [← h', UInt8.ofNat_toNat]
    · intro h
      subst h
      rw [UInt8.toNat_ofNat']
      omega
  unfold vz vow
  have k1 := key 97 (by decide)
  have k2 := key 101 (by decide)
  have k3 := key 105 (by decide)
  have k4 := key 111 (by decide)
  have k5 := key 117 (by decide)
  have k6 := key 121 (by decide)
  rw [show (97 : Int) = ((97 : Nat) : Int) from rfl, show (101 : Int) = ((101 : Nat) : Int) from rfl, show (105 : Int) = ((105 : Nat) : Int) from rfl, show (111 : Int) = ((111 : Nat) : Int) from rfl, show (117 : Int) = ((117 : Nat) : Int) from rfl, show (121 : Int) = ((121 : Nat) : Int) from rfl, k1, k2, k3, k4, k5, k6]
  rfl

set_option maxHeartbeats 400000 in
theorem vowel_z (z : Int) (w : World) : Calls Try.prog 31 #[.int .u8 z] w fun e w' => e = .returned (.bool (vz z)) ∧ w' = w := by
  go_enter Try.func31, Try.ntmps31
  go_wp2
  all_goals (go_ret; refine ⟨?_, rfl⟩; simp [vz, *])

set_option maxHeartbeats 400000 in
theorem ends_any (s p : ByteArray) (w : World) (hs : s.size ≤ 1048576) (hp : p.size ≤ 1048576) :
    Calls Try.prog 27 #[.string s, .string p] w fun e w' => e = .returned (.bool (ends (lst s) (lst p))) ∧ w' = w := by
  have HR : Hid (_ = Lib.hasSuffix (lst s) (lst p)) := Lib.hasSuffix_raw s p
  by_cases hl : p.size ≤ s.size
  · have hlz : (p.size : Int) ≤ (s.size : Int) := by omega
    go_enter Try.func27, Try.ntmps27
    go_wp2
    go_ret
    rw [ends, ← HR.out, decide_eq_true hl, Bool.true_and]
    exact ⟨rfl, rfl⟩
  · have hlz : ¬ (p.size : Int) ≤ (s.size : Int) := by omega
    go_enter Try.func27, Try.ntmps27
    go_wp2
    go_ret
    rw [ends, ← HR.out, decide_eq_false hl, Bool.false_and]
    exact ⟨rfl, rfl⟩

theorem extract_cut (s : ByteArray) (n : Nat) : s.extract 0 (s.size - n) = bs (cutB (lst s) n) := by
  rw [Lib.extract_eq, cutB, lst_len]
  simp [bs, lst]

set_option maxHeartbeats 400000 in
theorem drop_any (s : ByteArray) (n : Nat) (w : World) (hs : s.size ≤ 1048576) (hn : n ≤ s.size) :
    Calls Try.prog 28 #[.string s, .int .i64 n] w fun e w' => e = .returned (.string (bs (cutB (lst s) n))) ∧ w' = w := by
  go_enter Try.func28, Try.ntmps28
  go_wp2
  go_ret
  rw [extract_cut]
  exact ⟨rfl, rfl⟩

theorem get_list (s : ByteArray) (k : Nat) (h : k < s.size) : s[k] = (lst s).getD k 0 := by
  have h' : k < (lst s).length := by rw [lst_len]; exact h
  rw [List.getD_eq_getElem?_getD, List.getElem?_eq_getElem h', Option.getD_some]
  simp [lst]
  rfl
theorem any_take_succ (l : List UInt8) (f : UInt8 → Bool) (k : Nat) (h : k < l.length) : (l.take (k + 1)).any f = ((l.take k).any f || f (l.getD k 0)) := by
  rw [List.take_succ_eq_append_getElem h, List.any_append, List.getD_eq_getElem?_getD, List.getElem?_eq_getElem h]
  simp only [List.any_cons, List.any_nil, Bool.or_false, Option.getD_some]

set_option maxHeartbeats 1000000 in
theorem hasVowel_any (s : ByteArray) (w : World) (hs : s.size ≤ 1048576) :
    Calls Try.prog 29 #[.string s] w fun e w' => e = .returned (.bool (hasV (lst s))) ∧ w' = w := by
  go_enter Try.func29, Try.ntmps29
  go_wp2
  go_loop [3] (fun i => ∃ k : Nat, k ≤ s.size ∧ i = .int .i64 k ∧ hasV ((lst s).take k) = false) (fun i => s.size - (intOf i).toNat)
  case atStart => exact ⟨0, Nat.zero_le _, rfl, by rfl⟩
  case round =>
    obtain ⟨k, hk, rfl, hany⟩ := hrel
    have HA := hidd hany
    clear hany
    by_cases hlt : k < s.size
    · have hkl : k < (lst s).length := by rw [lst_len]; exact hlt
      have HG := hidd (get_list s k hlt)
      by_cases hv : vow ((lst s).getD k 0) = true
      · have HV : Hid (vz ((s[k]'hlt).toNat : Int) = true) := by show _ = _; rw [vz_vow, HG.out]; exact hv
        have HR : Hid (hasV (lst s) = true) := by
          show _ = _
          rw [hasV, List.any_eq_true]
          refine ⟨(lst s).getD k 0, ?_, hv⟩
          rw [List.getD_eq_getElem?_getD, List.getElem?_eq_getElem hkl, Option.getD_some]
          exact List.getElem_mem _
        clear hv
        go_wp2_with fail
        refine (vowel_z _ _).mono ?_
        rintro e w' ⟨rfl, rfl⟩
        rw [HV.out]
        go_wp2
        go_ret
        rw [HR.out]
        exact ⟨rfl, rfl⟩
      · have hv' : vow ((lst s).getD k 0) = false := by simpa using hv
        have HV : Hid (vz ((s[k]'hlt).toNat : Int) = false) := by show _ = _; rw [vz_vow, HG.out]; exact hv'
        have HN : Hid (hasV ((lst s).take (k + 1)) = false) := by show _ = _; rw [hasV, any_take_succ _ _ _ hkl, ← hasV, HA.out, hv']; rfl
        clear hv hv'
        go_wp2_with fail
        refine (vowel_z _ _).mono ?_
        rintro e w' ⟨rfl, rfl⟩
        rw [HV.out]
        go_wp2
        go_round
        case rel => exact ⟨k + 1, by omega, by go_num, HN.out⟩
        case measure => simp [intOf]; omega
    · have HR : Hid (hasV (lst s) = false) := by
        have := HA.out
        rw [List.take_of_length_le (by rw [lst_len]; omega)] at this
        exact this
      go_wp2
      go_ret
      rw [HR.out]
      exact ⟨rfl, rfl⟩

end Go.Proofs.Yteedakkclppipai
