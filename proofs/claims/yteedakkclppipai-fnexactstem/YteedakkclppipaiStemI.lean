import Derived.Test.YteedakkclppipaiProg
import Derived.Test.YteedakkclppipaiShelf
import Derived.Test.YteedakkclppipaiStemS
import Derived.Test.YteedakkclppipaiStemQ
import Derived.Test.YteedakkclppipaiStemT
namespace Go.Proofs.Yteedakkclppipai
open Go Go.RowKit
set_option linter.unusedVariables false

set_option maxHeartbeats 400000 in
theorem within_any (r lo hi : Int) (w : World) : Calls Try.prog 24 #[.int .i64 r, .int .i64 lo, .int .i64 hi] w fun e w' => e = .returned (.bool (decide (lo ≤ r) && decide (r ≤ hi))) ∧ w' = w := by
  by_cases h : lo ≤ r
  · have HB : Hid (decide (lo ≤ r) = true) := decide_eq_true h
    go_enter Try.func24, Try.ntmps24
    go_wp2
    go_ret
    rw [HB.out, Bool.true_and]
    exact ⟨rfl, rfl⟩
  · have HB : Hid (decide (lo ≤ r) = false) := decide_eq_false h
    go_enter Try.func24, Try.ntmps24
    go_wp2
    go_ret
    rw [HB.out, Bool.false_and]
    exact ⟨rfl, rfl⟩

theorem small_z (c : UInt8) : (decide ((97 : Int) ≤ (c.toNat : Int)) && decide ((c.toNat : Int) ≤ 122)) = small c := by
  unfold small
  rw [Bool.eq_iff_iff]
  simp only [Bool.and_eq_true, decide_eq_true_eq]
  omega

set_option maxHeartbeats 1000000 in
theorem allSmall_any (s : ByteArray) (w : World) (hs : s.size ≤ 1048576) :
    Calls Try.prog 33 #[.string s] w fun e w' => e = .returned (.bool (allS (lst s))) ∧ w' = w := by
  go_enter Try.func33, Try.ntmps33
  go_wp2
  go_loop [6] (fun i => ∃ k : Nat, k ≤ s.size ∧ i = .int .i64 k ∧ allS ((lst s).take k) = true) (fun i => s.size - (intOf i).toNat)
  case atStart => exact ⟨0, Nat.zero_le _, rfl, rfl⟩
  case round =>
    obtain ⟨k, hk, rfl, hall⟩ := hrel
    have HA := hidd hall
    clear hall
    by_cases hlt : k < s.size
    · have hkl : k < (lst s).length := by rw [lst_len]; exact hlt
      have HG := hidd (get_list s k hlt)
      have hb8 : ((s[k]'hlt).toNat : Int) ≤ 255 := by have := UInt8.toNat_lt (s[k]'hlt); omega
      have HW : Hid ((decide ((97 : Int) ≤ ((s[k]'hlt).toNat : Int)) && decide (((s[k]'hlt).toNat : Int) ≤ 122)) = small ((lst s).getD k 0)) := by show _ = _; rw [small_z, HG.out]
      by_cases hv : small ((lst s).getD k 0) = true
      · have HN : Hid (allS ((lst s).take (k + 1)) = true) := by show _ = _; rw [allS, all_take_small _ _ hkl, ← allS, HA.out, hv]; rfl
        go_wp2_with fail
        refine (within_any _ _ _ _).mono ?_
        rintro e w' ⟨rfl, hw⟩
        obtain rfl := hw.symm
        rw [HW.out, hv]
        clear hv
        go_wp2
        go_round
        case rel => exact ⟨k + 1, by omega, by go_num, HN.out⟩
        case measure => simp [intOf]; omega
      · have hv' : small ((lst s).getD k 0) = false := by simpa using hv
        have HR : Hid (allS (lst s) = false) := by
          show _ = _
          rw [allS, List.all_eq_false]
          refine ⟨(lst s).getD k 0, ?_, hv⟩
          rw [List.getD_eq_getElem?_getD, List.getElem?_eq_getElem hkl, Option.getD_some]
          exact List.getElem_mem _
        go_wp2_with fail
        refine (within_any _ _ _ _).mono ?_
        rintro e w' ⟨rfl, hw⟩
        obtain rfl := hw.symm
        rw [HW.out, hv']
        clear hv hv'
        go_wp2
        go_ret
        rw [HR.out]
        exact ⟨rfl, rfl⟩
    · have HR : Hid (allS (lst s) = true) := by
        have := HA.out
        rw [List.take_of_length_le (by rw [lst_len]; omega)] at this
        exact this
      go_wp2
      go_ret
      rw [HR.out]
      exact ⟨rfl, rfl⟩

set_option maxHeartbeats 1000000 in
theorem endsVowel_any (s : ByteArray) (w : World) (hs : s.size ≤ 1048576) (h1 : 1 ≤ s.size) :
    Calls Try.prog 50 #[.string s] w fun e w' => e = .returned (.bool (vow (lastB (lst s) 1))) ∧ w' = w := by
  have hk : s.size - 1 < s.size := by omega
  generalize hkk : s.size - 1 = k at hk
  have HK := hidd hkk
  clear hkk
  have ew : IntKind.i64.wrap ((s.size : Int) - 1) = (k : Int) := by rw [IntWalk.i64_in _ (by omega)]; have := HK.out; omega
  have HG := hidd (get_list s k hk)
  have HC : Hid (((s[k]'hk).toNat : Int).toNat.toUInt8 = s[k]'hk) := by show _ = _; simp
  go_enter Try.func50, Try.ntmps50
  go_wp2_with fail
  refine (Try.strings_IndexByte _ _ _).mono ?_
  rintro e w' ⟨rfl, hw⟩
  obtain rfl := hw.symm
  rw [HC.out]
  have HI : Hid (decide (0 ≤ Lib.indexByte vws (s[k]'hk)) = vow (lastB (lst s) 1)) := by show _ = _; rw [indexByte_vow, lastB, lst_len, HK.out, HG.out]
  have HV : Hid (({ data := #[97, 101, 105, 111, 117, 121] } : ByteArray).data.toList = vws) := rfl
  rw [HV.out]
  generalize Lib.indexByte vws (s[k]'hk) = z at HI ⊢
  go_wp2
  all_goals (go_ret; rw [← HI.out]; exact ⟨by simp [*], rfl⟩)
end Go.Proofs.Yteedakkclppipai
