import Derived.Test.YteedakkclppipaiStemI
namespace Go.Proofs.Yteedakkclppipai
open Go Go.RowKit
set_option linter.unusedVariables false

theorem cat_s (s : ByteArray) (l : List UInt8) : s ++ (⟨l.toArray⟩ : ByteArray) = bs (lst s ++ l) := by
  apply ByteArray.ext
  simp [bs, lst]

set_option maxHeartbeats 400000 in
theorem sing_sses (s : ByteArray) (w : World) (hs : s.size ≤ 64) :
    Calls Try.prog 41 #[.string s, .string ⟨#[115, 115, 101, 115]⟩] w fun e w' => e = .returned (.string (bs (sing (lst s) [115, 115, 101, 115]))) ∧ w' = w := by
  have HM : Hid (sing (lst s) [115, 115, 101, 115] = lst s ++ [115, 115]) := by show _ = _; rw [sing]; rfl
  go_enter Try.func41, Try.ntmps41
  go_wp2
  go_ret
  rw [HM.out]
  exact ⟨congrArg (fun x => Ending.returned (Value.string x)) (cat_s s _), rfl⟩

set_option maxHeartbeats 400000 in
theorem sing_ies_a (s : ByteArray) (w : World) (hs : s.size ≤ 64) (h : 2 ≤ s.size) :
    Calls Try.prog 41 #[.string s, .string ⟨#[105, 101, 115]⟩] w fun e w' => e = .returned (.string (bs (sing (lst s) [105, 101, 115]))) ∧ w' = w := by
  have hz : (2 : Int) ≤ (s.size : Int) := by omega
  have HM : Hid (sing (lst s) [105, 101, 115] = lst s ++ [121]) := by show _ = _; rw [sing, if_pos rfl, lst_len, if_pos h]
  go_enter Try.func41, Try.ntmps41
  go_wp2
  go_ret
  rw [HM.out]
  exact ⟨congrArg (fun x => Ending.returned (Value.string x)) (cat_s s _), rfl⟩

set_option maxHeartbeats 400000 in
theorem sing_ies_b (s : ByteArray) (w : World) (hs : s.size ≤ 64) (h : ¬ 2 ≤ s.size) :
    Calls Try.prog 41 #[.string s, .string ⟨#[105, 101, 115]⟩] w fun e w' => e = .returned (.string (bs (sing (lst s) [105, 101, 115]))) ∧ w' = w := by
  have hz : ¬ (2 : Int) ≤ (s.size : Int) := by omega
  have HM : Hid (sing (lst s) [105, 101, 115] = lst s ++ [105, 101, 115]) := by show _ = _; rw [sing, if_pos rfl, lst_len, if_neg h]
  go_enter Try.func41, Try.ntmps41
  go_wp2
  go_ret
  rw [HM.out]
  exact ⟨congrArg (fun x => Ending.returned (Value.string x)) (cat_s s _), rfl⟩

set_option maxHeartbeats 400000 in
theorem sing_ss (s : ByteArray) (w : World) (hs : s.size ≤ 64) :
    Calls Try.prog 41 #[.string s, .string ⟨#[115, 115]⟩] w fun e w' => e = .returned (.string (bs (sing (lst s) [115, 115]))) ∧ w' = w := by
  have HM : Hid (sing (lst s) [115, 115] = lst s ++ [115, 115]) := by show _ = _; rw [sing]; rfl
  go_enter Try.func41, Try.ntmps41
  go_wp2
  go_ret
  rw [HM.out]
  exact ⟨congrArg (fun x => Ending.returned (Value.string x)) (cat_s s _), rfl⟩

set_option maxHeartbeats 400000 in
theorem sing_us (s : ByteArray) (w : World) (hs : s.size ≤ 64) :
    Calls Try.prog 41 #[.string s, .string ⟨#[117, 115]⟩] w fun e w' => e = .returned (.string (bs (sing (lst s) [117, 115]))) ∧ w' = w := by
  have HM : Hid (sing (lst s) [117, 115] = lst s ++ [117, 115]) := by show _ = _; rw [sing]; rfl
  go_enter Try.func41, Try.ntmps41
  go_wp2
  go_ret
  rw [HM.out]
  exact ⟨congrArg (fun x => Ending.returned (Value.string x)) (cat_s s _), rfl⟩

set_option maxHeartbeats 400000 in
theorem sing_is (s : ByteArray) (w : World) (hs : s.size ≤ 64) :
    Calls Try.prog 41 #[.string s, .string ⟨#[105, 115]⟩] w fun e w' => e = .returned (.string (bs (sing (lst s) [105, 115]))) ∧ w' = w := by
  have HM : Hid (sing (lst s) [105, 115] = lst s ++ [105, 115]) := by show _ = _; rw [sing]; rfl
  go_enter Try.func41, Try.ntmps41
  go_wp2
  go_ret
  rw [HM.out]
  exact ⟨congrArg (fun x => Ending.returned (Value.string x)) (cat_s s _), rfl⟩

set_option maxHeartbeats 400000 in
theorem sing_s_a (s : ByteArray) (w : World) (hs : s.size ≤ 64) (h : s.size < 3) :
    Calls Try.prog 41 #[.string s, .string ⟨#[115]⟩] w fun e w' => e = .returned (.string (bs (sing (lst s) [115]))) ∧ w' = w := by
  have hz : (s.size : Int) < 3 := by omega
  have HM : Hid (sing (lst s) [115] = lst s ++ [115]) := by show _ = _; rw [sing, if_neg (by decide), if_pos rfl, lst_len, if_pos h]
  go_enter Try.func41, Try.ntmps41
  go_wp2
  go_ret
  rw [HM.out]
  exact ⟨congrArg (fun x => Ending.returned (Value.string x)) (cat_s s _), rfl⟩

set_option maxHeartbeats 400000 in
theorem sing_s_b (s : ByteArray) (w : World) (hs : s.size ≤ 64) (h : ¬ s.size < 3) :
    Calls Try.prog 41 #[.string s, .string ⟨#[115]⟩] w fun e w' => e = .returned (.string (bs (sing (lst s) [115]))) ∧ w' = w := by
  have hz : ¬ (s.size : Int) < 3 := by omega
  have HM : Hid (sing (lst s) [115] = lst s) := by show _ = _; rw [sing, if_neg (by decide), if_pos rfl, lst_len, if_neg h]
  go_enter Try.func41, Try.ntmps41
  go_wp2
  go_ret
  rw [HM.out]
  exact ⟨congrArg (fun x => Ending.returned (Value.string x)) (bs_lst s).symm, rfl⟩

def sEnds : List (List UInt8) := [[115, 115, 101, 115], [105, 101, 115], [115, 115], [117, 115], [105, 115], [115]]
theorem sing_any (e : List UInt8) (he : e ∈ sEnds) (s : ByteArray) (w : World) (hs : s.size ≤ 64) :
    Calls Try.prog 41 #[.string s, .string (bs e)] w fun e' w' => e' = .returned (.string (bs (sing (lst s) e))) ∧ Below w.heap.size w w' := by
  have key : Calls Try.prog 41 #[.string s, .string (bs e)] w fun e' w' => e' = .returned (.string (bs (sing (lst s) e))) ∧ w' = w := by
    simp only [sEnds, List.mem_cons, List.not_mem_nil, or_false] at he
    rcases he with rfl | rfl | rfl | rfl | rfl | rfl
    · exact sing_sses s w hs
    · by_cases h : 2 ≤ s.size
      · exact sing_ies_a s w hs h
      · exact sing_ies_b s w hs h
    · exact sing_ss s w hs
    · exact sing_us s w hs
    · exact sing_is s w hs
    · by_cases h : s.size < 3
      · exact sing_s_a s w hs h
      · exact sing_s_b s w hs h
  exact key.mono fun _ _ ⟨h1, h2⟩ => ⟨h1, h2 ▸ Below.refl _ _⟩

set_option maxHeartbeats 400000 in
theorem mann_any (s p : ByteArray) (w : World) (hs : s.size ≤ 64) (hp : p.size ≤ 64) :
    Calls Try.prog 43 #[.string s, .string p] w fun e w' => e = .returned (.string (bs (mann (lst s) (lst p)))) ∧ Below w.heap.size w w' := by
  by_cases h : s.size < 3
  · have hz : (s.size : Int) < 3 := by omega
    have HM : Hid (mann (lst s) (lst p) = lst s ++ lst p) := by show _ = _; rw [mann, lst_len, if_pos h]
    go_enter Try.func43, Try.ntmps43
    go_wp2
    go_ret
    rw [HM.out]
    exact ⟨congrArg (fun x => Ending.returned (Value.string x)) (cat_s s (lst p)), Below.refl _ _⟩
  · have hz : ¬ (s.size : Int) < 3 := by omega
    have HM : Hid (mann (lst s) (lst p) = lst s) := by show _ = _; rw [mann, lst_len, if_neg h]
    go_enter Try.func43, Try.ntmps43
    go_wp2
    go_ret
    rw [HM.out]
    exact ⟨congrArg (fun x => Ending.returned (Value.string x)) (bs_lst s).symm, Below.refl _ _⟩

set_option maxHeartbeats 400000 in
theorem withY_any (s p : ByteArray) (w : World) (hs : s.size ≤ 64) (hp : p.size ≤ 64) :
    Calls Try.prog 44 #[.string s, .string p] w fun e w' => e = .returned (.string (bs (withY (lst s) (lst p)))) ∧ Below w.heap.size w w' := by
  by_cases h : s.size < 2
  · have hz : (s.size : Int) < 2 := by omega
    have HM : Hid (withY (lst s) (lst p) = lst s ++ lst p) := by show _ = _; rw [withY, lst_len, decide_eq_true h]; rfl
    go_enter Try.func44, Try.ntmps44
    go_wp2_with fail
    go_ret
    rw [HM.out]
    exact ⟨congrArg (fun x => Ending.returned (Value.string x)) (cat_s s (lst p)), Below.refl _ _⟩
  · have hz : ¬ (s.size : Int) < 2 := by omega
    have hb : decide ((s.size : Int) < 2) = false := decide_eq_false hz
    cases hv : vow (lastB (lst s) 1)
    · have HM : Hid (withY (lst s) (lst p) = lst s ++ [105]) := by show _ = _; rw [withY, lst_len, decide_eq_false h, hv]; rfl
      have HV := hidd hv
      clear hv
      go_enter Try.func44, Try.ntmps44
      go_wp2_with fail
      refine (endsVowel_any s _ (by omega) (by omega)).mono ?_
      rintro e w' ⟨rfl, hw⟩
      obtain rfl := hw.symm
      rw [HV.out]
      go_wp2_with fail
      go_ret
      rw [HM.out]
      exact ⟨congrArg (fun x => Ending.returned (Value.string x)) (cat_s s _), Below.refl _ _⟩
    · have HM : Hid (withY (lst s) (lst p) = lst s ++ lst p) := by show _ = _; rw [withY, lst_len, decide_eq_false h, hv]; rfl
      have HV := hidd hv
      clear hv
      go_enter Try.func44, Try.ntmps44
      go_wp2_with fail
      refine (endsVowel_any s _ (by omega) (by omega)).mono ?_
      rintro e w' ⟨rfl, hw⟩
      obtain rfl := hw.symm
      rw [HV.out]
      go_wp2_with fail
      go_ret
      rw [HM.out]
      exact ⟨congrArg (fun x => Ending.returned (Value.string x)) (cat_s s (lst p)), Below.refl _ _⟩
end Go.Proofs.Yteedakkclppipai
