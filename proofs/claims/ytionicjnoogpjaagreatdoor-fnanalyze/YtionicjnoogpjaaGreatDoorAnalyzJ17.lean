import Derived.Test.YtionicjnoogpjaaGreatDoorAnalyzJ16
import Derived.Deep.CutBlock
import Derived.Test.YtionicjnoogpjaaGreatDoorProg
import Derived.Test.YtionicjnoogpjaaGreatDoorAnalyzJ06
import Derived.Test.YtionicjnoogpjaaGreatDoorAnalyzJ03
namespace Go.Proofs.YtionicjnoogpjaaGreatDoor
open Go Go.RowKit
set_option linter.unusedVariables false

theorem all_take_small (l : List UInt8) (k : Nat) (h : k < l.length) : (l.take (k + 1)).all small = ((l.take k).all small && small (l.getD k 0)) := by
  rw [List.take_succ_eq_append_getElem h, List.all_append, List.getD_eq_getElem?_getD, List.getElem?_eq_getElem h]
  simp only [List.all_cons, List.all_nil, Bool.and_true, Option.getD_some]
def allS (l : List UInt8) : Bool := l.all small
theorem allS_at {l : List UInt8} (h : allS l = true) (k : Nat) (hk : k < l.length) : small (l.getD k 0) = true := by
  rw [allS, List.all_eq_true] at h
  apply h
  rw [List.getD_eq_getElem?_getD, List.getElem?_eq_getElem hk, Option.getD_some]
  exact List.getElem_mem _
theorem cat_bs (l m : List UInt8) : bs l ++ bs m = bs (l ++ m) := by
  apply ByteArray.ext
  simp [bs]
theorem lst_cat (l m : List UInt8) : lst (bs l ++ bs m) = l ++ m := by rw [cat_bs, lst_bs]
theorem size_cat (l m : List UInt8) : (bs l ++ bs m).size = l.length + m.length := by rw [cat_bs, bs_size, List.length_append]
def isStep (f : List UInt8 → List UInt8) (s t : ByteArray) : Prop := lst t = f (lst s) ∧ t.size ≤ 64
set_option maxHeartbeats 4000000 in
set_option maxRecDepth 100000 in
theorem specStem_in (s : ByteArray) (w : World) (h3 : 3 ≤ s.size) (h64 : s.size ≤ 64) (HA : Hid (allS (lst s) = true)) :
    Calls Tryz.prog 71 #[.string s] w fun e w' => e = .returned (.string (bs (stem4 (stem3 (stem2 (stem1 (lst s))))))) ∧ ∃ m, w' = w.drewN m := by
  have b0 : decide ((s.size : Int) < 3) = false := decide_eq_false (by omega)
  have b1 : decide ((64 : Int) < (s.size : Int)) = false := decide_eq_false (by omega)
  have b2 : ¬ (65536 : Int) < (s.size : Int) := by omega
  go_enter Tryz.func71, Tryz.ntmps71
  go_wp2
  go_loop [3] (fun i => ∃ k : Nat, k ≤ s.size ∧ i = .int .i64 k) (fun i => s.size - (intOf i).toNat)
  case atStart => exact ⟨0, Nat.zero_le _, rfl⟩
  case round =>
    obtain ⟨k, hk, rfl⟩ := hrel
    by_cases hlt : k < s.size
    · have hsm := allS_at HA.out k (by rw [lst_len]; exact hlt)
      rw [← get_list s k hlt, small, decide_eq_true_eq] at hsm
      obtain ⟨g1, g2⟩ := hsm
      have g1z : ¬ ((s[k]'hlt).toNat : Int) < 97 := by omega
      have g2z : ¬ (122 : Int) < ((s[k]'hlt).toNat : Int) := by omega
      have g1b : decide (((s[k]'hlt).toNat : Int) < 97) = false := decide_eq_false g1z
      have g2b : decide ((122 : Int) < ((s[k]'hlt).toNat : Int)) = false := decide_eq_false g2z
      go_wp2
      go_round
      case rel => exact ⟨k + 1, by omega, by go_num⟩
      case measure => simp [intOf]; omega
    · have HS : Hid (lst s = lst s) := rfl
      go_upto_block 2 with fail
      go_cut [4] (fun c wx => ∃ t, c = .string t ∧ isStep stem1 s t ∧ wx = w)
      case first =>
        go_wp2_with fail
        refine (ends_any s _ _ (by omega) (by decide)).mono ?_
        rintro e w1 ⟨rfl, hw⟩
        obtain rfl := hw.symm
        rw [show lst ⟨#[115, 115, 101, 115]⟩ = [115, 115, 101, 115] from rfl]
        by_cases e1 : ends (lst s) [115, 115, 101, 115] = true
        · rw [e1]
          have He1 := hidd e1
          clear e1
          have HM : Hid (stem1 (lst s) = cutB (lst s) 2) := by show _ = _; rw [stem1, if_pos He1.out]
          have hz := ends_len He1.out
          rw [lst_len] at hz
          simp only [List.length_cons, List.length_nil] at hz
          go_wp2_with fail
          refine (drop_any s 2 _ (by omega) (by omega)).mono ?_
          rintro e w1 ⟨rfl, hw⟩
          obtain rfl := hw.symm
          go_wp2_with fail
          go_meet
          case rel => exact ⟨_, rfl, ⟨by rw [lst_bs, HM.out], by rw [bs_size, cutB_len, lst_len]; omega⟩, rfl⟩
        · have e1' : ends (lst s) [115, 115, 101, 115] = false := by simpa using e1
          rw [e1']
          have He1 := hidd e1'
          clear e1 e1'
          go_wp2_with fail
          refine (ends_any s _ _ (by omega) (by decide)).mono ?_
          rintro e w1 ⟨rfl, hw⟩
          obtain rfl := hw.symm
          rw [show lst ⟨#[105, 101, 115]⟩ = [105, 101, 115] from rfl]
          by_cases e2 : ends (lst s) [105, 101, 115] = true
          · rw [e2]
            have He2 := hidd e2
            clear e2
            by_cases h5 : 5 ≤ s.size
            · have h5z : (5 : Int) ≤ (s.size : Int) := by omega
              have HM : Hid (stem1 (lst s) = cutB (lst s) 3 ++ [121]) := by show _ = _; rw [stem1, He1.out, He2.out, lst_len, if_pos h5]; rfl
              have hcz : (bs (cutB (lst s) 3)).size ≤ 64 := by rw [bs_size, cutB_len, lst_len]; omega
              go_wp2_with fail
              refine (drop_any s 3 _ (by omega) (by omega)).mono ?_
              rintro e w1 ⟨rfl, hw⟩
              obtain rfl := hw.symm
              go_wp2_with fail
              go_meet
              case rel => exact ⟨_, rfl, ⟨by rw [HM.out]; exact lst_cat _ _, by rw [show (⟨#[121]⟩ : ByteArray) = bs [121] from rfl, size_cat, cutB_len, lst_len]; simp; omega⟩, rfl⟩
            · have h5z : ¬ (5 : Int) ≤ (s.size : Int) := by omega
              have HM : Hid (stem1 (lst s) = lst s) := by show _ = _; rw [stem1, He1.out, He2.out, lst_len, if_neg h5]; rfl
              go_wp2_with fail
              go_meet
              case rel => exact ⟨_, rfl, ⟨HM.out.symm, by omega⟩, rfl⟩
          · have e2' : ends (lst s) [105, 101, 115] = false := by simpa using e2
            rw [e2']
            have He2 := hidd e2'
            clear e2 e2'
            go_wp2_with fail
            refine (ends_any s _ _ (by omega) (by decide)).mono ?_
            rintro e w1 ⟨rfl, hw⟩
            obtain rfl := hw.symm
            rw [show lst ⟨#[115]⟩ = [115] from rfl]
            by_cases e3 : ends (lst s) [115] = true
            · rw [e3]
              have He3 := hidd e3
              clear e3
              go_wp2_with fail
              refine (ends_any s _ _ (by omega) (by decide)).mono ?_
              rintro e w1 ⟨rfl, hw⟩
              obtain rfl := hw.symm
              rw [show lst ⟨#[115, 115]⟩ = [115, 115] from rfl]
              by_cases e4 : ends (lst s) [115, 115] = true
              · rw [e4]
                have He4 := hidd e4
                clear e4
                have HM : Hid (stem1 (lst s) = lst s) := by show _ = _; rw [stem1, He1.out, He2.out, He3.out, He4.out]; simp
                go_wp2_with fail
                go_meet
                case rel => exact ⟨_, rfl, ⟨HM.out.symm, by omega⟩, rfl⟩
              · have e4' : ends (lst s) [115, 115] = false := by simpa using e4
                rw [e4']
                have He4 := hidd e4'
                clear e4 e4'
                go_wp2_with fail
                refine (ends_any s _ _ (by omega) (by decide)).mono ?_
                rintro e w1 ⟨rfl, hw⟩
                obtain rfl := hw.symm
                rw [show lst ⟨#[117, 115]⟩ = [117, 115] from rfl]
                by_cases e5 : ends (lst s) [117, 115] = true
                · rw [e5]
                  have He5 := hidd e5
                  clear e5
                  have HM : Hid (stem1 (lst s) = lst s) := by show _ = _; rw [stem1, He1.out, He2.out, He3.out, He4.out, He5.out]; simp
                  go_wp2_with fail
                  go_meet
                  case rel => exact ⟨_, rfl, ⟨HM.out.symm, by omega⟩, rfl⟩
                · have e5' : ends (lst s) [117, 115] = false := by simpa using e5
                  rw [e5']
                  have He5 := hidd e5'
                  clear e5 e5'
                  go_wp2_with fail
                  refine (ends_any s _ _ (by omega) (by decide)).mono ?_
                  rintro e w1 ⟨rfl, hw⟩
                  obtain rfl := hw.symm
                  rw [show lst ⟨#[105, 115]⟩ = [105, 115] from rfl]
                  by_cases e6 : ends (lst s) [105, 115] = true
                  · rw [e6]
                    have He6 := hidd e6
                    clear e6
                    have HM : Hid (stem1 (lst s) = lst s) := by show _ = _; rw [stem1, He1.out, He2.out, He3.out, He4.out, He5.out, He6.out]; simp
                    go_wp2_with fail
                    go_meet
                    case rel => exact ⟨_, rfl, ⟨HM.out.symm, by omega⟩, rfl⟩
                  · have e6' : ends (lst s) [105, 115] = false := by simpa using e6
                    rw [e6']
                    have He6 := hidd e6'
                    clear e6 e6'
                    by_cases h4 : 4 ≤ s.size
                    · have h4z : (4 : Int) ≤ (s.size : Int) := by omega
                      have HM : Hid (stem1 (lst s) = cutB (lst s) 1) := by show _ = _; rw [stem1, He1.out, He2.out, He3.out, He4.out, He5.out, He6.out, lst_len, decide_eq_true h4]; rfl
                      go_wp2_with fail
                      refine (drop_any s 1 _ (by omega) (by omega)).mono ?_
                      rintro e w1 ⟨rfl, hw⟩
                      obtain rfl := hw.symm
                      go_wp2_with fail
                      go_meet
                      case rel => exact ⟨_, rfl, ⟨by rw [lst_bs, HM.out], by rw [bs_size, cutB_len, lst_len]; omega⟩, rfl⟩
                    · have h4z : ¬ (4 : Int) ≤ (s.size : Int) := by omega
                      have h4b : decide ((4 : Int) ≤ (s.size : Int)) = false := decide_eq_false h4z
                      have HM : Hid (stem1 (lst s) = lst s) := by show _ = _; rw [stem1, He1.out, He2.out, He3.out, He4.out, He5.out, He6.out, lst_len, decide_eq_false h4]; rfl
                      go_wp2_with fail
                      go_meet
                      case rel => exact ⟨_, rfl, ⟨HM.out.symm, by omega⟩, rfl⟩
            · have e3' : ends (lst s) [115] = false := by simpa using e3
              rw [e3']
              have He3 := hidd e3'
              clear e3 e3'
              have HM : Hid (stem1 (lst s) = lst s) := by show _ = _; rw [stem1, He1.out, He2.out, He3.out]; simp
              go_wp2_with fail
              go_meet
              case rel => exact ⟨_, rfl, ⟨HM.out.symm, by omega⟩, rfl⟩
      case rest =>
        obtain ⟨t1, rfl, hst1, hw1⟩ := hcut
        obtain rfl := hw1.symm
        have Hst1 : Hid (lst t1 = stem1 (lst s)) := hst1.1
        have hz1 := hst1.2
        clear hst1 HS
        go_upto_block 3 with fail
        go_cut [4] (fun c wx => ∃ t, c = .string t ∧ isStep stem2 t1 t ∧ ∃ m, wx = w.drewN m)
        case first =>
          go_upto_region 18 with fail
          go_cut [74] (fun c wx => c = .bool (ends (lst t1) [105, 110, 103] && decide (6 ≤ (lst t1).length) && hasV (cutB (lst t1) 3)) ∧ wx = w)
          case first =>
            go_wp2_with fail
            refine (ends_any t1 _ _ (by omega) (by decide)).mono ?_
            rintro e w1 ⟨rfl, hw⟩
            obtain rfl := hw.symm
            rw [show lst ⟨#[105, 110, 103]⟩ = [105, 110, 103] from rfl]
            by_cases e1 : ends (lst t1) [105, 110, 103] = true
            · rw [e1]
              have He1 := hidd e1
              clear e1
              by_cases h6 : 6 ≤ t1.size
              · have h6z : (6 : Int) ≤ (t1.size : Int) := by omega
                go_wp2_with fail
                refine (drop_any t1 3 _ (by omega) (by omega)).mono ?_
                rintro e w1 ⟨rfl, hw⟩
                obtain rfl := hw.symm
                go_wp2_with fail
                refine (hasVowel_any _ _ (by rw [bs_size, cutB_len, lst_len]; omega)).mono ?_
                rintro e w1 ⟨rfl, hw⟩
                obtain rfl := hw.symm
                rw [lst_bs]
                go_wp2_with fail
                go_meet
                case rel => exact ⟨by rw [He1.out, lst_len, decide_eq_true h6]; rfl, rfl⟩
              · have h6z : ¬ (6 : Int) ≤ (t1.size : Int) := by omega
                have h6b : decide ((6 : Int) ≤ (t1.size : Int)) = false := decide_eq_false h6z
                go_wp2_with fail
                go_meet
                case rel => exact ⟨by rw [He1.out, lst_len, decide_eq_false h6]; rfl, rfl⟩
            · have e1' : ends (lst t1) [105, 110, 103] = false := by simpa using e1
              rw [e1']
              have He1 := hidd e1'
              clear e1 e1'
              go_wp2_with fail
              go_meet
              case rel => exact ⟨by rw [He1.out]; rfl, rfl⟩
          case rest =>
            obtain ⟨rfl, hw1⟩ := hcut
            obtain rfl := hw1.symm
            by_cases hc : (ends (lst t1) [105, 110, 103] && decide (6 ≤ (lst t1).length) && hasV (cutB (lst t1) 3)) = true
            · rw [hc]
              have HM : Hid (stem2 (lst t1) = mend (cutB (lst t1) 3)) := by show _ = _; rw [stem2, if_pos hc]
              have h6 : 6 ≤ t1.size := by rw [Bool.and_eq_true, Bool.and_eq_true, decide_eq_true_eq, lst_len] at hc; exact hc.1.2
              clear hc
              have hz2 := stem2_le (lst t1)
              rw [HM.out, lst_len] at hz2
              have Hz2 := hidd hz2
              clear hz2
              go_wp2_with fail
              refine (drop_any t1 3 _ (by omega) (by omega)).mono ?_
              rintro e w1 ⟨rfl, hw⟩
              obtain rfl := hw.symm
              go_wp2_with fail
              refine (mend_any _ _ (by rw [bs_size, cutB_len, lst_len]; omega)).mono ?_
              rintro e w1 ⟨rfl, m, rfl⟩
              rw [lst_bs]
              go_wp2_with fail
              go_meet
              case rel => exact ⟨_, rfl, ⟨by rw [lst_bs, HM.out], by rw [bs_size]; have := Hz2.out; omega⟩, _, rfl⟩
            · have hc' : (ends (lst t1) [105, 110, 103] && decide (6 ≤ (lst t1).length) && hasV (cutB (lst t1) 3)) = false := by simpa only [Bool.not_eq_true] using hc
              rw [hc']
              have HM0 : Hid (stem2 (lst t1) = if ends (lst t1) [101, 100] && decide (5 ≤ (lst t1).length) && hasV (cutB (lst t1) 2) then mend (cutB (lst t1) 2) else lst t1) := by show _ = _; rw [stem2, if_neg hc]
              clear hc hc'
              go_wp2_with fail
              refine (ends_any t1 _ _ (by omega) (by decide)).mono ?_
              rintro e w1 ⟨rfl, hw⟩
              obtain rfl := hw.symm
              rw [show lst ⟨#[101, 100]⟩ = [101, 100] from rfl]
              by_cases e2 : ends (lst t1) [101, 100] = true
              · rw [e2]
                have He2 := hidd e2
                clear e2
                by_cases h6 : 5 ≤ t1.size
                · have h6z : (5 : Int) ≤ (t1.size : Int) := by omega
                  go_wp2_with fail
                  refine (drop_any t1 2 _ (by omega) (by omega)).mono ?_
                  rintro e w1 ⟨rfl, hw⟩
                  obtain rfl := hw.symm
                  go_wp2_with fail
                  refine (hasVowel_any _ _ (by rw [bs_size, cutB_len, lst_len]; omega)).mono ?_
                  rintro e w1 ⟨rfl, hw⟩
                  obtain rfl := hw.symm
                  rw [lst_bs]
                  by_cases hv : hasV (cutB (lst t1) 2) = true
                  · have HM : Hid (stem2 (lst t1) = mend (cutB (lst t1) 2)) := by show _ = _; rw [HM0.out, He2.out, lst_len, decide_eq_true h6, hv]; rfl
                    rw [hv]
                    clear hv
                    have hz2 := stem2_le (lst t1)
                    rw [HM.out, lst_len] at hz2
                    have Hz2 := hidd hz2
                    clear hz2
                    go_wp2_with fail
                    refine (drop_any t1 2 _ (by omega) (by omega)).mono ?_
                    rintro e w1 ⟨rfl, hw⟩
                    obtain rfl := hw.symm
                    go_wp2_with fail
                    refine (mend_any _ _ (by rw [bs_size, cutB_len, lst_len]; omega)).mono ?_
                    rintro e w1 ⟨rfl, m, rfl⟩
                    rw [lst_bs]
                    go_wp2_with fail
                    go_meet
                    case rel => exact ⟨_, rfl, ⟨by rw [lst_bs, HM.out], by rw [bs_size]; have := Hz2.out; omega⟩, _, rfl⟩
                  · have hv' : hasV (cutB (lst t1) 2) = false := by simpa using hv
                    have HM : Hid (stem2 (lst t1) = lst t1) := by show _ = _; rw [HM0.out, He2.out, lst_len, decide_eq_true h6, hv']; rfl
                    rw [hv']
                    clear hv hv'
                    go_wp2_with fail
                    go_meet
                    case rel => exact ⟨_, rfl, ⟨HM.out.symm, by omega⟩, 0, rfl⟩
                · have h6z : ¬ (5 : Int) ≤ (t1.size : Int) := by omega
                  have h6b : decide ((5 : Int) ≤ (t1.size : Int)) = false := decide_eq_false h6z
                  have HM : Hid (stem2 (lst t1) = lst t1) := by show _ = _; rw [HM0.out, He2.out, lst_len, decide_eq_false h6]; rfl
                  go_wp2_with fail
                  go_meet
                  case rel => exact ⟨_, rfl, ⟨HM.out.symm, by omega⟩, 0, rfl⟩
              · have e2' : ends (lst t1) [101, 100] = false := by simpa using e2
                rw [e2']
                have He2 := hidd e2'
                clear e2 e2'
                have HM : Hid (stem2 (lst t1) = lst t1) := by show _ = _; rw [HM0.out, He2.out]; rfl
                go_wp2_with fail
                go_meet
                case rel => exact ⟨_, rfl, ⟨HM.out.symm, by omega⟩, 0, rfl⟩
        case rest =>
          obtain ⟨t2, rfl, hst2, m, hw1⟩ := hcut
          obtain rfl := hw1.symm
          have Hst2 : Hid (lst t2 = stem2 (lst t1)) := hst2.1
          have hz2 := hst2.2
          clear hst2
          go_upto_region 22 with fail
          go_cut [112] (fun c wx => c = .bool (ends (lst t2) [108, 121] && decide (5 ≤ (lst t2).length)) ∧ wx = w.drewN m)
          case first =>
            go_wp2_with fail
            refine (ends_any t2 _ _ (by omega) (by decide)).mono ?_
            rintro e w1 ⟨rfl, hw⟩
            obtain rfl := hw.symm
            rw [show lst ⟨#[108, 121]⟩ = [108, 121] from rfl]
            by_cases e1 : ends (lst t2) [108, 121] = true
            · rw [e1]
              have He1 := hidd e1
              clear e1
              by_cases h6 : 5 ≤ t2.size
              · have h6z : (5 : Int) ≤ (t2.size : Int) := by omega
                go_wp2_with fail
                go_meet
                case rel => exact ⟨by rw [He1.out, lst_len, decide_eq_true h6]; rfl, rfl⟩
              · have h6z : ¬ (5 : Int) ≤ (t2.size : Int) := by omega
                have h6b : decide ((5 : Int) ≤ (t2.size : Int)) = false := decide_eq_false h6z
                go_wp2_with fail
                go_meet
                case rel => exact ⟨by rw [He1.out, lst_len, decide_eq_false h6]; rfl, rfl⟩
            · have e1' : ends (lst t2) [108, 121] = false := by simpa using e1
              rw [e1']
              have He1 := hidd e1'
              clear e1 e1'
              go_wp2_with fail
              go_meet
              case rel => exact ⟨by rw [He1.out]; rfl, rfl⟩
          case rest =>
            obtain ⟨rfl, hw1⟩ := hcut
            obtain rfl := hw1.symm
            go_upto_if 112 with fail
            go_cut [4] (fun c wx => ∃ t, c = .string t ∧ isStep stem3 t2 t ∧ wx = w.drewN m)
            case first =>
              by_cases hc : (ends (lst t2) [108, 121] && decide (5 ≤ (lst t2).length)) = true
              · rw [hc]
                have HM : Hid (stem3 (lst t2) = cutB (lst t2) 2) := by show _ = _; rw [stem3, if_pos hc]
                have h6 : 5 ≤ t2.size := by rw [Bool.and_eq_true, decide_eq_true_eq, lst_len] at hc; exact hc.2
                clear hc
                go_wp2_with fail
                refine (drop_any t2 2 _ (by omega) (by omega)).mono ?_
                rintro e w1 ⟨rfl, hw⟩
                obtain rfl := hw.symm
                go_wp2_with fail
                go_meet
                case rel => exact ⟨_, rfl, ⟨by rw [lst_bs, HM.out], by rw [bs_size, cutB_len, lst_len]; omega⟩, rfl⟩
              · have hc' : (ends (lst t2) [108, 121] && decide (5 ≤ (lst t2).length)) = false := by simpa only [Bool.not_eq_true] using hc
                rw [hc']
                have HM : Hid (stem3 (lst t2) = lst t2) := by show _ = _; rw [stem3, if_neg hc]
                clear hc hc'
                go_wp2_with fail
                go_meet
                case rel => exact ⟨_, rfl, ⟨HM.out.symm, by omega⟩, rfl⟩
            case rest =>
              obtain ⟨t3, rfl, hst3, hw1⟩ := hcut
              obtain rfl := hw1.symm
              have Hst3 : Hid (lst t3 = stem3 (lst t2)) := hst3.1
              have hz3 := hst3.2
              clear hst3
              have HE : Hid (stem4 (stem3 (stem2 (stem1 (lst s)))) = stem4 (lst t3)) := by show _ = _; rw [Hst3.out, Hst2.out, Hst1.out]
              clear Hst1 Hst2 Hst3
              go_upto_region 24 with fail
              go_cut [130] (fun c wx => c = .bool (ends (lst t3) [121] && decide (3 ≤ (lst t3).length) && !vow (lastB (lst t3) 2)) ∧ wx = w.drewN m)
              case first =>
                go_wp2_with fail
                refine (ends_any t3 _ _ (by omega) (by decide)).mono ?_
                rintro e w1 ⟨rfl, hw⟩
                obtain rfl := hw.symm
                rw [show lst ⟨#[121]⟩ = [121] from rfl]
                by_cases e1 : ends (lst t3) [121] = true
                · rw [e1]
                  have He1 := hidd e1
                  clear e1
                  by_cases h6 : 3 ≤ t3.size
                  · have h6z : (3 : Int) ≤ (t3.size : Int) := by omega
                    have hk2 : t3.size - 2 < t3.size := by omega
                    generalize hkk : t3.size - 2 = k2 at hk2
                    have HK2 := hidd hkk
                    clear hkk
                    have ew : IntKind.i64.wrap ((t3.size : Int) - 2) = (k2 : Int) := by rw [IntWalk.i64_in _ (by omega)]; have := HK2.out; omega
                    have HG := hidd (get_list t3 k2 hk2)
                    have HV : Hid (vz ((t3[k2]'hk2).toNat : Int) = vow (lastB (lst t3) 2)) := by show _ = _; rw [vz_vow, HG.out, lastB, lst_len, HK2.out]
                    go_wp2_with fail
                    refine (vowel_z _ _).mono ?_
                    rintro e w1 ⟨rfl, hw⟩
                    obtain rfl := hw.symm
                    rw [HV.out]
                    go_wp2_with fail
                    go_meet
                    case rel => exact ⟨by rw [He1.out, lst_len, decide_eq_true h6]; rfl, rfl⟩
                  · have h6z : ¬ (3 : Int) ≤ (t3.size : Int) := by omega
                    have h6b : decide ((3 : Int) ≤ (t3.size : Int)) = false := decide_eq_false h6z
                    go_wp2_with fail
                    go_meet
                    case rel => exact ⟨by rw [He1.out, lst_len, decide_eq_false h6]; rfl, rfl⟩
                · have e1' : ends (lst t3) [121] = false := by simpa using e1
                  rw [e1']
                  have He1 := hidd e1'
                  clear e1 e1'
                  go_wp2_with fail
                  go_meet
                  case rel => exact ⟨by rw [He1.out]; rfl, rfl⟩
              case rest =>
                obtain ⟨rfl, hw1⟩ := hcut
                obtain rfl := hw1.symm
                by_cases hc : (ends (lst t3) [121] && decide (3 ≤ (lst t3).length) && !vow (lastB (lst t3) 2)) = true
                · rw [hc]
                  have HM : Hid (stem4 (lst t3) = cutB (lst t3) 1 ++ [105]) := by show _ = _; rw [stem4, if_pos hc]
                  have h6 : 3 ≤ t3.size := by rw [Bool.and_eq_true, Bool.and_eq_true, decide_eq_true_eq, lst_len] at hc; exact hc.1.2
                  clear hc
                  have hcz : (bs (cutB (lst t3) 1)).size ≤ 64 := by rw [bs_size, cutB_len, lst_len]; omega
                  go_wp2_with fail
                  refine (drop_any t3 1 _ (by omega) (by omega)).mono ?_
                  rintro e w1 ⟨rfl, hw⟩
                  obtain rfl := hw.symm
                  go_wp2_with fail
                  go_ret
                  rw [HE.out, HM.out]
                  exact ⟨congrArg (fun x => Ending.returned (Value.string x)) (cat_bs _ [105]), _, rfl⟩
                · have hc' : (ends (lst t3) [121] && decide (3 ≤ (lst t3).length) && !vow (lastB (lst t3) 2)) = false := by simpa only [Bool.not_eq_true] using hc
                  rw [hc']
                  have HM : Hid (stem4 (lst t3) = lst t3) := by show _ = _; rw [stem4, if_neg hc]
                  clear hc hc'
                  go_wp2_with fail
                  go_ret
                  rw [HE.out, HM.out, bs_lst]
                  exact ⟨rfl, _, rfl⟩
end Go.Proofs.YtionicjnoogpjaaGreatDoor

namespace Go.Proofs.YtionicjnoogpjaaGreatDoor
open Go Go.RowKit
set_option linter.unusedVariables false

theorem small_z (c : UInt8) : (decide ((97 : Int) ≤ (c.toNat : Int)) && decide ((c.toNat : Int) ≤ 122)) = small c := by
  unfold small
  rw [Bool.eq_iff_iff]
  simp only [Bool.and_eq_true, decide_eq_true_eq]
  omega
set_option maxHeartbeats 1000000 in
theorem allSmall_any (s : ByteArray) (w : World) (hs : s.size ≤ 1048576) :
    Calls Tryz.prog 125 #[.string s] w fun e w' => e = .returned (.bool (allS (lst s))) ∧ w' = w := by
  go_enter Tryz.func125, Tryz.ntmps125
  go_wp2
  go_loop [6] (fun i => ∃ k : Nat, k ≤ s.size ∧ i = .int .i64 k ∧ allS ((lst s).take k) = true) (fun i => s.size - (intOf i).toNat)
  case atStart => exact ⟨0, Nat.zero_le _, rfl, rfl⟩
  case round =>
    obtain ⟨k, hk, rfl, hall⟩ := hrel
    have HA := hidd hall
    clear hall
    by_cases hlt : k < s.size
    · have hkl : k < (lst s).length := by rw [lst_len]; exact hlt
      have HG := hidd (get_list s k hlt)
      have hb8 : ((s[k]'hlt).toNat : Int) ≤ 255 := by have := UInt8.toNat_lt (s[k]'hlt); omega
      have HW : Hid ((decide ((97 : Int) ≤ ((s[k]'hlt).toNat : Int)) && decide (((s[k]'hlt).toNat : Int) ≤ 122)) = small ((lst s).getD k 0)) := by show _ = _; rw [small_z, HG.out]
      by_cases hv : small ((lst s).getD k 0) = true
      · have HN : Hid (allS ((lst s).take (k + 1)) = true) := by show _ = _; rw [allS, all_take_small _ _ hkl, ← allS, HA.out, hv]; rfl
        go_wp2_with fail
        refine (within_any _ _ _ _).mono ?_
        rintro e w' ⟨rfl, hw⟩
        obtain rfl := hw.symm
        rw [HW.out, hv]
        clear hv
        go_wp2
        go_round
        case rel => exact ⟨k + 1, by omega, by go_num, HN.out⟩
        case measure => simp [intOf]; omega
      · have hv' : small ((lst s).getD k 0) = false := by simpa using hv
        have HR : Hid (allS (lst s) = false) := by
          show _ = _
          rw [allS, List.all_eq_false]
          refine ⟨(lst s).getD k 0, ?_, hv⟩
          rw [List.getD_eq_getElem?_getD, List.getElem?_eq_getElem hkl, Option.getD_some]
          exact List.getElem_mem _
        go_wp2_with fail
        refine (within_any _ _ _ _).mono ?_
        rintro e w' ⟨rfl, hw⟩
        obtain rfl := hw.symm
        rw [HW.out, hv']
        clear hv hv'
        go_wp2
        go_ret
        rw [HR.out]
        exact ⟨rfl, rfl⟩
    · have HR : Hid (allS (lst s) = true) := by
        have := HA.out
        rw [List.take_of_length_le (by rw [lst_len]; omega)] at this
        exact this
      go_wp2
      go_ret
      rw [HR.out]
      exact ⟨rfl, rfl⟩
set_option maxHeartbeats 1000000 in
theorem endsVowel_any (s : ByteArray) (w : World) (hs : s.size ≤ 1048576) (h1 : 1 ≤ s.size) :
    Calls Tryz.prog 168 #[.string s] w fun e w' => e = .returned (.bool (vow (lastB (lst s) 1))) ∧ w' = w := by
  have hk : s.size - 1 < s.size := by omega
  generalize hkk : s.size - 1 = k at hk
  have HK := hidd hkk
  clear hkk
  have ew : IntKind.i64.wrap ((s.size : Int) - 1) = (k : Int) := by rw [IntWalk.i64_in _ (by omega)]; have := HK.out; omega
  have HG := hidd (get_list s k hk)
  have HC : Hid (((s[k]'hk).toNat : Int).toNat.toUInt8 = s[k]'hk) := by show _ = _; simp
  go_enter Tryz.func168, Tryz.ntmps168
  go_wp2_with fail
  refine (Tryz.strings_IndexByte _ _ _).mono ?_
  rintro e w' ⟨rfl, hw⟩
  obtain rfl := hw.symm
  rw [HC.out]
  have HI : Hid (decide (0 ≤ Lib.indexByte vws (s[k]'hk)) = vow (lastB (lst s) 1)) := by show _ = _; rw [indexByte_vow, lastB, lst_len, HK.out, HG.out]
  have HV : Hid (({ data := #[97, 101, 105, 111, 117, 121] } : ByteArray).data.toList = vws) := rfl
  rw [HV.out]
  generalize Lib.indexByte vws (s[k]'hk) = z at HI ⊢
  go_wp2
  all_goals (go_ret; rw [← HI.out]; exact ⟨by simp [*], rfl⟩)
end Go.Proofs.YtionicjnoogpjaaGreatDoor
