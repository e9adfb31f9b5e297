import Derived.Test.YteedakkclppipaiStemS
namespace Go.Proofs.Yteedakkclppipai
open Go Go.RowKit
set_option linter.unusedVariables false

theorem alike_eq (s : ByteArray) (k1 k2 : Nat) (hk1 : k1 < s.size) (hk2 : k2 < s.size) (e1 : k1 = s.size - 1) (e2 : k2 = s.size - 2) (h2 : 2 ≤ s.size) :
    alike (lst s) = (((s[k1]'hk1).toNat : Int) == ((s[k2]'hk2).toNat : Int) && !vz ((s[k1]'hk1).toNat : Int) && ((s[k1]'hk1).toNat : Int) != 108 && ((s[k1]'hk1).toNat : Int) != 115 && ((s[k1]'hk1).toNat : Int) != 122) := by
  have l1 : lastB (lst s) 1 = s[k1]'hk1 := by rw [lastB, lst_len, ← e1, get_list]
  have l2 : lastB (lst s) 2 = s[k2]'hk2 := by rw [lastB, lst_len, ← e2, get_list]
  have cmp : ∀ c d : UInt8, (c == d) = ((c.toNat : Int) == (d.toNat : Int)) := by
    intro c d
    rw [Bool.eq_iff_iff, beq_iff_eq, beq_iff_eq, ← UInt8.toNat_inj]
    omega
  rw [alike, l1, l2, lst_len, decide_eq_true h2, vz_vow, Bool.true_and]
  simp only [bne, cmp]
  rfl

theorem bs_snoc (s : ByteArray) (p : ByteArray) : bs (lst s ++ lst p) = s ++ p := by
  apply ByteArray.ext
  simp [bs, lst]

set_option maxHeartbeats 2000000 in
theorem mend_long (s : ByteArray) (w : World) (k1 k2 : Nat) (hs : s.size ≤ 1048576) (h2 : 2 ≤ s.size) (hk1 : k1 < s.size) (hk2 : k2 < s.size) (e1 : IntKind.i64.wrap ((s.size : Int) - 1) = (k1 : Int)) (e2 : IntKind.i64.wrap ((s.size : Int) - 2) = (k2 : Int))
    (HX : Hid (k1 = s.size - 1)) (HA : Hid (alike (lst s) = (((s[k1]'hk1).toNat : Int) == ((s[k2]'hk2).toNat : Int) && !vz ((s[k1]'hk1).toNat : Int) && ((s[k1]'hk1).toNat : Int) != 108 && ((s[k1]'hk1).toNat : Int) != 115 && ((s[k1]'hk1).toNat : Int) != 122))) :
    Calls Try.prog 30 #[.string s] w fun e w' => e = .returned (.string (bs (mend (lst s)))) ∧ ∃ m, w' = w.drewN m := by
  have h1z : (1 : Int) < (s.size : Int) := by omega
  have h2z : (2 : Int) ≤ (s.size : Int) := by omega
  go_enter Try.func30, Try.ntmps30
  go_upto_region 2 with fail
  go_cut [47] (fun c wx => c = .bool (alike (lst s)) ∧ ∃ m, wx = w.drewN m)
  case first =>
    by_cases g1 : ((s[k1]'hk1).toNat : Int) = ((s[k2]'hk2).toNat : Int)
    · have HA2 : Hid (alike (lst s) = (!vz ((s[k2]'hk2).toNat : Int) && ((s[k2]'hk2).toNat : Int) != 108 && ((s[k2]'hk2).toNat : Int) != 115 && ((s[k2]'hk2).toNat : Int) != 122)) := by
        show _ = _
        rw [HA.out, g1]
        simp
      clear HA
      by_cases v1 : vz ((s[k2]'hk2).toNat : Int) = true
      · have HK : Hid (alike (lst s) = false) := by show _ = _; rw [HA2.out, v1]; rfl
        clear HA2
        go_quiet ((go_at_call 31; refine Calls.quiet_of_same (vowel_z _ _)))
        go_wp2_with fail
        go_meet
        case rel => exact ⟨by rw [HK.out], _, rfl⟩
      have v1' : vz ((s[k2]'hk2).toNat : Int) = false := by simpa using v1
      clear v1
      by_cases c1 : ((s[k2]'hk2).toNat : Int) = 108
      · have HK : Hid (alike (lst s) = false) := by show _ = _; rw [HA2.out, v1', c1]; rfl
        clear HA2
        go_quiet ((go_at_call 31; refine Calls.quiet_of_same (vowel_z _ _)))
        go_wp2_with fail
        go_meet
        case rel => exact ⟨by rw [HK.out], _, rfl⟩
      have c1' : (((s[k2]'hk2).toNat : Int) == 108) = false := beq_eq_false_iff_ne.2 c1
      have c1n : (((s[k2]'hk2).toNat : Int) != 108) = true := bne_iff_ne.2 c1
      by_cases c2 : ((s[k2]'hk2).toNat : Int) = 115
      · have HK : Hid (alike (lst s) = false) := by show _ = _; rw [HA2.out, v1', c2]; rfl
        clear HA2
        go_quiet ((go_at_call 31; refine Calls.quiet_of_same (vowel_z _ _)))
        go_wp2_with fail
        go_meet
        case rel => exact ⟨by rw [HK.out], _, rfl⟩
      have c2' : (((s[k2]'hk2).toNat : Int) == 115) = false := beq_eq_false_iff_ne.2 c2
      have c2n : (((s[k2]'hk2).toNat : Int) != 115) = true := bne_iff_ne.2 c2
      by_cases c3 : ((s[k2]'hk2).toNat : Int) = 122
      · have HK : Hid (alike (lst s) = false) := by show _ = _; rw [HA2.out, v1', c3]; rfl
        clear HA2
        go_quiet ((go_at_call 31; refine Calls.quiet_of_same (vowel_z _ _)))
        go_wp2_with fail
        go_meet
        case rel => exact ⟨by rw [HK.out], _, rfl⟩
      have c3' : (((s[k2]'hk2).toNat : Int) == 122) = false := beq_eq_false_iff_ne.2 c3
      have c3n : (((s[k2]'hk2).toNat : Int) != 122) = true := bne_iff_ne.2 c3
      have HK : Hid (alike (lst s) = true) := by show _ = _; rw [HA2.out, v1', bne, bne, bne, c1', c2', c3']; rfl
      clear HA2
      go_quiet ((go_at_call 31; refine Calls.quiet_of_same (vowel_z _ _)))
      go_wp2_with fail
      go_meet
      case rel => exact ⟨by rw [HK.out], _, rfl⟩
    · have g1' : (((s[k1]'hk1).toNat : Int) == ((s[k2]'hk2).toNat : Int)) = false := beq_eq_false_iff_ne.2 g1
      have HK : Hid (alike (lst s) = false) := by show _ = _; rw [HA.out, g1']; rfl
      clear HA
      go_quiet ((go_at_call 31; refine Calls.quiet_of_same (vowel_z _ _)))
      go_wp2_with fail
      go_meet
      case rel => exact ⟨by rw [HK.out], _, rfl⟩
  case rest =>
    obtain ⟨rfl, m, rfl⟩ := hcut
    clear HA
    by_cases ha : alike (lst s) = true
    · have HM : Hid (mend (lst s) = cutB (lst s) 1) := by show _ = _; rw [mend, if_pos ha]
      rw [ha]
      clear ha
      have hn1 : 1 ≤ s.size := by omega
      go_wp2_with fail
      go_ret
      rw [HM.out, ← extract_cut, HX.out]
      exact ⟨rfl, _, rfl⟩
    · have ha' : alike (lst s) = false := by simpa using ha
      rw [ha']
      have HM : Hid (mend (lst s) = if ends (lst s) [97, 116] || ends (lst s) [98, 108] || ends (lst s) [105, 122] then lst s ++ [101] else lst s) := by show _ = _; rw [mend, if_neg ha]
      clear ha ha'
      go_wp2_with fail
      refine (ends_any s _ _ hs (by decide)).mono ?_
      rintro e w1 ⟨rfl, hw⟩
      obtain rfl := hw.symm
      rw [show lst ⟨#[97, 116]⟩ = [97, 116] from rfl]
      by_cases h1 : ends (lst s) [97, 116] = true
      · rw [h1]
        rw [h1] at HM
        clear h1
        go_wp2_with fail
        go_ret
        rw [HM.out]
        exact ⟨by simp; exact (bs_snoc s ⟨#[101]⟩).symm, _, rfl⟩
      have h1' : ends (lst s) [97, 116] = false := by simpa using h1
      rw [h1']
      rw [h1'] at HM
      clear h1 h1'
      go_wp2_with fail
      refine (ends_any s _ _ hs (by decide)).mono ?_
      rintro e w1 ⟨rfl, hw⟩
      obtain rfl := hw.symm
      rw [show lst ⟨#[98, 108]⟩ = [98, 108] from rfl]
      by_cases h1 : ends (lst s) [98, 108] = true
      · rw [h1]
        rw [h1] at HM
        clear h1
        go_wp2_with fail
        go_ret
        rw [HM.out]
        exact ⟨by simp; exact (bs_snoc s ⟨#[101]⟩).symm, _, rfl⟩
      have h1' : ends (lst s) [98, 108] = false := by simpa using h1
      rw [h1']
      rw [h1'] at HM
      clear h1 h1'
      go_wp2_with fail
      refine (ends_any s _ _ hs (by decide)).mono ?_
      rintro e w1 ⟨rfl, hw⟩
      obtain rfl := hw.symm
      rw [show lst ⟨#[105, 122]⟩ = [105, 122] from rfl]
      by_cases h1 : ends (lst s) [105, 122] = true
      · rw [h1]
        rw [h1] at HM
        clear h1
        go_wp2_with fail
        go_ret
        rw [HM.out]
        exact ⟨by simp; exact (bs_snoc s ⟨#[101]⟩).symm, _, rfl⟩
      have h1' : ends (lst s) [105, 122] = false := by simpa using h1
      rw [h1']
      rw [h1'] at HM
      clear h1 h1'
      go_wp2_with fail
      go_ret
      rw [HM.out]
      exact ⟨by simp [bs_lst], _, rfl⟩

set_option maxHeartbeats 1000000 in
theorem mend_short (s : ByteArray) (w : World) (hs : s.size < 2) :
    Calls Try.prog 30 #[.string s] w fun e w' => e = .returned (.string (bs (mend (lst s)))) ∧ ∃ m, w' = w.drewN m := by
  have hd : decide ((2 : Int) ≤ (s.size : Int)) = false := decide_eq_false (by omega)
  have HN : ∀ a b : UInt8, Hid (ends (lst s) [a, b] = false) := by
    intro a b
    show _ = _
    by_cases h : ends (lst s) [a, b] = true
    · have := ends_len h
      rw [lst_len] at this
      simp at this
      omega
    · simpa using h
  have H1 := HN 97 116
  have H2 := HN 98 108
  have H3 := HN 105 122
  have HA : Hid (alike (lst s) = false) := by
    show _ = _
    rw [alike, lst_len, decide_eq_false (by omega)]
    rfl
  have HM : Hid (mend (lst s) = lst s) := by show _ = _; rw [mend, HA.out, H1.out, H2.out, H3.out]; rfl
  clear HA HN
  go_enter Try.func30, Try.ntmps30
  go_wp2_with fail
  go_quiet (fail)
  go_wp2_with fail
  refine (ends_any s _ _ (by omega) (by decide)).mono ?_
  rintro e w1 ⟨rfl, hw⟩
  obtain rfl := hw.symm
  rw [show lst ⟨#[97, 116]⟩ = [97, 116] from rfl, H1.out]
  go_wp2_with fail
  refine (ends_any s _ _ (by omega) (by decide)).mono ?_
  rintro e w1 ⟨rfl, hw⟩
  obtain rfl := hw.symm
  rw [show lst ⟨#[98, 108]⟩ = [98, 108] from rfl, H2.out]
  go_wp2_with fail
  refine (ends_any s _ _ (by omega) (by decide)).mono ?_
  rintro e w1 ⟨rfl, hw⟩
  obtain rfl := hw.symm
  rw [show lst ⟨#[105, 122]⟩ = [105, 122] from rfl, H3.out]
  go_wp2_with fail
  go_ret
  rw [HM.out]
  exact ⟨by simp [bs_lst], _, rfl⟩

theorem mend_any (s : ByteArray) (w : World) (hs : s.size ≤ 1048576) :
    Calls Try.prog 30 #[.string s] w fun e w' => e = .returned (.string (bs (mend (lst s)))) ∧ ∃ m, w' = w.drewN m := by
  by_cases h : s.size < 2
  · exact mend_short s w h
  · exact mend_long s w (s.size - 1) (s.size - 2) hs (by omega) (by omega) (by omega)
      (by rw [IntWalk.i64_in _ (by omega)]; omega) (by rw [IntWalk.i64_in _ (by omega)]; omega) rfl (alike_eq s _ _ (by omega) (by omega) rfl rfl (by omega))
end Go.Proofs.Yteedakkclppipai
