import Derived.Test.YtfdmahbjofolhamDoorLkA
import Derived.Test.YtfdmahbjofolhamDoorLkR
import Derived.Test.YtfdmahbjofolhamDoorEdJ
import Derived.BigQuiet
namespace Go.Proofs.YtfdmahbjofolhamDoor
open Go Go.RowKit
set_option linter.unusedVariables false

theorem drewN_add (w : World) (m : Nat) : ∀ n, (w.drewN m).drewN n = w.drewN (m + n)
  | 0 => rfl
  | n + 1 => congrArg World.drew (drewN_add w m n)
/-! spec.LikeText. -/
def lkVal (s t : ByteArray) : Bool := if txCode [s, t] = 0 then fit (partsL (runes s)) (runes t) else false
theorem lkVal_ne {s t : ByteArray} (h : txCode [s, t] ≠ 0) : lkVal s t = false := by rw [lkVal, if_neg h]
theorem txCode_ok {s t : ByteArray} (h1 : ¬ 65536 < s.size) (h2 : ¬ 65536 < t.size) (h3 : validB s = true) (h4 : validB t = true) : txCode [s, t] = 0 ∧ lkVal s t = fit (partsL (runes s)) (runes t) := by
  have : txCode [s, t] = 0 := by rw [txCode_two, if_neg (by omega), if_neg (by simp [h3]), if_neg (by simp [h4])]
  exact ⟨this, by rw [lkVal, if_pos this]⟩

set_option maxHeartbeats 8000000 in
set_option maxRecDepth 100000 in
theorem specLike_any (s t : ByteArray) (w : World) (hs : s.size ≤ 1048576) (ht : t.size ≤ 1048576) :
    Calls Tryd.prog 17 #[.string s, .string t] w fun e w' => e = .returned (.tuple #[.bool (lkVal s t), .int .i64 (txCode [s, t])]) ∧ Below w.heap.size w w' := by
  by_cases h1 : 65536 < s.size
  · have HC : Hid (txCode [s, t] = 2) := by show _ = _; rw [txCode_two, if_pos (Or.inl h1)]
    have HV := hidd (lkVal_ne (s := s) (t := t) (by rw [HC.out]; omega))
    have hz : (65536 : Int) < (s.size : Int) := by omega
    go_enter Tryd.func17, Tryd.ntmps17
    go_wp2
    go_ret2
    rw [HV.out, HC.out]
    exact ⟨rfl, Below.refl _ _⟩
  have hz1 : ¬ (65536 : Int) < (s.size : Int) := by omega
  by_cases h2 : 65536 < t.size
  · have HC : Hid (txCode [s, t] = 2) := by show _ = _; rw [txCode_two, if_pos (Or.inr h2)]
    have HV := hidd (lkVal_ne (s := s) (t := t) (by rw [HC.out]; omega))
    have hz : (65536 : Int) < (t.size : Int) := by omega
    go_enter Tryd.func17, Tryd.ntmps17
    go_wp2
    go_ret2
    rw [HV.out, HC.out]
    exact ⟨rfl, Below.refl _ _⟩
  have hz2 : ¬ (65536 : Int) < (t.size : Int) := by omega
  cases h3 : validB s with
  | false =>
    have HC : Hid (txCode [s, t] = 3) := by show _ = _; rw [txCode_two, if_neg (by omega), if_pos h3]
    have HV := hidd (lkVal_ne (s := s) (t := t) (by rw [HC.out]; omega))
    have HD := hidd (decCode_bad h1 h3)
    clear h3
    go_enter Tryd.func17, Tryd.ntmps17
    go_wp2_with fail
    refine (specDecode_any s _ hs).mono ?_
    rintro e w1 ⟨v, rfl, hown, hb1⟩
    clear hown
    rw [HD.out]
    go_wp2
    go_ret2
    rw [HV.out, HC.out]
    exact ⟨rfl, hb1⟩
  | true =>
  cases h4 : validB t with
  | false =>
    have HC : Hid (txCode [s, t] = 3) := by show _ = _; rw [txCode_two, if_neg (by omega), if_neg (by simp [h3]), if_pos h4]
    have HV := hidd (lkVal_ne (s := s) (t := t) (by rw [HC.out]; omega))
    have HD := hidd (decList_ok h1 h3).2
    have HD2 := hidd (decCode_bad h2 h4)
    clear h3 h4
    go_enter Tryd.func17, Tryd.ntmps17
    go_wp2_with fail
    refine (specDecode_any s _ hs).mono ?_
    rintro e w1 ⟨v, rfl, hown, hb1⟩
    clear hown
    rw [HD.out]
    go_wp2_with fail
    refine (specDecode_any t _ ht).mono ?_
    rintro e w2 ⟨v2, rfl, hown, hb2⟩
    clear hown
    rw [HD2.out]
    have HB := hidd (hb1.trans (hb2.mono hb1.size))
    clear hb1 hb2
    go_wp2
    go_ret2
    rw [HV.out, HC.out]
    exact ⟨rfl, HB.out⟩
  | true =>
  have HD := hidd (decList_ok h1 h3)
  have HD2 := hidd (decList_ok h2 h4)
  have HE := hidd (txCode_ok h1 h2 h3 h4)
  have hrs := runes_le s
  have hrt := runes_le t
  have hpl := partsL_len (runes s)
  clear h3 h4
  go_enter Tryd.func17, Tryd.ntmps17
  go_wp2_with fail
  refine (specDecode_any s _ hs).mono ?_
  rintro e w1 ⟨v, rfl, hown, hb1⟩
  rw [HD.out.1] at hown
  rw [HD.out.2]
  have HO1 := hidd hown
  have HB1 := hidd hb1
  clear hown hb1
  go_wp2_with fail
  refine (specDecode_any t _ ht).mono ?_
  rintro e w2 ⟨v2, rfl, hown, hb2⟩
  rw [HD2.out.1] at hown
  rw [HD2.out.2]
  have HP := hidd (l05Parts_any (runes s) v w2 (by omega) ((HoldI.own HO1.out).below hb2))
  have HT := hidd (HoldI.own hown)
  have HB := hidd (HB1.out.trans (hb2.mono HB1.out.size))
  clear hown hb2 HO1
  go_wp2_with fail
  refine HP.out.mono ?_
  rintro e w3 ⟨v3, rfl, hown3, hb3⟩
  have HB3 := hidd (HB.out.trans (hb3.mono HB.out.size))
  obtain ⟨aT, cT, rfl, hhT⟩ := HT.out.below hb3
  obtain ⟨aP, cP, rfl, hhP⟩ := HoldI.own hown3
  have HhT := hidd hhT
  have HhP := hidd hhP
  clear hb3 hown3 HP HT HB hhT hhP HB1
  generalize partsL (runes s) = P at *
  generalize runes t = T at *
  go_wp2
  go_loopw [10, 11, 12, 13] (fun sv mv iv kv wr => ∃ (star mark : Int) (i k : Nat), sv = .int .i64 star ∧ mv = .int .i64 mark ∧ iv = .int .i64 (i : Int) ∧ kv = .int .i64 (k : Int) ∧ LkRel P T star mark i k ∧ ∃ m, wr = w3.drewN m) (fun _ mv _ kv _ => lkMeas P T (intOf mv).toNat (intOf kv).toNat)
  case atStart => exact ⟨-1, 0, 0, 0, rfl, rfl, rfl, rfl, LkRel.start P T, 0, rfl⟩
  case round =>
    obtain ⟨star, mark, i, k, rfl, rfl, rfl, rfl, hrel', m, rfl⟩ := hrel
    have HR := hidd hrel'
    have hmk := hrel'.marks
    have hil := hrel'.1
    have hkl := hrel'.2.1
    clear hrel'
    by_cases hlt : i < T.length
    · have hltz : (i : Int) < (T.length : Int) := by omega
      obtain ⟨gT, oT, rfl, hgT, hcT⟩ := HhT.out.resolve_left (fun h => by rw [h] at hlt; simp at hlt)
      have c1 := hcT i hlt
      clear hcT
      by_cases hk : k < P.length
      · have hkz : (k : Int) < (P.length : Int) := by omega
        obtain ⟨gP, oP, rfl, hgP, hcP⟩ := HhP.out.resolve_left (fun h => by rw [h] at hk; simp at hk)
        have c2 := hcP k hk
        clear hcP
        obtain ⟨x, hx⟩ : ∃ x, P.getD k 0 = x := ⟨_, rfl⟩
        obtain ⟨c, hc⟩ : ∃ c, T.getD i 0 = c := ⟨_, rfl⟩
        rw [hx] at c2
        rw [hc] at c1
        have HX := hidd hx
        have Hc := hidd hc
        clear hx hc
        by_cases hx2 : x = -2
        · subst hx2
          go_wp2
          go_roundw
          case rel => exact ⟨(k : Int), (i : Int), i, k + 1, rfl, by go_num, by go_num, by go_num, HR.out.star hk HX.out, m, rfl⟩
          case measure => simp only [intOf, Int.toNat_natCast]; exact lkMeas_step (by omega) hk
        have bx2 : (x == -2) = false := beq_false_of_ne hx2
        have hx2' : P.getD k 0 ≠ -2 := by rw [HX.out]; exact hx2
        have HX2 := hidd hx2'
        clear hx2'
        by_cases hx1 : x = -1
        · have Ho : Hid (one (P.getD k 0) (T.getD i 0) = true) := by show _ = _; rw [HX.out, hx1]; rfl
          have HR2 := hidd (HR.out.char hk hlt HX2.out Ho.out)
          subst hx1
          go_wp2
          go_quiet (fail)
          go_wp2
          go_roundw
          case rel => exact ⟨star, mark, i + 1, k + 1, rfl, by go_num, by go_num, by go_num, HR2.out, m + nq, by first | rfl | exact drewN_add _ _ _⟩
          case measure => (simp only [intOf]; rw [show ((k : Int) + 1).toNat = k + 1 from by omega, Int.toNat_natCast]; exact lkMeas_step (Nat.le_refl _) hk)
        have bx1 : (x == -1) = false := beq_false_of_ne hx1
        by_cases hxc : x = c
        · have Ho : Hid (one (P.getD k 0) (T.getD i 0) = true) := by show _ = _; rw [HX.out, Hc.out, hxc]; simp [one]
          have HR2 := hidd (HR.out.char hk hlt HX2.out Ho.out)
          have bxc : (x == c) = true := by simp [hxc]
          clear hxc
          go_wp2
          go_quiet (fail)
          go_wp2
          go_roundw
          case rel => exact ⟨star, mark, i + 1, k + 1, rfl, by go_num, by go_num, by go_num, HR2.out, m + nq, by first | rfl | exact drewN_add _ _ _⟩
          case measure => (simp only [intOf]; rw [show ((k : Int) + 1).toNat = k + 1 from by omega, Int.toNat_natCast]; exact lkMeas_step (Nat.le_refl _) hk)
        have bxc : (x == c) = false := beq_false_of_ne hxc
        have HM : Hid (misses P T i k) := fun _ => ⟨HX2.out, by rw [HX.out, Hc.out]; simp [one, hx1, hxc]⟩
        by_cases hst : star = -1
        · subst hst
          have HF := hidd (HR.out.fail hlt HM.out)
          go_wp2
          go_quiet (fail)
          go_wp2
          go_ret2
          rw [HE.out.1, HE.out.2, HF.out]
          exact ⟨rfl, below_drewN HB3.out _⟩
        obtain ⟨S, rfl⟩ : ∃ S : Nat, star = (S : Int) := ⟨star.toNat, by omega⟩
        obtain ⟨M, rfl, hMi, hSk, hR2⟩ := HR.out.back hlt HM.out
        have HR2 := hidd hR2
        clear hR2
        have hS0 : (0 : Int) ≤ (S : Int) := by omega
        go_wp2
        go_quiet (fail)
        go_wp2
        go_roundw
        case rel => exact ⟨(S : Int), ((M + 1 : Nat) : Int), M + 1, S + 1, rfl, by go_num, by go_num, by go_num, HR2.out, m + nq, by first | rfl | exact drewN_add _ _ _⟩
        case measure =>
          simp only [intOf]
          have e1 : ((M : Int) + 1).toNat = M + 1 := by omega
          have e2 : ((S : Int) + 1).toNat = S + 1 := by omega
          rw [e1, e2, Int.toNat_natCast, Int.toNat_natCast]
          exact lkMeas_back (by omega)
      · have hkz : ¬ (k : Int) < (P.length : Int) := by omega
        have HM : Hid (misses P T i k) := fun h => absurd h hk
        by_cases hst : star = -1
        · subst hst
          have HF := hidd (HR.out.fail hlt HM.out)
          go_wp2
          go_quiet (fail)
          go_wp2
          go_ret2
          rw [HE.out.1, HE.out.2, HF.out]
          exact ⟨rfl, below_drewN HB3.out _⟩
        obtain ⟨S, rfl⟩ : ∃ S : Nat, star = (S : Int) := ⟨star.toNat, by omega⟩
        obtain ⟨M, rfl, hMi, hSk, hR2⟩ := HR.out.back hlt HM.out
        have HR2 := hidd hR2
        clear hR2
        have hS0 : (0 : Int) ≤ (S : Int) := by omega
        go_wp2
        go_quiet (fail)
        go_wp2
        go_roundw
        case rel => exact ⟨(S : Int), ((M + 1 : Nat) : Int), M + 1, S + 1, rfl, by go_num, by go_num, by go_num, HR2.out, m + nq, by first | rfl | exact drewN_add _ _ _⟩
        case measure =>
          simp only [intOf]
          have e1 : ((M : Int) + 1).toNat = M + 1 := by omega
          have e2 : ((S : Int) + 1).toNat = S + 1 := by omega
          rw [e1, e2, Int.toNat_natCast, Int.toNat_natCast]
          exact lkMeas_back (by omega)
    · have hltz : ¬ (i : Int) < (T.length : Int) := by omega
      obtain rfl : i = T.length := by omega
      have HF := hidd HR.out.done
      clear HR
      go_wp2
      go_loopw [13] (fun kv wr => ∃ k : Nat, k ≤ P.length ∧ kv = .int .i64 (k : Int) ∧ fit P T = fit (P.drop k) [] ∧ wr = w3.drewN m) (fun kv _ => P.length - (intOf kv).toNat)
      case atStart => exact ⟨k, hkl, rfl, HF.out, rfl⟩
      case round =>
        obtain ⟨k, hkl, rfl, hf, rfl⟩ := hrel
        clear HF
        have HF := hidd hf
        clear hf
        by_cases hk : k < P.length
        · have hkz : (k : Int) < (P.length : Int) := by omega
          obtain ⟨gP, oP, rfl, hgP, hcP⟩ := HhP.out.resolve_left (fun h => by rw [h] at hk; simp at hk)
          have c2 := hcP k hk
          have Hd := hidd (dropZ P k hk)
          clear hcP
          obtain ⟨x, hx⟩ : ∃ x, P.getD k 0 = x := ⟨_, rfl⟩
          rw [hx] at c2 Hd
          clear hx
          by_cases hx2 : x = -2
          · subst hx2
            have HF2 := hidd HF.out
            rw [Hd.out, fit_star_nil] at HF2
            clear Hd
            go_wp2
            go_roundw
            case rel => exact ⟨k + 1, by omega, by go_num, HF2.out, by first | rfl | trivial⟩
            case measure => simp [intOf]; omega
          · have bx2 : (x == -2) = false := beq_false_of_ne hx2
            have HF2 := hidd HF.out
            rw [Hd.out, fit_one_nil hx2] at HF2
            have hke : ((k : Int) == (P.length : Int)) = false := beq_false_of_ne (by omega)
            clear Hd
            go_wp2
            go_ret2
            rw [HE.out.1, HE.out.2, HF2.out]
            exact ⟨by first | rfl | simp [hke], below_drewN HB3.out _⟩
        · have hkz : ¬ (k : Int) < (P.length : Int) := by omega
          obtain rfl : k = P.length := by omega
          have HF2 := hidd HF.out
          rw [List.drop_length, fit_nil] at HF2
          go_wp2
          go_ret2
          rw [HE.out.1, HE.out.2, HF2.out]
          exact ⟨by first | rfl | simp, below_drewN HB3.out _⟩
end Go.Proofs.YtfdmahbjofolhamDoor
