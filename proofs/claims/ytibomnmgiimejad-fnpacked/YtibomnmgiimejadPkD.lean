import Derived.Test.YtibomnmgiimejadPkC
namespace Go.Proofs.Ytibomnmgiimejad
open Go Go.RowKit
set_option linter.unusedVariables false

/-- What GetInt tells: the number, the place behind it, the code. -/
def getOut (bs : List UInt8) (at_ : Int) : Int × Int × Int :=
  if 1048576 < bs.length then (0, 0, 2) else if ¬ (0 ≤ at_ ∧ at_ ≤ bs.length) then (0, 0, 1) else
  match getL (bs.drop at_.toNat) with
  | none => (0, 0, 3)
  | some (v, s) => ((v : Int), at_ + (s : Int), 0)
theorem BytesAt.drop {w : World} {b off : Nat} {bs : List UInt8} (h : BytesAt w b off bs) (k : Nat) : BytesAt w b (off + k) (bs.drop k) := by
  intro t ht
  rw [List.length_drop] at ht
  have := h (k + t) (by omega)
  rw [← Nat.add_assoc] at this
  rw [this]
  simp

theorem leading_from (b off cap k : Nat) (bs : List UInt8) (w : World) (hl : bs.length ≤ 1048576) (hc : BytesAt w b off bs) :
    Calls Try.prog 38 #[.slice (some ⟨b, off + k, none⟩) (bs.length - k) (cap - k)] w fun e w' => e = .returned (.tuple #[.int .i64 (getV (bs.drop k)), .int .i64 (getS (bs.drop k))]) ∧ w' = w := by
  have := leadingInt_some b (off + k) (cap - k) (bs.drop k) w (by rw [List.length_drop]; omega) (hc.drop k)
  rw [List.length_drop] at this
  exact this

set_option maxHeartbeats 1000000 in
set_option maxRecDepth 100000 in
theorem implGetInt_any (b off cap : Nat) (bs : List UInt8) (at_ : Int) (w : World) (hcap : bs.length ≤ cap) (hc : BytesAt w b off bs) :
    Calls Try.prog 11 #[.slice (some ⟨b, off, none⟩) bs.length cap, .int .i64 at_] w fun e w' => e = .returned (.tuple #[.int .i64 (getOut bs at_).1, .int .i64 (getOut bs at_).2.1, .int .i64 (getOut bs at_).2.2]) ∧ w' = w := by
  have Hc := hidd hc
  clear hc
  by_cases hlong : 1048576 < bs.length
  · have hlz : (1048576 : Int) < (bs.length : Int) := by omega
    have HE : Hid (getOut bs at_ = (0, 0, 2)) := by show _ = _; rw [getOut, if_pos hlong]
    go_enter Try.func11, Try.ntmps11
    go_wp2
    go_ret3
    rw [HE.out]
    exact ⟨rfl, rfl⟩
  · have hlz : ¬ (1048576 : Int) < (bs.length : Int) := by omega
    by_cases hat : 0 ≤ at_ ∧ at_ ≤ bs.length
    · have HW : Hid ((decide ((0 : Int) ≤ at_) && decide (at_ ≤ (bs.length : Int))) = true) := by show _ = _; simp [hat.1, hat.2]
      obtain ⟨k, rfl⟩ := Int.eq_ofNat_of_zero_le hat.1
      have hk : k ≤ bs.length := by omega
      have HE : Hid (getOut bs (k : Int) = match getL (bs.drop k) with
          | none => (0, 0, 3)
          | some (v, s) => ((v : Int), (k : Int) + (s : Int), 0)) := by show _ = _; rw [getOut, if_neg hlong, if_neg (by simp; omega)]; rfl
      clear hat
      go_enter Try.func11, Try.ntmps11
      go_wp2_with fail
      refine (within_any _ _ _ _).mono ?_
      rintro e w' ⟨rfl, hw'⟩
      obtain rfl := hw'.symm
      clear hw'
      rw [HW.out]
      by_cases hck : cap = k
      · subst hck
        go_wp2_with fail
        refine (leadingInt_none _ _ _).mono ?_
        rintro e w' ⟨rfl, hw'⟩
        obtain rfl := hw'.symm
        clear hw'
        obtain ⟨e1, e2⟩ := getVS_none (bs := []) rfl
        rw [e1, e2]
        have HF : Hid (getOut bs (cap : Int) = (0, 0, 3)) := by show _ = _; rw [HE.out, List.drop_of_length_le hcap]; rfl
        clear e1 e2 HE
        go_wp2
        go_ret3
        rw [HF.out]
        exact ⟨rfl, rfl⟩
      · go_wp2_with fail
        refine (leading_from b off cap k bs _ (by omega) Hc.out).mono ?_
        rintro e w' ⟨rfl, hw'⟩
        obtain rfl := hw'.symm
        clear hw'
        cases hg : getL (bs.drop k) with
        | none =>
          obtain ⟨e1, e2⟩ := getVS_none hg
          rw [e1, e2]
          have HF : Hid (getOut bs (k : Int) = (0, 0, 3)) := by show _ = _; rw [HE.out, hg]
          clear e1 e2 hg HE
          go_wp2
          go_ret3
          rw [HF.out]
          exact ⟨rfl, rfl⟩
        | some p =>
          obtain ⟨v, s⟩ := p
          obtain ⟨e1, e2⟩ := getVS_some hg
          have hs := getL_le hg
          have hv := (getL_inv hg).2.1
          rw [List.length_drop] at hs
          rw [e1, e2]
          have HF : Hid (getOut bs (k : Int) = ((v : Int), (k : Int) + (s : Int), 0)) := by show _ = _; rw [HE.out, hg]
          have hs0 : ¬ (s : Int) = 0 := by omega
          clear e1 e2 hg HE
          go_wp2
          go_ret3
          rw [HF.out]
          exact ⟨rfl, rfl⟩
    · have HW : Hid ((decide ((0 : Int) ≤ at_) && decide (at_ ≤ (bs.length : Int))) = false) := by show _ = _; simp; omega
      have HE : Hid (getOut bs at_ = (0, 0, 1)) := by show _ = _; rw [getOut, if_neg hlong, if_pos hat]
      clear hat
      go_enter Try.func11, Try.ntmps11
      go_wp2_with fail
      refine (within_any _ _ _ _).mono ?_
      rintro e w' ⟨rfl, hw'⟩
      obtain rfl := hw'.symm
      clear hw'
      rw [HW.out]
      go_wp2
      go_ret3
      rw [HE.out]
      exact ⟨rfl, rfl⟩
end Go.Proofs.Ytibomnmgiimejad
