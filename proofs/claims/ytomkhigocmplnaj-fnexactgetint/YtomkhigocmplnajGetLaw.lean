import Derived.Test.YtomkhigocmplnajPkG
import Derived.Test.YtomkhigocmplnajByteS
namespace Go.Proofs.Ytomkhigocmplnaj
open Go Go.RowKit
set_option linter.unusedVariables false

set_option maxHeartbeats 2000000 in
theorem specGetInt_any (b off cap : Nat) (bs : List UInt8) (at_ : Int) (w : World) (hc : BytesAt w b off bs) :
    Calls Try.prog 10 #[.slice (some ⟨b, off, none⟩) bs.length cap, .int .i64 at_] w fun e w' => e = .returned (.tuple #[.int .i64 (getOut bs at_).1, .int .i64 (getOut bs at_).2.1, .int .i64 (getOut bs at_).2.2]) ∧ ∃ m, w' = w.drewN m := by
  have Hc := hidd hc
  clear hc
  by_cases hlong : 1048576 < bs.length
  · have hlz : (1048576 : Int) < (bs.length : Int) := by omega
    have HE : Hid (getOut bs at_ = (0, 0, 2)) := by show _ = _; rw [getOut, if_pos hlong]
    go_enter Try.func10, Try.ntmps10
    go_wp2
    go_ret3
    rw [HE.out]
    exact ⟨rfl, 0, rfl⟩
  · have hlz : ¬ (1048576 : Int) < (bs.length : Int) := by omega
    by_cases h0 : at_ < 0
    · have HE : Hid (getOut bs at_ = (0, 0, 1)) := by show _ = _; rw [getOut, if_neg hlong, if_pos (by omega)]
      go_enter Try.func10, Try.ntmps10
      go_wp2
      go_ret3
      rw [HE.out]
      exact ⟨rfl, 0, rfl⟩
    · obtain ⟨k, rfl⟩ := Int.eq_ofNat_of_zero_le (Int.not_lt.1 h0)
      by_cases hk : k ≤ bs.length
      · have hkz : ¬ (bs.length : Int) < (k : Int) := by omega
        have h0z : ¬ (k : Int) < 0 := by omega
        have HE : Hid (getOut bs (k : Int) = match getL (bs.drop k) with
          | none => (0, 0, 3)
          | some (v, s) => ((v : Int), (k : Int) + (s : Int), 0)) := by show _ = _; rw [getOut, if_neg hlong, if_neg (by simp; omega)]; rfl
        clear h0
        go_enter Try.func10, Try.ntmps10
        go_wp2_with fail
        refine (specGet_any b off cap k bs _ (by omega) hk Hc.out).mono ?_
        rintro e w1 ⟨⟨m, rfl⟩, h⟩
        rcases h with ⟨hg, x, y, rfl⟩ | ⟨v, s, hg, rfl⟩
        · have HF : Hid (getOut bs (k : Int) = (0, 0, 3)) := by show _ = _; rw [HE.out, hg]
          clear hg HE
          go_wp2
          go_ret3
          rw [HF.out]
          exact ⟨rfl, m, rfl⟩
        · have HF : Hid (getOut bs (k : Int) = ((v : Int), (k : Int) + (s : Int), 0)) := by show _ = _; rw [HE.out, hg]
          clear hg HE
          go_wp2
          go_ret3
          rw [HF.out]
          exact ⟨rfl, m, rfl⟩
      · have hkz : (bs.length : Int) < (k : Int) := by omega
        have h0z : ¬ (k : Int) < 0 := by omega
        have HE : Hid (getOut bs (k : Int) = (0, 0, 1)) := by show _ = _; rw [getOut, if_neg hlong, if_pos (by omega)]
        clear h0
        go_enter Try.func10, Try.ntmps10
        go_wp2
        go_ret3
        rw [HE.out]
        exact ⟨rfl, 0, rfl⟩

set_option maxHeartbeats 2000000 in
set_option maxRecDepth 100000 in
theorem getLaw_walk (v : Value) (n : Nat) (bs : List UInt8) (at_ : Int) (w : World) (hl : bs.length = n) (hvn : ∃ ao cap, v = .slice ao n cap)
    (hto : ∀ w', n ≤ 1048576 → Below w.heap.size w w' → Calls Try.prog 11 #[v] w' fun e w2 => e = .returned (.slice (some ⟨w'.heap.size, 0, none⟩) n n) ∧ w2.ownsRow w'.heap.size 5 1 (.slice (some ⟨w'.heap.size, 0, none⟩) n n) n (Lib.byteCells bs) ∧ Below w'.heap.size w' w2) :
    Calls Try.prog 4 #[v, .int .i64 at_] w fun e w' => e = .returned (.bool true) ∧ Below w.heap.size w w' := by
  obtain ⟨ao, cap, rfl⟩ := hvn
  subst hl
  have HT := hidd hto
  clear hto
  by_cases hlong : 1048576 < bs.length
  · have hlz : (1048576 : Int) < (bs.length : Int) := by omega
    go_enter Try.func4, Try.ntmps4
    go_wp2
    go_ret
    exact ⟨rfl, Below.refl _ _⟩
  · have hlz : ¬ (1048576 : Int) < (bs.length : Int) := by omega
    go_enter Try.func4, Try.ntmps4
    go_wp2_with fail
    refine (HT.out _ (by omega) (Below.refl _ _)).mono ?_
    rintro e w1 ⟨rfl, hown1, hb1⟩
    have HO1 := hidd hown1
    have HB1 := hidd hb1
    clear hown1 hb1
    go_wp2_with fail
    refine (specGetInt_any w.heap.size 0 _ bs at_ _ (own_bytes HO1.out rfl)).mono ?_
    rintro e w2 ⟨rfl, m2, rfl⟩
    have HB2 : Hid (Below w.heap.size w (w1.drewN m2)) := below_drewN HB1.out m2
    clear HO1
    go_wp2_with fail
    refine (HT.out _ (by omega) HB2.out).mono ?_
    rintro e w3 ⟨rfl, hown3, hb3⟩
    have HO3 := hidd hown3
    have HB3 := hidd (HB2.out.trans (hb3.mono HB2.out.size))
    clear hown3 hb3
    generalize (w1.drewN m2).heap.size = g3 at *
    go_wp2_with fail
    refine (implGetInt_any g3 0 _ bs at_ _ (Nat.le_refl _) (own_bytes HO3.out rfl)).mono ?_
    rintro e w4 ⟨rfl, hw4⟩
    obtain rfl := hw4.symm
    clear hw4
    have hn1 : ((getOut bs at_).1 != (getOut bs at_).1) = false := by simp
    have hn2 : ((getOut bs at_).2.1 != (getOut bs at_).2.1) = false := by simp
    have hn3 : ((getOut bs at_).2.2 != (getOut bs at_).2.2) = false := by simp
    generalize (getOut bs at_).1 = A1 at *
    generalize (getOut bs at_).2.1 = A2 at *
    generalize (getOut bs at_).2.2 = A3 at *
    go_wp2_with fail
    refine (HT.out _ (by omega) HB3.out).mono ?_
    rintro e w5 ⟨rfl, hown5, hb5⟩
    have HO5 := hidd hown5
    have HO3' := hidd (own_below HO3.out hb5)
    have HB5 := hidd (HB3.out.trans (hb5.mono HB3.out.size))
    clear hown5 hb5 HO3
    generalize w3.heap.size = g5 at *
    go_wp2_with fail
    refine (eqBytes_own _ _ bs.length _ _ bs _ (by omega) rfl HO3'.out HO5.out).mono ?_
    rintro e w7 ⟨rfl, m7, rfl⟩
    go_wp2
    go_ret
    exact ⟨rfl, below_drewN HB5.out m7⟩

theorem getLaw_any (a0 : Option Addr) (n cap : Nat) (bs : List UInt8) (at_ : Int) (w : World) (h : RowB w a0 n bs) :
    Calls Try.prog 4 #[.slice a0 n cap, .int .i64 at_] w fun e w' => e = .returned (.bool true) ∧ Below w.heap.size w w' :=
  getLaw_walk _ n bs at_ w h.1 ⟨a0, cap, rfl⟩ fun w' hn hb => h.to cap w' hn hb
end Go.Proofs.Ytomkhigocmplnaj
