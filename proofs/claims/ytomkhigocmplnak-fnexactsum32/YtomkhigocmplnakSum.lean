import Derived.Test.YtomkhigocmplnakByteS
namespace Go.Proofs.Ytomkhigocmplnak
open Go Go.RowKit
set_option linter.unusedVariables false

theorem foldl_snoc (f : Nat → UInt8 → Nat) (h0 : Nat) (bs : List UInt8) (k : Nat) (h : k < bs.length) : (bs.take (k + 1)).foldl f h0 = f ((bs.take k).foldl f h0) (bs.getD k 0) := by
  have ht : bs.take (k + 1) = bs.take k ++ [bs.getD k 0] := by rw [List.take_succ_eq_append_getElem h]; simp [h]
  rw [ht, List.foldl_append]
  simp only [List.foldl_cons, List.foldl_nil]
theorem foldl_below (f : Nat → UInt8 → Nat) (n : Nat) (hf : ∀ h b, f h b < n) (bs : List UInt8) : ∀ h, h < n → bs.foldl f h < n := by
  induction bs with
  | nil => intro h hh; exact hh
  | cons x t ih => intro h hh; rw [List.foldl_cons]; exact ih _ (hf _ _)
def sumStep (h : Nat) (b : UInt8) : Nat := (h ^^^ b.toNat) * 16777619 % 4294967296
theorem sumStep_lt (h : Nat) (b : UInt8) : sumStep h b < 4294967296 := Nat.mod_lt _ (by omega)
def sumG (bs : List UInt8) : Nat := bs.foldl sumStep 2166136261
def sumL (bs : List UInt8) : Nat := if 1048576 < bs.length then 0 else sumG bs
theorem sumG_snoc (bs : List UInt8) (k : Nat) (h : k < bs.length) : sumG (bs.take (k + 1)) = sumStep (sumG (bs.take k)) (bs.getD k 0) := foldl_snoc sumStep _ bs k h
theorem sumG_lt (bs : List UInt8) : sumG bs < 4294967296 := foldl_below sumStep _ sumStep_lt bs _ (by omega)
theorem i64_xor_nat (a b : Nat) (ha : a < 4294967296) (hb : b < 4294967296) : bits .xor .i64 (a : Int) (b : Int) = ((a ^^^ b : Nat) : Int) := by
  have hx : a ^^^ b < 2 ^ 32 := Nat.xor_lt_two_pow (by omega) (by omega)
  show IntKind.i64.wrap ((BitVec.ofInt 64 (a : Int) ^^^ BitVec.ofInt 64 (b : Int)).toNat : Int) = _
  rw [BitVec.toNat_xor, ofInt_u64 a (by omega), ofInt_u64 b (by omega), IntKind.wrap_i64]
  omega

set_option maxHeartbeats 1000000 in
theorem specSum_any (b off cap : Nat) (bs : List UInt8) (w : World) (hc : BytesAt w b off bs) :
    Calls Try.prog 24 #[.slice (some ⟨b, off, none⟩) bs.length cap] w fun e w' => e = .returned (.int .i64 (sumL bs : Nat)) ∧ w' = w := by
  have Hc := hidd hc
  clear hc
  by_cases hlong : 1048576 < bs.length
  · have hlz : (1048576 : Int) < (bs.length : Int) := by omega
    have HE : Hid (sumL bs = 0) := by show _ = _; rw [sumL, if_pos hlong]
    go_enter Try.func24, Try.ntmps24
    go_wp2
    go_ret
    rw [HE.out]
    exact ⟨rfl, rfl⟩
  · have hlz : ¬ (1048576 : Int) < (bs.length : Int) := by omega
    have HE : Hid (sumL bs = sumG bs) := by show _ = _; rw [sumL, if_neg hlong]
    go_enter Try.func24, Try.ntmps24
    go_wp2
    go_loop [3, 4] (fun hv i => ∃ k : Nat, k ≤ bs.length ∧ i = .int .i64 k ∧ hv = .int .i64 ((sumG (bs.take k) : Nat) : Int)) (fun _ i => bs.length - (intOf i).toNat)
    case atStart => exact ⟨0, Nat.zero_le _, rfl, rfl⟩
    case round =>
      obtain ⟨k, hk, rfl, rfl⟩ := hrel
      by_cases hlt : k < bs.length
      · have g1 := Hc.out k hlt
        have hc256 : (bs.getD k 0).toNat < 256 := UInt8.toNat_lt _
        have Hs := hidd (sumG_snoc bs k hlt)
        have hlt32 := sumG_lt (bs.take k)
        generalize bs.getD k 0 = cb at *
        generalize sumG (bs.take k) = h at *
        obtain ⟨X, hX, hX32⟩ : ∃ X : Nat, bits .xor .i64 (h : Int) (cb.toNat : Int) = (X : Int) ∧ X < 4294967296 ∧ sumStep h cb = X * 16777619 % 4294967296 := by
          exact ⟨h ^^^ cb.toNat, i64_xor_nat h cb.toNat hlt32 (by omega), Nat.xor_lt_two_pow (n := 32) (by omega) (by omega), rfl⟩
        have HX := hidd hX32.2
        have hX1 := hX32.1
        clear hX32
        go_wp2
        go_round
        case rel => exact ⟨k + 1, by omega, by go_num, by rw [Hs.out, HX.out]; go_num⟩
        case measure => simp [intOf]; omega
      · have HK : Hid (bs.take k = bs) := by show _ = _; rw [List.take_of_length_le (by omega)]
        rw [HK.out]
        go_wp2
        go_ret
        rw [HE.out]
        exact ⟨rfl, rfl⟩
set_option maxHeartbeats 1000000 in
theorem implSum_any (b off cap : Nat) (bs : List UInt8) (w : World) (hc : BytesAt w b off bs) :
    Calls Try.prog 25 #[.slice (some ⟨b, off, none⟩) bs.length cap] w fun e w' => e = .returned (.int .i64 (sumL bs : Nat)) ∧ w' = w := by
  have Hc := hidd hc
  clear hc
  by_cases hlong : 1048576 < bs.length
  · have hlz : (1048576 : Int) < (bs.length : Int) := by omega
    have HE : Hid (sumL bs = 0) := by show _ = _; rw [sumL, if_pos hlong]
    go_enter Try.func25, Try.ntmps25
    go_wp2
    go_ret
    rw [HE.out]
    exact ⟨rfl, rfl⟩
  · have hlz : ¬ (1048576 : Int) < (bs.length : Int) := by omega
    have HE : Hid (sumL bs = sumG bs) := by show _ = _; rw [sumL, if_neg hlong]
    go_enter Try.func25, Try.ntmps25
    go_wp2
    go_loop [3, 11] (fun hv i => ∃ k : Nat, k ≤ bs.length ∧ i = .int .i64 k ∧ hv = .int .u32 ((sumG (bs.take k) : Nat) : Int)) (fun _ i => bs.length - (intOf i).toNat)
    case atStart => exact ⟨0, Nat.zero_le _, rfl, rfl⟩
    case round =>
      obtain ⟨k, hk, rfl, rfl⟩ := hrel
      by_cases hlt : k < bs.length
      · have g1 := Hc.out k hlt
        have hc256 : (bs.getD k 0).toNat < 256 := UInt8.toNat_lt _
        have Hs := hidd (sumG_snoc bs k hlt)
        have hlt32 := sumG_lt (bs.take k)
        generalize bs.getD k 0 = cb at *
        generalize sumG (bs.take k) = h at *
        obtain ⟨X, hX, hX32⟩ : ∃ X : Nat, bits .xor .u32 (h : Int) (cb.toNat : Int) = (X : Int) ∧ X < 4294967296 ∧ sumStep h cb = X * 16777619 % 4294967296 :=
          ⟨h ^^^ cb.toNat, u32_xor_nat h cb.toNat hlt32 (by omega), Nat.xor_lt_two_pow (n := 32) (by omega) (by omega), rfl⟩
        have HX := hidd hX32.2
        have hX1 := hX32.1
        clear hX32
        go_wp2
        go_round
        case rel => exact ⟨k + 1, by omega, by go_num, by rw [Hs.out, HX.out]; go_num⟩
        case measure => simp [intOf]; omega
      · have HK : Hid (bs.take k = bs) := by show _ = _; rw [List.take_of_length_le (by omega)]
        have hlt32 := sumG_lt bs
        rw [HK.out]
        go_wp2
        go_ret
        rw [HE.out]
        exact ⟨rfl, rfl⟩

set_option maxHeartbeats 2000000 in
set_option maxRecDepth 100000 in
theorem sumLaw_any (ao : Option Addr) (n cap : Nat) (bs : List UInt8) (w : World) (h : RowB w ao n bs) :
    Calls Try.prog 7 #[.slice ao n cap] w fun e w' => e = .returned (.bool true) ∧ Below w.heap.size w w' := by
  have HT : Hid (∀ w', n ≤ 1048576 → Below w.heap.size w w' → Calls Try.prog 17 #[.slice ao n cap] w' fun e w2 => e = .returned (.slice (some ⟨w'.heap.size, 0, none⟩) n n) ∧ w2.ownsRow w'.heap.size 5 1 (.slice (some ⟨w'.heap.size, 0, none⟩) n n) n (Lib.byteCells bs) ∧ Below w'.heap.size w' w2) := fun w' hn hb => h.to cap w' hn hb
  obtain ⟨rfl, _⟩ := h
  by_cases hlong : 1048576 < bs.length
  · have hlz : (1048576 : Int) < (bs.length : Int) := by omega
    go_enter Try.func7, Try.ntmps7
    go_wp2
    go_ret
    exact ⟨rfl, Below.refl _ _⟩
  · have hlz : ¬ (1048576 : Int) < (bs.length : Int) := by omega
    go_enter Try.func7, Try.ntmps7
    go_wp2_with fail
    refine (HT.out _ (by omega) (Below.refl _ _)).mono ?_
    rintro e w1 ⟨rfl, hown1, hb1⟩
    have HO1 := hidd hown1
    have HB1 := hidd hb1
    clear hown1 hb1
    go_wp2_with fail
    refine (specSum_any w.heap.size 0 _ bs _ (own_bytes HO1.out rfl)).mono ?_
    rintro e w2 ⟨rfl, hw2⟩
    obtain rfl := hw2.symm
    clear HO1 hw2
    go_wp2_with fail
    refine (HT.out _ (by omega) HB1.out).mono ?_
    rintro e w3 ⟨rfl, hown3, hb3⟩
    have HO3 := hidd hown3
    have HB3 := hidd (HB1.out.trans (hb3.mono HB1.out.size))
    clear hown3 hb3
    generalize w1.heap.size = g3 at *
    go_wp2_with fail
    refine (implSum_any g3 0 _ bs _ (own_bytes HO3.out rfl)).mono ?_
    rintro e w4 ⟨rfl, hw4⟩
    obtain rfl := hw4.symm
    clear hw4
    have hn1 : (((sumL bs : Nat) : Int) != ((sumL bs : Nat) : Int)) = false := by simp
    generalize ((sumL bs : Nat) : Int) = A1 at *
    go_wp2_with fail
    refine (HT.out _ (by omega) HB3.out).mono ?_
    rintro e w5 ⟨rfl, hown5, hb5⟩
    have HO5 := hidd hown5
    have HO3' := hidd (own_below HO3.out hb5)
    have HB5 := hidd (HB3.out.trans (hb5.mono HB3.out.size))
    clear hown5 hb5 HO3
    generalize w3.heap.size = g5 at *
    go_wp2_with fail
    refine (eqBytes_own _ _ bs.length _ _ bs _ (by omega) rfl HO3'.out HO5.out).mono ?_
    rintro e w7 ⟨rfl, m7, rfl⟩
    go_wp2
    go_ret
    exact ⟨rfl, below_drewN HB5.out m7⟩
end Go.Proofs.Ytomkhigocmplnak
