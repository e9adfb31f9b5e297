import Derived.Test.YtboocdiilbcdcaaDoorPkM
namespace Go.Proofs.YtboocdiilbcdcaaDoor
open Go Go.RowKit
set_option linter.unusedVariables false

theorem foldl_snoc (f : Nat → UInt8 → Nat) (h0 : Nat) (bs : List UInt8) (k : Nat) (h : k < bs.length) : (bs.take (k + 1)).foldl f h0 = f ((bs.take k).foldl f h0) (bs.getD k 0) := by
  have ht : bs.take (k + 1) = bs.take k ++ [bs.getD k 0] := by rw [List.take_succ_eq_append_getElem h]; simp [h]
  rw [ht, List.foldl_append]
  simp only [List.foldl_cons, List.foldl_nil]
theorem foldl_below (f : Nat → UInt8 → Nat) (n : Nat) (hf : ∀ h b, f h b < n) (bs : List UInt8) : ∀ h, h < n → bs.foldl f h < n := by
  induction bs with
  | nil => intro h hh; exact hh
  | cons x t ih => intro h hh; rw [List.foldl_cons]; exact ih _ (hf _ _)
def sumStep (h : Nat) (b : UInt8) : Nat := (h ^^^ b.toNat) * 16777619 % 4294967296
theorem sumStep_lt (h : Nat) (b : UInt8) : sumStep h b < 4294967296 := Nat.mod_lt _ (by omega)
def sumG (bs : List UInt8) : Nat := bs.foldl sumStep 2166136261
def sumL (bs : List UInt8) : Nat := if 1048576 < bs.length then 0 else sumG bs
theorem sumG_snoc (bs : List UInt8) (k : Nat) (h : k < bs.length) : sumG (bs.take (k + 1)) = sumStep (sumG (bs.take k)) (bs.getD k 0) := foldl_snoc sumStep _ bs k h
theorem sumG_lt (bs : List UInt8) : sumG bs < 4294967296 := foldl_below sumStep _ sumStep_lt bs _ (by omega)
theorem i64_xor_nat (a b : Nat) (ha : a < 4294967296) (hb : b < 4294967296) : bits .xor .i64 (a : Int) (b : Int) = ((a ^^^ b : Nat) : Int) := by
  have hx : a ^^^ b < 2 ^ 32 := Nat.xor_lt_two_pow (by omega) (by omega)
  show IntKind.i64.wrap ((BitVec.ofInt 64 (a : Int) ^^^ BitVec.ofInt 64 (b : Int)).toNat : Int) = _
  rw [BitVec.toNat_xor, ofInt_u64 a (by omega), ofInt_u64 b (by omega), IntKind.wrap_i64]
  omega

set_option maxHeartbeats 1000000 in
theorem specSum_any (b off cap : Nat) (bs : List UInt8) (w : World) (hc : BytesAt w b off bs) :
    Calls Tryd.prog 41 #[.slice (some ⟨b, off, none⟩) bs.length cap] w fun e w' => e = .returned (.int .i64 (sumL bs : Nat)) ∧ w' = w := by
  have Hc := hidd hc
  clear hc
  by_cases hlong : 1048576 < bs.length
  · have hlz : (1048576 : Int) < (bs.length : Int) := by omega
    have HE : Hid (sumL bs = 0) := by show _ = _; rw [sumL, if_pos hlong]
    go_enter Tryd.func41, Tryd.ntmps41
    go_wp2
    go_ret
    rw [HE.out]
    exact ⟨rfl, rfl⟩
  · have hlz : ¬ (1048576 : Int) < (bs.length : Int) := by omega
    have HE : Hid (sumL bs = sumG bs) := by show _ = _; rw [sumL, if_neg hlong]
    go_enter Tryd.func41, Tryd.ntmps41
    go_wp2
    go_loop [3, 4] (fun hv i => ∃ k : Nat, k ≤ bs.length ∧ i = .int .i64 k ∧ hv = .int .i64 ((sumG (bs.take k) : Nat) : Int)) (fun _ i => bs.length - (intOf i).toNat)
    case atStart => exact ⟨0, Nat.zero_le _, rfl, rfl⟩
    case round =>
      obtain ⟨k, hk, rfl, rfl⟩ := hrel
      by_cases hlt : k < bs.length
      · have g1 := Hc.out k hlt
        have hc256 : (bs.getD k 0).toNat < 256 := UInt8.toNat_lt _
        have Hs := hidd (sumG_snoc bs k hlt)
        have hlt32 := sumG_lt (bs.take k)
        generalize bs.getD k 0 = cb at *
        generalize sumG (bs.take k) = h at *
        obtain ⟨X, hX, hX32⟩ : ∃ X : Nat, bits .xor .i64 (h : Int) (cb.toNat : Int) = (X : Int) ∧ X < 4294967296 ∧ sumStep h cb = X * 16777619 % 4294967296 := by
          exact ⟨h ^^^ cb.toNat, i64_xor_nat h cb.toNat hlt32 (by omega), Nat.xor_lt_two_pow (n := 32) (by omega) (by omega), rfl⟩
        have HX := hidd hX32.2
        have hX1 := hX32.1
        clear hX32
        go_wp2
        go_round
        case rel => exact ⟨k + 1, by omega, by go_num, by rw [Hs.out, HX.out]; go_num⟩
        case measure => simp [intOf]; omega
      · have HK : Hid (bs.take k = bs) := by show _ = _; rw [List.take_of_length_le (by omega)]
        rw [HK.out]
        go_wp2
        go_ret
        rw [HE.out]
        exact ⟨rfl, rfl⟩
set_option maxHeartbeats 1000000 in
theorem implSum_any (b off cap : Nat) (bs : List UInt8) (w : World) (hc : BytesAt w b off bs) :
    Calls Tryd.prog 43 #[.slice (some ⟨b, off, none⟩) bs.length cap] w fun e w' => e = .returned (.int .i64 (sumL bs : Nat)) ∧ w' = w := by
  have Hc := hidd hc
  clear hc
  by_cases hlong : 1048576 < bs.length
  · have hlz : (1048576 : Int) < (bs.length : Int) := by omega
    have HE : Hid (sumL bs = 0) := by show _ = _; rw [sumL, if_pos hlong]
    go_enter Tryd.func43, Tryd.ntmps43
    go_wp2
    go_ret
    rw [HE.out]
    exact ⟨rfl, rfl⟩
  · have hlz : ¬ (1048576 : Int) < (bs.length : Int) := by omega
    have HE : Hid (sumL bs = sumG bs) := by show _ = _; rw [sumL, if_neg hlong]
    go_enter Tryd.func43, Tryd.ntmps43
    go_wp2
    go_loop [3, 11] (fun hv i => ∃ k : Nat, k ≤ bs.length ∧ i = .int .i64 k ∧ hv = .int .u32 ((sumG (bs.take k) : Nat) : Int)) (fun _ i => bs.length - (intOf i).toNat)
    case atStart => exact ⟨0, Nat.zero_le _, rfl, rfl⟩
    case round =>
      obtain ⟨k, hk, rfl, rfl⟩ := hrel
      by_cases hlt : k < bs.length
      · have g1 := Hc.out k hlt
        have hc256 : (bs.getD k 0).toNat < 256 := UInt8.toNat_lt _
        have Hs := hidd (sumG_snoc bs k hlt)
        have hlt32 := sumG_lt (bs.take k)
        generalize bs.getD k 0 = cb at *
        generalize sumG (bs.take k) = h at *
        obtain ⟨X, hX, hX32⟩ : ∃ X : Nat, bits .xor .u32 (h : Int) (cb.toNat : Int) = (X : Int) ∧ X < 4294967296 ∧ sumStep h cb = X * 16777619 % 4294967296 :=
          ⟨h ^^^ cb.toNat, u32_xor_nat h cb.toNat hlt32 (by omega), Nat.xor_lt_two_pow (n := 32) (by omega) (by omega), rfl⟩
        have HX := hidd hX32.2
        have hX1 := hX32.1
        clear hX32
        go_wp2
        go_round
        case rel => exact ⟨k + 1, by omega, by go_num, by rw [Hs.out, HX.out]; go_num⟩
        case measure => simp [intOf]; omega
      · have HK : Hid (bs.take k = bs) := by show _ = _; rw [List.take_of_length_le (by omega)]
        have hlt32 := sumG_lt bs
        rw [HK.out]
        go_wp2
        go_ret
        rw [HE.out]
        exact ⟨rfl, rfl⟩
end Go.Proofs.YtboocdiilbcdcaaDoor
