import Derived.Test.YtboocdiilbcdcaaDoorSumA
import Derived.Test.YtboocdiilbcdcaaDoorTxW
import Derived.Test.YtboocdiilbcdcaaDoorTz
import Derived.Test.YtboocdiilbcdcaaDoorSkR
import Derived.Laws.IdiomStrings
import Derived.BigRegion
import Derived.Below
namespace Go.Proofs.YtboocdiilbcdcaaDoor
open Go Go.RowKit
set_option linter.unusedVariables false
set_option linter.unusedSimpArgs false
set_option maxRecDepth 100000

/-! The slot of a text, and its rank there: both sides. -/
def stA (s : Nat) : Nat := s ^^^ (s / 65536)
def stB (s : Nat) : Nat := stA s * 2146121005 % 4294967296
def stirN (s : Nat) : Nat := stB s ^^^ (stB s / 8192)
theorem stA_lt {s : Nat} (h : s < 4294967296) : stA s < 4294967296 := Nat.xor_lt_two_pow (n := 32) (by omega) (by omega)
theorem stB_lt (s : Nat) : stB s < 4294967296 := Nat.mod_lt _ (by omega)
theorem stirN_lt (s : Nat) : stirN s < 4294967296 := Nat.xor_lt_two_pow (n := 32) (by have := stB_lt s; omega) (by have := stB_lt s; omega)
def rkN (h : Nat) : Nat := min (Lib.ctz 32 (h / 256)) 24 + 1
theorem u32_xor_nat (a b : Nat) (ha : a < 4294967296) (hb : b < 4294967296) : bits .xor .u32 (a : Int) (b : Int) = ((a ^^^ b : Nat) : Int) := by
  have hx : a ^^^ b < 2 ^ 32 := Nat.xor_lt_two_pow (by omega) (by omega)
  have h1 : (BitVec.ofInt 32 (a : Int)).toNat = a := by
    rw [BitVec.ofInt_natCast, BitVec.toNat_ofNat]; exact Nat.mod_eq_of_lt (by omega)
  have h2 : (BitVec.ofInt 32 (b : Int)).toNat = b := by
    rw [BitVec.ofInt_natCast, BitVec.toNat_ofNat]; exact Nat.mod_eq_of_lt (by omega)
  show IntKind.u32.wrap ((BitVec.ofInt 32 (a : Int) ^^^ BitVec.ofInt 32 (b : Int)).toNat : Int) = _
  rw [BitVec.toNat_xor, h1, h2, wrap_u32']
  omega
theorem made_text (w : World) (t : ByteArray) (cap : Nat) (mark : Nat × Nat) : BytesAt (w.drew.alloc (.cells (bytesRow t cap) 5 mark)) w.heap.size 0 t.data.toList := by
  intro j hj
  have hcell : (w.drew.alloc (.cells (bytesRow t cap) 5 mark)).cell? ⟨w.heap.size, 0 + j, none⟩ = (bytesRow t cap)[j]? := by rw [Nat.zero_add]; exact World.cell?_alloc_mark w.drew _ _ _ j
  rw [hcell]
  have hj2 : j < t.data.size := by simpa using hj
  have hj3 : j < t.size := hj2
  simp [bytesRow, Array.getElem?_append, hj3, List.getD_eq_getElem?_getD]
theorem below_text (w : World) (o : Obj) : Below w.heap.size w (w.drew.alloc o) := (Below.refl _ _).drew.alloc (Nat.le_refl _) _
theorem sumL_lt (l : List UInt8) : sumL l < 4294967296 := by
  unfold sumL; split
  · omega
  · exact sumG_lt l
theorem len_text (t : ByteArray) : t.data.toList.length = t.size := (Lib.size_eq t).symm
set_option maxHeartbeats 2000000 in
theorem specStir_any (t : ByteArray) (w : World) (hsz : t.size ≤ 65536) :
    Calls Tryd.prog 23 #[.string t] w fun e w' => e = .returned (.int .i64 ((stirN (sumL t.data.toList) : Nat) : Int)) ∧ Below w.heap.size w w' := by
  have hcv := run_bytes_of_string (P := Tryd.prog) w 9 22 5 t Tryd.underlying9 Tryd.underlying22 Tryd.underlying5
  generalize grownCap w t.size 0 5 = bc at *
  have HB := hidd (made_text w t bc ((bytesRow t bc).size, (bytesRow t bc).size + 1))
  have HL := hidd (below_text w (.cells (bytesRow t bc) 5 ((bytesRow t bc).size, (bytesRow t bc).size + 1)))
  generalize w.drew.alloc (.cells (bytesRow t bc) 5 ((bytesRow t bc).size, (bytesRow t bc).size + 1)) = w0 at *
  have HS : Hid (sumL t.data.toList < 4294967296) := sumL_lt _
  have HSm := hidd ((len_text t) ▸ specSum_any w.heap.size 0 bc t.data.toList w0 HB.out)
  generalize sumL t.data.toList = S at *
  have hS := HS.out
  obtain ⟨A, hA⟩ : ∃ A, stA S = A := ⟨_, rfl⟩
  obtain ⟨B, hB⟩ : ∃ B, stB S = B := ⟨_, rfl⟩
  obtain ⟨C, hC⟩ : ∃ C, stirN S = C := ⟨_, rfl⟩
  have hA1 : A < 4294967296 := by rw [← hA]; exact stA_lt hS
  have hB1 : B < 4294967296 := by rw [← hB]; exact stB_lt S
  have q1 : bits .xor .i64 (S : Int) ((S : Int) / 65536) = (A : Int) := by
    rw [show ((S : Int) / 65536) = ((S / 65536 : Nat) : Int) by omega, i64_xor_nat S _ hS (by omega), ← hA]; rfl
  have q2 : (A : Int) * 2146121005 % 4294967296 = (B : Int) := by rw [← hB, ← hA]; unfold stB; omega
  have q3 : bits .xor .i64 (B : Int) ((B : Int) / 8192) = (C : Int) := by
    rw [show ((B : Int) / 8192) = ((B / 8192 : Nat) : Int) by omega, i64_xor_nat B _ hB1 (by omega), ← hC, ← hB]; rfl
  rw [hC]
  clear hA hB hC
  go_enter Tryd.func23, Tryd.ntmps23
  go_wp2_with fail
  refine HSm.out.mono ?_
  rintro e w2 ⟨rfl, hw2⟩
  obtain rfl := hw2.symm
  go_wp2_with fail
  go_ret
  exact ⟨rfl, HL.out⟩
set_option maxHeartbeats 1000000 in
theorem stirred_any (S : Nat) (w : World) (hS : S < 4294967296) :
    Calls Tryd.prog 42 #[.int .u32 (S : Int)] w fun e w' => e = .returned (.int .u32 ((stirN S : Nat) : Int)) ∧ w' = w := by
  obtain ⟨A, hA⟩ : ∃ A, stA S = A := ⟨_, rfl⟩
  obtain ⟨B, hB⟩ : ∃ B, stB S = B := ⟨_, rfl⟩
  obtain ⟨C, hC⟩ : ∃ C, stirN S = C := ⟨_, rfl⟩
  have hA1 : A < 4294967296 := by rw [← hA]; exact stA_lt hS
  have hB1 : B < 4294967296 := by rw [← hB]; exact stB_lt S
  have q1 : bits .xor .u32 (S : Int) ((S : Int) / 65536) = (A : Int) := by
    rw [show ((S : Int) / 65536) = ((S / 65536 : Nat) : Int) by omega, u32_xor_nat S _ hS (by omega), ← hA]; rfl
  have q2 : (A : Int) * 2146121005 % 4294967296 = (B : Int) := by rw [← hB, ← hA]; unfold stB; omega
  have q3 : bits .xor .u32 (B : Int) ((B : Int) / 8192) = (C : Int) := by
    rw [show ((B : Int) / 8192) = ((B / 8192 : Nat) : Int) by omega, u32_xor_nat B _ hB1 (by omega), ← hC, ← hB]; rfl
  rw [hC]
  clear hA hB hC
  go_enter Tryd.func42, Tryd.ntmps42
  go_wp2_with (first | rw [q1] | rw [q2] | rw [q3])
  go_ret
  exact ⟨rfl, rfl⟩
/-- The rank that a rest has, from a rank on. -/
def rkGo : Nat → Nat → Nat
  | 0, _ => 0
  | f + 1, x => if x % 2 = 0 then rkGo f (x / 2) + 1 else 0
theorem rkGo_zero : ∀ f, rkGo f 0 = f
  | 0 => rfl
  | f + 1 => by
    show (if 0 % 2 = 0 then rkGo f (0 / 2) + 1 else 0) = f + 1
    rw [if_pos rfl, Nat.zero_div, rkGo_zero f]
theorem rkGo_ctz : ∀ (f g x : Nat), f ≤ g → rkGo f x = min (if x = 0 then f else Lib.ctzFrom g x) f
  | 0, g, x, h => by simp [rkGo]
  | f + 1, 0, x, h => by omega
  | f + 1, g + 1, x, h => by
    by_cases h0 : x = 0
    · subst h0; rw [if_pos rfl, rkGo_zero]; omega
    · rw [if_neg h0]
      simp only [rkGo, Lib.ctzFrom]
      by_cases h2 : x % 2 = 0
      · rw [if_pos h2, if_neg (by omega), rkGo_ctz f g (x / 2) (by omega), if_neg (by omega)]; omega
      · rw [if_neg h2, if_pos (by omega)]; omega
theorem rkN_go (h : Nat) : rkN h = rkGo 24 (h / 256) + 1 := by
  unfold rkN Lib.ctz
  rw [rkGo_ctz 24 32 (h / 256) (by omega)]
  split <;> omega
set_option maxHeartbeats 1000000 in
theorem rank_any (H : Nat) (w : World) (hH : H < 4294967296) :
    Calls Tryd.prog 24 #[.int .i64 (H : Int)] w fun e w' => e = .returned (.int .i64 ((rkN H : Nat) : Int)) ∧ w' = w := by
  rw [rkN_go]
  have hq : ((H : Int) / 256) = ((H / 256 : Nat) : Int) := by omega
  have hx : H / 256 < 4294967296 := by omega
  generalize H / 256 = x at *
  go_enter Tryd.func24, Tryd.ntmps24
  go_wp2_with (rw [hq])
  try rw [hq]
  go_loop [3, 4] (fun rv kv => ∃ (r k : Nat), k ≤ 24 ∧ r < 4294967296 ∧ rv = .int .i64 (r : Int) ∧ kv = .int .i64 ((k : Int) + 1) ∧ rkGo 24 x = k + rkGo (24 - k) r) (fun _ kv => 25 - (intOf kv).toNat)
  case atStart => exact ⟨x, 0, by omega, hx, rfl, rfl, by simp⟩
  case round =>
    obtain ⟨r, k, hk, hr, rfl, rfl, he⟩ := hrel
    have HE := hidd he
    clear he
    by_cases hlt : k < 24
    · have h1 : (k : Int) + 1 < 25 := by omega
      by_cases h2 : r % 2 = 0
      · have h3 : (r : Int) % 2 = 0 := by omega
        have HD : Hid (((r : Int) / 2) = ((r / 2 : Nat) : Int)) := by show _ = _; omega
        have HN : Hid (rkGo 24 x = (k + 1) + rkGo (24 - (k + 1)) (r / 2)) := by
          show _ = _
          rw [HE.out, show 24 - k = (24 - (k + 1)) + 1 by omega]
          simp only [rkGo]
          rw [if_pos h2]; omega
        clear h2
        go_wp2_with fail
        go_round
        case rel => exact ⟨r / 2, k + 1, by omega, by omega, by first | rfl | (rw [← HD.out]) | (rw [HD.out]), by first | rfl | go_num, HN.out⟩
        case measure => simp [intOf]; omega
      · have h3 : ¬ (r : Int) % 2 = 0 := by omega
        have h4 : ((r : Int) % 2 == 0) = false := by simp [h3]
        have HN : Hid (rkGo 24 x = k) := by
          show _ = _
          rw [HE.out, show 24 - k = (24 - (k + 1)) + 1 by omega]
          simp only [rkGo]
          rw [if_neg h2]; rfl
        go_wp2_with fail
        go_ret
        rw [HN.out]
        exact ⟨by first | rfl | simp, rfl⟩
    · have h1 : ¬ (k : Int) + 1 < 25 := by omega
      have HN : Hid (rkGo 24 x = k) := by
        show _ = _
        rw [HE.out, show 24 - k = 0 by omega]
        rfl
      go_wp2_with fail
      go_ret
      rw [HN.out]
      exact ⟨by first | rfl | simp, rfl⟩
theorem tab_below {w w' : World} {g : Nat} {tab : List Nat} (h : TabAt g tab w) (hb : Below w.heap.size w w') : TabAt g tab w' := fun j hj => (hb.cell (cell_lt (h j hj))).trans (h j hj)
set_option maxHeartbeats 2000000 in
theorem slotOf_any (t : ByteArray) (w : World) (hsz : t.size ≤ 65536) (hT : TabAt (Tryd.laysTz_ren.g 0) Lib.deBruijn32tab w) :
    Calls Tryd.prog 26 #[.string t] w fun e w' => e = .returned (.tuple #[.int .i64 ((stirN (sumL t.data.toList) % 256 : Nat) : Int), .int .u8 ((rkN (stirN (sumL t.data.toList)) : Nat) : Int)]) ∧ Below w.heap.size w w' := by
  have hcv := run_bytes_of_string (P := Tryd.prog) w 9 22 5 t Tryd.underlying9 Tryd.underlying22 Tryd.underlying5
  generalize grownCap w t.size 0 5 = bc at *
  have HB := hidd (made_text w t bc ((bytesRow t bc).size, (bytesRow t bc).size + 1))
  have HL := hidd (below_text w (.cells (bytesRow t bc) 5 ((bytesRow t bc).size, (bytesRow t bc).size + 1)))
  generalize w.drew.alloc (.cells (bytesRow t bc) 5 ((bytesRow t bc).size, (bytesRow t bc).size + 1)) = w0 at *
  have HS : Hid (sumL t.data.toList < 4294967296) := sumL_lt _
  have HSm := hidd ((len_text t) ▸ implSum_any w.heap.size 0 bc t.data.toList w0 HB.out)
  generalize sumL t.data.toList = S at *
  have hS := HS.out
  have HSt := hidd (fun W => stirred_any S W hS)
  have hH := stirN_lt S
  have HTb := hidd (tab_below hT HL.out)
  clear hT
  generalize stirN S = H at *
  have hq : ((H : Int) / 256) = ((H / 256 : Nat) : Int) := by omega
  have hx : H / 256 < 4294967296 := by omega
  have HTz : Hid (Calls Tryd.prog 44 #[.int .u32 ((H : Int) / 256)] w0 fun e w' => e = .returned (.int .i64 (Lib.ctz 32 (H / 256))) ∧ w' = w0) := by
    show Calls _ _ _ _ _
    rw [hq]
    exact Any7.bits_TrailingZeros32 Tryd.laysTz (H / 256) hx w0 (fun _ => HTb.out)
  have hrk : ((rkN H : Nat) : Int) = min ((Lib.ctz 32 (H / 256) : Nat) : Int) 24 + 1 := by unfold rkN; omega
  rw [hrk]
  obtain ⟨c, hc⟩ : ∃ c : Nat, Lib.ctz 32 (H / 256) = c := ⟨_, rfl⟩
  obtain ⟨m, hm⟩ : ∃ m, min (c : Int) 24 = m := ⟨_, rfl⟩
  rw [hc] at HTz
  rw [hc, hm]
  have HM := hidd hm
  have hm0 : 0 ≤ m := by omega
  have hm1 : m ≤ 24 := by omega
  have hmd : ((H % 256 : Nat) : Int) = (H : Int) % 256 := by omega
  rw [hmd]
  clear hc hm hrk hq hx hmd
  go_enter Tryd.func26, Tryd.ntmps26
  go_wp2_with fail
  refine HSm.out.mono ?_
  rintro e w2 ⟨rfl, hw2⟩
  obtain rfl := hw2.symm
  go_wp2_with fail
  refine (HSt.out _).mono ?_
  rintro e w3 ⟨rfl, hw3⟩
  obtain rfl := hw3.symm
  go_wp2_with fail
  refine HTz.out.mono ?_
  rintro e w4 ⟨rfl, hw4⟩
  obtain rfl := hw4.symm
  go_wp2_with (refine wpV rfl (.int .i64 m) (exec_min2 _ _ _ _ _ .i64 _ rfl (c : Int) 24 m rfl rfl HM.out) ?_)
  refine bodyPost_ret (v := .tuple #[.int .i64 ((H : Int) % 256), .int .u8 (m + 1)]) (by simp [results, Tryd.results26, go_sem]) rfl ?_
  exact ⟨rfl, HL.out⟩
end Go.Proofs.YtboocdiilbcdcaaDoor
