import Derived.Test.YtpdiaddgialanaaGreatDoorPlain
import Derived.Lib.ValidLaws
namespace Go.Proofs.YtpdiaddgialanaaGreatDoor
open Go

def bad (s : ByteArray) (p : Nat) : Prop := (Utf8.decode s p).1 = 65533 ∧ (Utf8.decode s p).2 = 1
instance (s : ByteArray) (p : Nat) : Decidable (bad s p) := inferInstanceAs (Decidable (_ ∧ _))
def byteAt (s : ByteArray) (p : Nat) : Int := ((s.get! p).toNat : Int)
theorem byteAt_bd (s : ByteArray) (p : Nat) : 0 ≤ byteAt s p ∧ byteAt s p ≤ 255 := by
  have := (s.get! p).toNat_lt
  unfold byteAt
  omega
theorem byteAt_get (s : ByteArray) (p : Nat) (h : p < s.size) : ((s[p]'h).toNat : Int) = byteAt s p := by
  have e : s.get! p = s[p]'h := by
    simp [ByteArray.get!, getElem!_pos, h]
    rfl
  rw [byteAt, e]

/-- What the document's text tells at a place: 0 and 0 where there is no character. -/
def atC (s : ByteArray) (p : Nat) : Int := if bad s p then 0 else ((Utf8.decode s p).1 : Int)
def atW (s : ByteArray) (p : Nat) : Int := if bad s p then 0 else ((Utf8.decode s p).2 : Int)

def vAt (s : ByteArray) (p : Nat) (v0 : Int) : Nat → Int
  | 0 => v0
  | k + 1 => if k = 0 then v0 else vAt s p v0 k * 64 + byteAt s (p + k) - 128
theorem vAt_one (s : ByteArray) (p : Nat) (v0 : Int) : vAt s p v0 1 = v0 := rfl
theorem vAt_step (s : ByteArray) (p : Nat) (v0 : Int) (k : Nat) (h : 1 ≤ k) : vAt s p v0 (k + 1) = vAt s p v0 k * 64 + byteAt s (p + k) - 128 := by
  show (if k = 0 then _ else _) = _
  rw [if_neg (by omega)]
def contTo (s : ByteArray) (p k : Nat) : Prop := ∀ j, 1 ≤ j → j < k → 128 ≤ byteAt s (p + j) ∧ byteAt s (p + j) ≤ 191
theorem contTo_one (s : ByteArray) (p : Nat) : contTo s p 1 := fun j h1 h2 => by omega
theorem contTo_step (s : ByteArray) (p k : Nat) (h : contTo s p k) (h1 : 128 ≤ byteAt s (p + k)) (h2 : byteAt s (p + k) ≤ 191) : contTo s p (k + 1) := fun j a b => by
  by_cases e : j = k
  · subst e; exact ⟨h1, h2⟩
  · exact h j a (by omega)
theorem vAt_bd (s : ByteArray) (p : Nat) (v0 : Int) (h0 : 0 ≤ v0) (h1 : v0 ≤ 31) (k : Nat) (hk : 1 ≤ k) (hk4 : k ≤ 4) (hc : contTo s p k) : 0 ≤ vAt s p v0 k ∧ vAt s p v0 k ≤ 8388607 := by
  have e1 := vAt_one s p v0
  have e2 : vAt s p v0 2 = vAt s p v0 1 * 64 + byteAt s (p + 1) - 128 := vAt_step s p v0 1 (by omega)
  have e3 : vAt s p v0 3 = vAt s p v0 2 * 64 + byteAt s (p + 2) - 128 := vAt_step s p v0 2 (by omega)
  have e4 : vAt s p v0 4 = vAt s p v0 3 * 64 + byteAt s (p + 3) - 128 := vAt_step s p v0 3 (by omega)
  rcases (show k = 1 ∨ k = 2 ∨ k = 3 ∨ k = 4 by omega) with rfl | rfl | rfl | rfl
  · omega
  · have := hc 1 (by omega) (by omega); omega
  · have := hc 1 (by omega) (by omega); have := hc 2 (by omega) (by omega); omega
  · have := hc 1 (by omega) (by omega); have := hc 2 (by omega) (by omega); have := hc 3 (by omega) (by omega); omega

theorem vAt2_lt (s : ByteArray) (p : Nat) (v0 : Int) (h : v0 ≤ 31) (hc : contTo s p 2) : vAt s p v0 2 < 2048 := by
  have e2 : vAt s p v0 2 = vAt s p v0 1 * 64 + byteAt s (p + 1) - 128 := vAt_step s p v0 1 (by omega)
  have c1 := hc 1 (by omega) (by omega)
  rw [vAt_one] at e2
  omega
theorem vAt3_lt (s : ByteArray) (p : Nat) (v0 : Int) (h : v0 ≤ 15) (hc : contTo s p 3) : vAt s p v0 3 < 65536 := by
  have e2 : vAt s p v0 2 = vAt s p v0 1 * 64 + byteAt s (p + 1) - 128 := vAt_step s p v0 1 (by omega)
  have e3 : vAt s p v0 3 = vAt s p v0 2 * 64 + byteAt s (p + 2) - 128 := vAt_step s p v0 2 (by omega)
  have c1 := hc 1 (by omega) (by omega)
  have c2 := hc 2 (by omega) (by omega)
  rw [vAt_one] at e2
  omega
theorem decode_bytes (s : ByteArray) (p : Nat) : Utf8.decode s p = Lib.decodeN (s.size - p) (s.get! p).toNat (s.get! (p + 1)).toNat (s.get! (p + 2)).toNat (s.get! (p + 3)).toNat := Lib.decode_at s p
theorem bad_iff (s : ByteArray) (p : Nat) : bad s p ↔ Utf8.decode s p = (65533, 1) := by
  unfold bad
  constructor
  · intro h; exact Prod.ext h.1 h.2
  · intro h; rw [h]; exact ⟨rfl, rfl⟩
theorem at_of_bad (s : ByteArray) (p : Nat) (h : Utf8.decode s p = (65533, 1)) : atC s p = 0 ∧ atW s p = 0 := by
  have hb := (bad_iff s p).2 h
  unfold atC atW
  rw [if_pos hb, if_pos hb]; exact ⟨rfl, rfl⟩
theorem at_of_good (s : ByteArray) (p r n : Nat) (h : Utf8.decode s p = (r, n)) (hn : ¬ (r = 65533 ∧ n = 1)) : atC s p = r ∧ atW s p = n := by
  have hb : ¬ bad s p := by rw [bad_iff, h]; intro e; cases e; exact hn ⟨rfl, rfl⟩
  unfold atC atW
  rw [if_neg hb, if_neg hb, h]; exact ⟨rfl, rfl⟩

theorem at_1 (s : ByteArray) (p : Nat) (h : byteAt s p < 128) : atC s p = byteAt s p ∧ atW s p = 1 := by
  unfold byteAt at *
  have e : Utf8.decode s p = ((s.get! p).toNat, 1) := by
    rw [decode_bytes]; unfold Lib.decodeN; rw [if_pos (by omega)]
  exact at_of_good s p _ 1 e (by omega)
set_option maxHeartbeats 1000000 in
theorem at_low (s : ByteArray) (p : Nat) (h : 128 ≤ byteAt s p) (h2 : byteAt s p < 192) : atC s p = 0 ∧ atW s p = 0 := by
  unfold byteAt at *
  apply at_of_bad
  rw [decode_bytes]; unfold Lib.decodeN
  rw [if_neg (by omega), if_neg (by omega), if_neg (by omega), if_neg (by omega)]
set_option maxHeartbeats 1000000 in
theorem at_cut (s : ByteArray) (p n : Nat) (h : (n = 2 ∧ 192 ≤ byteAt s p ∧ byteAt s p < 224) ∨ (n = 3 ∧ 224 ≤ byteAt s p ∧ byteAt s p < 240) ∨ (n = 4 ∧ 240 ≤ byteAt s p))
    (hbad : s.size < p + n ∨ ∃ j, 1 ≤ j ∧ j < n ∧ (byteAt s (p + j) < 128 ∨ 191 < byteAt s (p + j))) : atC s p = 0 ∧ atW s p = 0 := by
  apply at_of_bad
  have b0 := byteAt_bd s p
  have b1 := byteAt_bd s (p + 1)
  have b2 := byteAt_bd s (p + 2)
  have b3 := byteAt_bd s (p + 3)
  have key : (n = 2 → s.size < p + 2 ∨ byteAt s (p + 1) < 128 ∨ 191 < byteAt s (p + 1)) ∧ (n = 3 → s.size < p + 3 ∨ byteAt s (p + 1) < 128 ∨ 191 < byteAt s (p + 1) ∨ byteAt s (p + 2) < 128 ∨ 191 < byteAt s (p + 2)) ∧
      (n = 4 → s.size < p + 4 ∨ byteAt s (p + 1) < 128 ∨ 191 < byteAt s (p + 1) ∨ byteAt s (p + 2) < 128 ∨ 191 < byteAt s (p + 2) ∨ byteAt s (p + 3) < 128 ∨ 191 < byteAt s (p + 3)) := by
    rcases hbad with hb | ⟨j, j1, j2, hj⟩
    · exact ⟨fun e => by omega, fun e => by omega, fun e => by omega⟩
    · rcases (show j = 1 ∨ j = 2 ∨ j = 3 by omega) with rfl | rfl | rfl
      · exact ⟨fun e => by omega, fun e => by omega, fun e => by omega⟩
      · exact ⟨fun e => by omega, fun e => by omega, fun e => by omega⟩
      · exact ⟨fun e => by omega, fun e => by omega, fun e => by omega⟩
  clear hbad
  unfold byteAt at *
  rw [decode_bytes]; unfold Lib.decodeN
  rw [if_neg (by omega), if_neg (by omega), if_neg (by omega), if_neg (by omega)]
/-- All bytes are there and go on: the number that they spell, if it is a character in its shortest form. -/
theorem at_2 (s : ByteArray) (p : Nat) (h : 192 ≤ byteAt s p) (h2 : byteAt s p < 224) (hs : p + 2 ≤ s.size) (hc : contTo s p 2) :
    (128 ≤ vAt s p (byteAt s p - 192) 2 → atC s p = vAt s p (byteAt s p - 192) 2 ∧ atW s p = 2) ∧ (vAt s p (byteAt s p - 192) 2 < 128 → atC s p = 0 ∧ atW s p = 0) := by
  have e2 : vAt s p (byteAt s p - 192) 2 = vAt s p (byteAt s p - 192) 1 * 64 + byteAt s (p + 1) - 128 := vAt_step _ _ _ 1 (by omega)
  rw [vAt_one] at e2
  have c1 := hc 1 (by omega) (by omega)
  rw [e2]
  unfold byteAt at *
  have ed : Utf8.decode s p = if (s.get! p).toNat % 32 * 64 + (s.get! (p + 1)).toNat % 64 ≥ 128 then ((s.get! p).toNat % 32 * 64 + (s.get! (p + 1)).toNat % 64, 2) else (65533, 1) := by
    rw [decode_bytes]; unfold Lib.decodeN
    rw [if_neg (by omega), if_pos (by omega)]
  constructor
  · intro hv
    rw [if_pos (by omega)] at ed
    have := at_of_good s p _ 2 ed (by omega)
    omega
  · intro hv
    rw [if_neg (by omega)] at ed
    exact at_of_bad s p ed
theorem at_3 (s : ByteArray) (p : Nat) (h : 224 ≤ byteAt s p) (h2 : byteAt s p < 240) (hs : p + 3 ≤ s.size) (hc : contTo s p 3) :
    (2048 ≤ vAt s p (byteAt s p - 224) 3 ∧ chr (vAt s p (byteAt s p - 224) 3) = true → atC s p = vAt s p (byteAt s p - 224) 3 ∧ atW s p = 3) ∧ (¬ (2048 ≤ vAt s p (byteAt s p - 224) 3 ∧ chr (vAt s p (byteAt s p - 224) 3) = true) → atC s p = 0 ∧ atW s p = 0) := by
  have e2 : vAt s p (byteAt s p - 224) 2 = vAt s p (byteAt s p - 224) 1 * 64 + byteAt s (p + 1) - 128 := vAt_step _ _ _ 1 (by omega)
  have e3 : vAt s p (byteAt s p - 224) 3 = vAt s p (byteAt s p - 224) 2 * 64 + byteAt s (p + 2) - 128 := vAt_step _ _ _ 2 (by omega)
  rw [vAt_one] at e2
  rw [e2] at e3
  have c1 := hc 1 (by omega) (by omega)
  have c2 := hc 2 (by omega) (by omega)
  rw [e3, chr_iff]
  unfold byteAt at *
  have ed : Utf8.decode s p = if (s.get! p).toNat % 16 * 4096 + (s.get! (p + 1)).toNat % 64 * 64 + (s.get! (p + 2)).toNat % 64 ≥ 2048 ∧ ((s.get! p).toNat % 16 * 4096 + (s.get! (p + 1)).toNat % 64 * 64 + (s.get! (p + 2)).toNat % 64 < 55296 ∨ (57344 ≤ (s.get! p).toNat % 16 * 4096 + (s.get! (p + 1)).toNat % 64 * 64 + (s.get! (p + 2)).toNat % 64 ∧ (s.get! p).toNat % 16 * 4096 + (s.get! (p + 1)).toNat % 64 * 64 + (s.get! (p + 2)).toNat % 64 ≤ 1114111)) then ((s.get! p).toNat % 16 * 4096 + (s.get! (p + 1)).toNat % 64 * 64 + (s.get! (p + 2)).toNat % 64, 3) else (65533, 1) := by
    rw [decode_bytes]; unfold Lib.decodeN
    rw [if_neg (by omega), if_neg (by omega), if_pos (by omega)]
  constructor
  · intro hv
    rw [if_pos (by omega)] at ed
    have := at_of_good s p _ 3 ed (by omega)
    omega
  · intro hv
    rw [if_neg (by omega)] at ed
    exact at_of_bad s p ed
theorem at_4 (s : ByteArray) (p : Nat) (h : 240 ≤ byteAt s p) (hs : p + 4 ≤ s.size) (hc : contTo s p 4) :
    (65536 ≤ vAt s p (byteAt s p - 240) 4 ∧ chr (vAt s p (byteAt s p - 240) 4) = true → atC s p = vAt s p (byteAt s p - 240) 4 ∧ atW s p = 4) ∧ (¬ (65536 ≤ vAt s p (byteAt s p - 240) 4 ∧ chr (vAt s p (byteAt s p - 240) 4) = true) → atC s p = 0 ∧ atW s p = 0) := by
  have e2 : vAt s p (byteAt s p - 240) 2 = vAt s p (byteAt s p - 240) 1 * 64 + byteAt s (p + 1) - 128 := vAt_step _ _ _ 1 (by omega)
  have e3 : vAt s p (byteAt s p - 240) 3 = vAt s p (byteAt s p - 240) 2 * 64 + byteAt s (p + 2) - 128 := vAt_step _ _ _ 2 (by omega)
  have e4 : vAt s p (byteAt s p - 240) 4 = vAt s p (byteAt s p - 240) 3 * 64 + byteAt s (p + 3) - 128 := vAt_step _ _ _ 3 (by omega)
  rw [vAt_one] at e2
  rw [e2] at e3
  rw [e3] at e4
  have c1 := hc 1 (by omega) (by omega)
  have c2 := hc 2 (by omega) (by omega)
  have c3 := hc 3 (by omega) (by omega)
  have bd := byteAt_bd s p
  rw [e4, chr_iff]
  unfold byteAt at *
  by_cases h8 : (s.get! p).toNat < 248
  · have ed : Utf8.decode s p = if (s.get! p).toNat % 8 * 262144 + (s.get! (p + 1)).toNat % 64 * 4096 + (s.get! (p + 2)).toNat % 64 * 64 + (s.get! (p + 3)).toNat % 64 ≥ 65536 ∧ ((s.get! p).toNat % 8 * 262144 + (s.get! (p + 1)).toNat % 64 * 4096 + (s.get! (p + 2)).toNat % 64 * 64 + (s.get! (p + 3)).toNat % 64 < 55296 ∨ (57344 ≤ (s.get! p).toNat % 8 * 262144 + (s.get! (p + 1)).toNat % 64 * 4096 + (s.get! (p + 2)).toNat % 64 * 64 + (s.get! (p + 3)).toNat % 64 ∧ (s.get! p).toNat % 8 * 262144 + (s.get! (p + 1)).toNat % 64 * 4096 + (s.get! (p + 2)).toNat % 64 * 64 + (s.get! (p + 3)).toNat % 64 ≤ 1114111)) then ((s.get! p).toNat % 8 * 262144 + (s.get! (p + 1)).toNat % 64 * 4096 + (s.get! (p + 2)).toNat % 64 * 64 + (s.get! (p + 3)).toNat % 64, 4) else (65533, 1) := by
      rw [decode_bytes]; unfold Lib.decodeN
      rw [if_neg (by omega), if_neg (by omega), if_neg (by omega), if_pos (by omega)]
    constructor
    · intro hv
      rw [if_pos (by omega)] at ed
      have := at_of_good s p _ 4 ed (by omega)
      omega
    · intro hv
      rw [if_neg (by omega)] at ed
      exact at_of_bad s p ed
  · have ed : Utf8.decode s p = (65533, 1) := by
      rw [decode_bytes]; unfold Lib.decodeN
      rw [if_neg (by omega), if_neg (by omega), if_neg (by omega), if_neg (by omega)]
    exact ⟨fun hv => by exfalso; omega, fun _ => at_of_bad s p ed⟩
end Go.Proofs.YtpdiaddgialanaaGreatDoor
