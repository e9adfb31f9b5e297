import Derived.Test.YtmnfioghhdgciaaDoorWildJ00
import Derived.Lib.ValidLaws
import Derived.Test.YtmnfioghhdgciaaDoorWildJ04
namespace Go.Proofs.YtmnfioghhdgciaaDoor
open Go

/-! The least number of changes, in plain words: over the characters from the last one on. -/
def ne1 (x y : Int) : Nat := if x = y then 0 else 1
def ed : List Int → List Int → Nat
  | [], b => b.length
  | a, [] => a.length
  | x :: a, y :: b => min (ed a b + ne1 x y) (min (ed a (y :: b) + 1) (ed (x :: a) b + 1))
termination_by a b => a.length + b.length
end Go.Proofs.YtmnfioghhdgciaaDoor

namespace Go.Proofs.YtmnfioghhdgciaaDoor
open Go

def bad (s : ByteArray) (p : Nat) : Prop := (Utf8.decode s p).1 = 65533 ∧ (Utf8.decode s p).2 = 1
instance (s : ByteArray) (p : Nat) : Decidable (bad s p) := inferInstanceAs (Decidable (_ ∧ _))
def byteAt (s : ByteArray) (p : Nat) : Int := ((s.get! p).toNat : Int)
theorem byteAt_bd (s : ByteArray) (p : Nat) : 0 ≤ byteAt s p ∧ byteAt s p ≤ 255 := by
  have := (s.get! p).toNat_lt
  unfold byteAt
  omega
theorem byteAt_get (s : ByteArray) (p : Nat) (h : p < s.size) : ((s[p]'h).toNat : Int) = byteAt s p := by
  have e : s.get! p = s[p]'h := by
    simp [ByteArray.get!, getElem!_pos, h]
    rfl
  rw [byteAt, e]
/-- What the document's text tells at a place: 0 and 0 where there is no character. -/
def atC (s : ByteArray) (p : Nat) : Int := if bad s p then 0 else ((Utf8.decode s p).1 : Int)
def atW (s : ByteArray) (p : Nat) : Int := if bad s p then 0 else ((Utf8.decode s p).2 : Int)
def vAt (s : ByteArray) (p : Nat) (v0 : Int) : Nat → Int
  | 0 => v0
  | k + 1 => if k = 0 then v0 else vAt s p v0 k * 64 + byteAt s (p + k) - 128
theorem vAt_one (s : ByteArray) (p : Nat) (v0 : Int) : vAt s p v0 1 = v0 := rfl
theorem vAt_step (s : ByteArray) (p : Nat) (v0 : Int) (k : Nat) (h : 1 ≤ k) : vAt s p v0 (k + 1) = vAt s p v0 k * 64 + byteAt s (p + k) - 128 := by
  show (if k = 0 then _ else _) = _
  rw [if_neg (by omega)]
def contTo (s : ByteArray) (p k : Nat) : Prop := ∀ j, 1 ≤ j → j < k → 128 ≤ byteAt s (p + j) ∧ byteAt s (p + j) ≤ 191
theorem contTo_one (s : ByteArray) (p : Nat) : contTo s p 1 := fun j h1 h2 => by omega
theorem contTo_step (s : ByteArray) (p k : Nat) (h : contTo s p k) (h1 : 128 ≤ byteAt s (p + k)) (h2 : byteAt s (p + k) ≤ 191) : contTo s p (k + 1) := fun j a b => by
  by_cases e : j = k
  · subst e; exact ⟨h1, h2⟩
  · exact h j a (by omega)
theorem vAt_bd (s : ByteArray) (p : Nat) (v0 : Int) (h0 : 0 ≤ v0) (h1 : v0 ≤ 31) (k : Nat) (hk : 1 ≤ k) (hk4 : k ≤ 4) (hc : contTo s p k) : 0 ≤ vAt s p v0 k ∧ vAt s p v0 k ≤ 8388607 := by
  have e1 := vAt_one s p v0
  have e2 : vAt s p v0 2 = vAt s p v0 1 * 64 + byteAt s (p + 1) - 128 := vAt_step s p v0 1 (by omega)
  have e3 : vAt s p v0 3 = vAt s p v0 2 * 64 + byteAt s (p + 2) - 128 := vAt_step s p v0 2 (by omega)
  have e4 : vAt s p v0 4 = vAt s p v0 3 * 64 + byteAt s (p + 3) - 128 := vAt_step s p v0 3 (by omega)
  rcases (show k = 1 ∨ k = 2 ∨ k = 3 ∨ k = 4 by omega) with rfl | rfl | rfl | rfl
  · omega
  · have := hc 1 (by omega) (by omega); omega
  · have := hc 1 (by omega) (by omega); have := hc 2 (by omega) (by omega); omega
  · have := hc 1 (by omega) (by omega); have := hc 2 (by omega) (by omega); have := hc 3 (by omega) (by omega); omega
theorem vAt2_lt (s : ByteArray) (p : Nat) (v0 : Int) (h : v0 ≤ 31) (hc : contTo s p 2) : vAt s p v0 2 < 2048 := by
  have e2 : vAt s p v0 2 = vAt s p v0 1 * 64 + byteAt s (p + 1) - 128 := vAt_step s p v0 1 (by omega)
  have c1 := hc 1 (by omega) (by omega)
  rw [vAt_one] at e2
  omega
theorem vAt3_lt (s : ByteArray) (p : Nat) (v0 : Int) (h : v0 ≤ 15) (hc : contTo s p 3) : vAt s p v0 3 < 65536 := by
  have e2 : vAt s p v0 2 = vAt s p v0 1 * 64 + byteAt s (p + 1) - 128 := vAt_step s p v0 1 (by omega)
  have e3 : vAt s p v0 3 = vAt s p v0 2 * 64 + byteAt s (p + 2) - 128 := vAt_step s p v0 2 (by omega)
  have c1 := hc 1 (by omega) (by omega)
  have c2 := hc 2 (by omega) (by omega)
  rw [vAt_one] at e2
  omega
theorem decode_bytes (s : ByteArray) (p : Nat) : Utf8.decode s p = Lib.decodeN (s.size - p) (s.get! p).toNat (s.get! (p + 1)).toNat (s.get! (p + 2)).toNat (s.get! (p + 3)).toNat := Lib.decode_at s p
theorem bad_iff (s : ByteArray) (p : Nat) : bad s p ↔ Utf8.decode s p = (65533, 1) := by
  unfold bad
  constructor
  · intro h; exact Prod.ext h.1 h.2
  · intro h; rw [h]; exact ⟨rfl, rfl⟩
theorem at_of_bad (s : ByteArray) (p : Nat) (h : Utf8.decode s p = (65533, 1)) : atC s p = 0 ∧ atW s p = 0 := by
  have hb := (bad_iff s p).2 h
  unfold atC atW
  rw [if_pos hb, if_pos hb]; exact ⟨rfl, rfl⟩
theorem at_of_good (s : ByteArray) (p r n : Nat) (h : Utf8.decode s p = (r, n)) (hn : ¬ (r = 65533 ∧ n = 1)) : atC s p = r ∧ atW s p = n := by
  have hb : ¬ bad s p := by rw [bad_iff, h]; intro e; cases e; exact hn ⟨rfl, rfl⟩
  unfold atC atW
  rw [if_neg hb, if_neg hb, h]; exact ⟨rfl, rfl⟩
theorem at_1 (s : ByteArray) (p : Nat) (h : byteAt s p < 128) : atC s p = byteAt s p ∧ atW s p = 1 := by
  unfold byteAt at *
  have e : Utf8.decode s p = ((s.get! p).toNat, 1) := by
    rw [decode_bytes]; unfold Lib.decodeN; rw [if_pos (by omega)]
  exact at_of_good s p _ 1 e (by omega)
set_option maxHeartbeats 1000000 in
theorem at_low (s : ByteArray) (p : Nat) (h : 128 ≤ byteAt s p) (h2 : byteAt s p < 192) : atC s p = 0 ∧ atW s p = 0 := by
  unfold byteAt at *
  apply at_of_bad
  rw [decode_bytes]; unfold Lib.decodeN
  rw [if_neg (by omega), if_neg (by omega), if_neg (by omega), if_neg (by omega)]
set_option maxHeartbeats 1000000 in
theorem at_cut (s : ByteArray) (p n : Nat) (h : (n = 2 ∧ 192 ≤ byteAt s p ∧ byteAt s p < 224) ∨ (n = 3 ∧ 224 ≤ byteAt s p ∧ byteAt s p < 240) ∨ (n = 4 ∧ 240 ≤ byteAt s p))
    (hbad : s.size < p + n ∨ ∃ j, 1 ≤ j ∧ j < n ∧ (byteAt s (p + j) < 128 ∨ 191 < byteAt s (p + j))) : atC s p = 0 ∧ atW s p = 0 := by
  apply at_of_bad
  have b0 := byteAt_bd s p
  have b1 := byteAt_bd s (p + 1)
  have b2 := byteAt_bd s (p + 2)
  have b3 := byteAt_bd s (p + 3)
  have key : (n = 2 → s.size < p + 2 ∨ byteAt s (p + 1) < 128 ∨ 191 < byteAt s (p + 1)) ∧ (n = 3 → s.size < p + 3 ∨ byteAt s (p + 1) < 128 ∨ 191 < byteAt s (p + 1) ∨ byteAt s (p + 2) < 128 ∨ 191 < byteAt s (p + 2)) ∧
      (n = 4 → s.size < p + 4 ∨ byteAt s (p + 1) < 128 ∨ 191 < byteAt s (p + 1) ∨ byteAt s (p + 2) < 128 ∨ 191 < byteAt s (p + 2) ∨ byteAt s (p + 3) < 128 ∨ 191 < byteAt s (p + 3)) := by
    rcases hbad with hb | ⟨j, j1, j2, hj⟩
    · exact ⟨fun e => by omega, fun e => by omega, fun e => by omega⟩
    · rcases (show j = 1 ∨ j = 2 ∨ j = 3 by omega) with rfl | rfl | rfl
      · exact ⟨fun e => by omega, fun e => by omega, fun e => by omega⟩
      · exact ⟨fun e => by omega, fun e => by omega, fun e => by omega⟩
      · exact ⟨fun e => by omega, fun e => by omega, fun e => by omega⟩
  clear hbad
  unfold byteAt at *
  rw [decode_bytes]; unfold Lib.decodeN
  rw [if_neg (by omega), if_neg (by omega), if_neg (by omega), if_neg (by omega)]
/-- All bytes are there and go on: the number that they spell, if it is a character in its shortest form. -/
theorem at_2 (s : ByteArray) (p : Nat) (h : 192 ≤ byteAt s p) (h2 : byteAt s p < 224) (hs : p + 2 ≤ s.size) (hc : contTo s p 2) :
    (128 ≤ vAt s p (byteAt s p - 192) 2 → atC s p = vAt s p (byteAt s p - 192) 2 ∧ atW s p = 2) ∧ (vAt s p (byteAt s p - 192) 2 < 128 → atC s p = 0 ∧ atW s p = 0) := by
  have e2 : vAt s p (byteAt s p - 192) 2 = vAt s p (byteAt s p - 192) 1 * 64 + byteAt s (p + 1) - 128 := vAt_step _ _ _ 1 (by omega)
  rw [vAt_one] at e2
  have c1 := hc 1 (by omega) (by omega)
  rw [e2]
  unfold byteAt at *
  have ed : Utf8.decode s p = if (s.get! p).toNat % 32 * 64 + (s.get! (p + 1)).toNat % 64 ≥ 128 then ((s.get! p).toNat % 32 * 64 + (s.get! (p + 1)).toNat % 64, 2) else (65533, 1) := by
    rw [decode_bytes]; unfold Lib.decodeN
    rw [if_neg (by omega), if_pos (by omega)]
  constructor
  · intro hv
    rw [if_pos (by omega)] at ed
    have := at_of_good s p _ 2 ed (by omega)
    omega
  · intro hv
    rw [if_neg (by omega)] at ed
    exact at_of_bad s p ed
theorem at_3 (s : ByteArray) (p : Nat) (h : 224 ≤ byteAt s p) (h2 : byteAt s p < 240) (hs : p + 3 ≤ s.size) (hc : contTo s p 3) :
    (2048 ≤ vAt s p (byteAt s p - 224) 3 ∧ chr (vAt s p (byteAt s p - 224) 3) = true → atC s p = vAt s p (byteAt s p - 224) 3 ∧ atW s p = 3) ∧ (¬ (2048 ≤ vAt s p (byteAt s p - 224) 3 ∧ chr (vAt s p (byteAt s p - 224) 3) = true) → atC s p = 0 ∧ atW s p = 0) := by
  have e2 : vAt s p (byteAt s p - 224) 2 = vAt s p (byteAt s p - 224) 1 * 64 + byteAt s (p + 1) - 128 := vAt_step _ _ _ 1 (by omega)
  have e3 : vAt s p (byteAt s p - 224) 3 = vAt s p (byteAt s p - 224) 2 * 64 + byteAt s (p + 2) - 128 := vAt_step _ _ _ 2 (by omega)
  rw [vAt_one] at e2
  rw [e2] at e3
  have c1 := hc 1 (by omega) (by omega)
  have c2 := hc 2 (by omega) (by omega)
  rw [e3, chr_iff]
  unfold byteAt at *
  have ed : Utf8.decode s p = if (s.get! p).toNat % 16 * 4096 + (s.get! (p + 1)).toNat % 64 * 64 + (s.get! (p + 2)).toNat % 64 ≥ 2048 ∧ ((s.get! p).toNat % 16 * 4096 + (s.get! (p + 1)).toNat % 64 * 64 + (s.get! (p + 2)).toNat % 64 < 55296 ∨ (57344 ≤ (s.get! p).toNat % 16 * 4096 + (s.get! (p + 1)).toNat % 64 * 64 + (s.get! (p + 2)).toNat % 64 ∧ (s.get! p).toNat % 16 * 4096 + (s.get! (p + 1)).toNat % 64 * 64 + (s.get! (p + 2)).toNat % 64 ≤ 1114111)) then ((s.get! p).toNat % 16 * 4096 + (s.get! (p + 1)).toNat % 64 * 64 + (s.get! (p + 2)).toNat % 64, 3) else (65533, 1) := by
    rw [decode_bytes]; unfold Lib.decodeN
    rw [if_neg (by omega), if_neg (by omega), if_pos (by omega)]
  constructor
  · intro hv
    rw [if_pos (by omega)] at ed
    have := at_of_good s p _ 3 ed (by omega)
    omega
  · intro hv
    rw [if_neg (by omega)] at ed
    exact at_of_bad s p ed
theorem at_4 (s : ByteArray) (p : Nat) (h : 240 ≤ byteAt s p) (hs : p + 4 ≤ s.size) (hc : contTo s p 4) :
    (65536 ≤ vAt s p (byteAt s p - 240) 4 ∧ chr (vAt s p (byteAt s p - 240) 4) = true → atC s p = vAt s p (byteAt s p - 240) 4 ∧ atW s p = 4) ∧ (¬ (65536 ≤ vAt s p (byteAt s p - 240) 4 ∧ chr (vAt s p (byteAt s p - 240) 4) = true) → atC s p = 0 ∧ atW s p = 0) := by
  have e2 : vAt s p (byteAt s p - 240) 2 = vAt s p (byteAt s p - 240) 1 * 64 + byteAt s (p + 1) - 128 := vAt_step _ _ _ 1 (by omega)
  have e3 : vAt s p (byteAt s p - 240) 3 = vAt s p (byteAt s p - 240) 2 * 64 + byteAt s (p + 2) - 128 := vAt_step _ _ _ 2 (by omega)
  have e4 : vAt s p (byteAt s p - 240) 4 = vAt s p (byteAt s p - 240) 3 * 64 + byteAt s (p + 3) - 128 := vAt_step _ _ _ 3 (by omega)
  rw [vAt_one] at e2
  rw [e2] at e3
  rw [e3] at e4
  have c1 := hc 1 (by omega) (by omega)
  have c2 := hc 2 (by omega) (by omega)
  have c3 := hc 3 (by omega) (by omega)
  have bd := byteAt_bd s p
  rw [e4, chr_iff]
  unfold byteAt at *
  by_cases h8 : (s.get! p).toNat < 248
  · have ed : Utf8.decode s p = if (s.get! p).toNat % 8 * 262144 + (s.get! (p + 1)).toNat % 64 * 4096 + (s.get! (p + 2)).toNat % 64 * 64 + (s.get! (p + 3)).toNat % 64 ≥ 65536 ∧ ((s.get! p).toNat % 8 * 262144 + (s.get! (p + 1)).toNat % 64 * 4096 + (s.get! (p + 2)).toNat % 64 * 64 + (s.get! (p + 3)).toNat % 64 < 55296 ∨ (57344 ≤ (s.get! p).toNat % 8 * 262144 + (s.get! (p + 1)).toNat % 64 * 4096 + (s.get! (p + 2)).toNat % 64 * 64 + (s.get! (p + 3)).toNat % 64 ∧ (s.get! p).toNat % 8 * 262144 + (s.get! (p + 1)).toNat % 64 * 4096 + (s.get! (p + 2)).toNat % 64 * 64 + (s.get! (p + 3)).toNat % 64 ≤ 1114111)) then ((s.get! p).toNat % 8 * 262144 + (s.get! (p + 1)).toNat % 64 * 4096 + (s.get! (p + 2)).toNat % 64 * 64 + (s.get! (p + 3)).toNat % 64, 4) else (65533, 1) := by
      rw [decode_bytes]; unfold Lib.decodeN
      rw [if_neg (by omega), if_neg (by omega), if_neg (by omega), if_pos (by omega)]
    constructor
    · intro hv
      rw [if_pos (by omega)] at ed
      have := at_of_good s p _ 4 ed (by omega)
      omega
    · intro hv
      rw [if_neg (by omega)] at ed
      exact at_of_bad s p ed
  · have ed : Utf8.decode s p = (65533, 1) := by
      rw [decode_bytes]; unfold Lib.decodeN
      rw [if_neg (by omega), if_neg (by omega), if_neg (by omega), if_neg (by omega)]
    exact ⟨fun hv => by exfalso; omega, fun _ => at_of_bad s p ed⟩
end Go.Proofs.YtmnfioghhdgciaaDoor

namespace Go.Proofs.YtmnfioghhdgciaaDoor
open Go Go.RowKit
set_option linter.unusedVariables false

theorem runes_len (r : Int) (h : chr r = true) : ((Lib.runeCells r).length : Int) = if r < 128 then 1 else if r < 2048 then 2 else if r < 65536 then 3 else 4 := by
  rw [chr_iff] at h
  unfold Lib.runeCells
  rw [List.length_map]
  by_cases h1 : r < 128
  · rw [Lib.encodeRuneZ_one h.1 (by omega), if_pos h1]; rfl
  · by_cases h2 : r < 2048
    · rw [Lib.encodeRuneZ_two (by omega) (by omega), if_neg h1, if_pos h2]; rfl
    · by_cases h3 : r < 65536
      · rw [Lib.encodeRuneZ_three (by omega), if_neg h1, if_neg h2, if_pos h3]; rfl
      · rw [Lib.encodeRuneZ_four (by omega) (by omega), if_neg h1, if_neg h2, if_neg h3]; rfl
set_option maxHeartbeats 400000 in
set_option maxRecDepth 100000 in
theorem at_walk1 (s : ByteArray) (p : Nat) (w : World) (hs : s.size ≤ 1048576) (hp : p < s.size) (h : byteAt s p < 128) :
    Calls Tryd.prog 47 #[.string s, .int .i64 p] w fun e w' => e = .returned (.tuple #[.int .i64 (atC s p), .int .i64 (atW s p)]) ∧ Below w.heap.size w w' := by
  have HA := hidd (at_1 s p h)
  have Hb := hidd (byteAt_get s p hp)
  rw [← Hb.out] at h
  go_enter Tryd.func47, Tryd.ntmps47
  go_wp2
  go_ret2
  rw [HA.out.1, HA.out.2, ← Hb.out]
  exact ⟨rfl, Below.refl _ _⟩
set_option maxHeartbeats 400000 in
set_option maxRecDepth 100000 in
theorem at_walk0 (s : ByteArray) (p : Nat) (w : World) (hs : s.size ≤ 1048576) (hp : p < s.size) (h : 128 ≤ byteAt s p) (h2 : byteAt s p < 192) :
    Calls Tryd.prog 47 #[.string s, .int .i64 p] w fun e w' => e = .returned (.tuple #[.int .i64 (atC s p), .int .i64 (atW s p)]) ∧ Below w.heap.size w w' := by
  have HA := hidd (at_low s p h h2)
  have Hb := hidd (byteAt_get s p hp)
  rw [← Hb.out] at h h2
  go_enter Tryd.func47, Tryd.ntmps47
  go_wp2
  go_ret2
  rw [HA.out.1, HA.out.2]
  exact ⟨rfl, Below.refl _ _⟩
set_option maxHeartbeats 2000000 in
set_option maxRecDepth 100000 in
theorem at_walk2 (s : ByteArray) (p : Nat) (w : World) (hs : s.size ≤ 1048576) (hp : p < s.size) (h : 192 ≤ byteAt s p) (h2 : byteAt s p < 224) :
    Calls Tryd.prog 47 #[.string s, .int .i64 p] w fun e w' => e = .returned (.tuple #[.int .i64 (atC s p), .int .i64 (atW s p)]) ∧ Below w.heap.size w w' := by
  have bd := byteAt_bd s p
  have Hb := hidd (byteAt_get s p hp)
  by_cases hsz : s.size < p + 2
  · have HA := hidd (at_cut s p 2 (Or.inl ⟨rfl, h, h2⟩) (Or.inl hsz))
    have hszz : (s.size : Int) < (p : Int) + 2 := by omega
    rw [← Hb.out] at h h2 bd
    go_enter Tryd.func47, Tryd.ntmps47
    go_wp2
    go_ret2
    rw [HA.out.1, HA.out.2]
    exact ⟨rfl, Below.refl _ _⟩
  · have hszz : ¬ (s.size : Int) < (p : Int) + 2 := by omega
    have Hcut := hidd (fun hb => at_cut s p 2 (Or.inl ⟨rfl, h, h2⟩) (Or.inr hb))
    have Hend := hidd (fun hc => at_2 s p h h2 (by omega) hc)
    generalize hv0 : byteAt s p - 192 = v0 at Hend
    have Hv0 := hidd hv0
    have hv0l : 0 ≤ v0 := by omega
    have hv0h : v0 ≤ 31 := by omega
    have Hv1 : Hid (((s[p]'hp).toNat : Int) - 192 = v0) := by show _ = _; rw [Hb.out]; exact hv0
    rw [← Hb.out] at h h2 bd
    clear hv0
    go_enter Tryd.func47, Tryd.ntmps47
    go_wp2
    rw [Hv1.out]
    go_loop [8, 9] (fun v i => ∃ k : Nat, 1 ≤ k ∧ k ≤ 2 ∧ i = .int .i64 k ∧ v = .int .i64 (vAt s p v0 k) ∧ contTo s p k) (fun _ i => 2 - (intOf i).toNat)
    case atStart => exact ⟨1, by omega, by omega, rfl, rfl, contTo_one s p⟩
    case round =>
      obtain ⟨k, hk1, hk, rfl, rfl, hcont⟩ := hrel
      have vb := vAt_bd s p v0 hv0l hv0h k hk1 (by omega) hcont
      have HC := hidd hcont
      clear hcont
      by_cases hlt : k < 2
      · have hpk : p + k < s.size := by omega
        have Hk := hidd (byteAt_get s (p + k) hpk)
        have bdk := byteAt_bd s (p + k)
        have hpkz : (p : Int) + (k : Int) < (s.size : Int) := by omega
        by_cases hc1 : byteAt s (p + k) < 128
        · have HA := hidd (Hcut.out ⟨k, hk1, hlt, Or.inl hc1⟩)
          rw [← Hk.out] at hc1 bdk
          go_wp2
          go_ret2
          rw [HA.out.1, HA.out.2]
          exact ⟨rfl, Below.refl _ _⟩
        · by_cases hc2 : 191 < byteAt s (p + k)
          · have HA := hidd (Hcut.out ⟨k, hk1, hlt, Or.inr hc2⟩)
            rw [← Hk.out] at hc1 hc2 bdk
            go_wp2
            go_ret2
            rw [HA.out.1, HA.out.2]
            exact ⟨rfl, Below.refl _ _⟩
          · have HS := hidd (vAt_step s p v0 k hk1)
            have HC2 := hidd (contTo_step s p k HC.out (by omega) (by omega))
            rw [← Hk.out] at hc1 hc2 bdk
            go_wp2
            go_round
            case rel => exact ⟨k + 1, by omega, by omega, by go_num, by rw [HS.out, Hk.out], HC2.out⟩
            case measure => simp [intOf]; omega
      · obtain rfl : k = 2 := by omega
        have He := hidd (Hend.out HC.out)
        have HVU := hidd (vAt2_lt s p v0 hv0h HC.out)
        generalize vAt s p v0 2 = v at He vb HVU
        by_cases hch : chr v = true
        · have hrl := hidd (runes_len v hch)
          by_cases hv : 128 ≤ v
          · have HA := hidd (He.out.1 hv)
            have hvu : v < 2048 := HVU.out
            have hlen : (((Lib.runeCells v).length : Int) != 2) = false := by rw [hrl.out, if_neg (by omega), if_pos (by omega)]; rfl
            go_wp2_with fail
            refine (charOK_any _ _).mono ?_
            rintro e w1 ⟨rfl, rfl⟩
            go_wp2_with fail
            refine (bytes_any v _ hch).mono ?_
            rintro e w1 ⟨rfl, rfl⟩
            go_wp2
            go_ret2
            rw [HA.out.1, HA.out.2]
            exact ⟨rfl, (Below.refl _ _).alloc (Nat.le_refl _) _⟩
          · have HA := hidd (He.out.2 (by omega))
            have hlen : (((Lib.runeCells v).length : Int) != 2) = true := by
              rw [bne_iff_ne, hrl.out]
              repeat' split
              all_goals omega
            go_wp2_with fail
            refine (charOK_any _ _).mono ?_
            rintro e w1 ⟨rfl, rfl⟩
            go_wp2_with fail
            refine (bytes_any v _ hch).mono ?_
            rintro e w1 ⟨rfl, rfl⟩
            go_wp2
            go_ret2
            rw [HA.out.1, HA.out.2]
            exact ⟨rfl, (Below.refl _ _).alloc (Nat.le_refl _) _⟩
        · have hch' : chr v = false := by simpa using hch
          exact absurd ((chr_iff v).2 (by have := HVU.out; omega)) hch
set_option maxHeartbeats 2000000 in
set_option maxRecDepth 100000 in
theorem at_walk3 (s : ByteArray) (p : Nat) (w : World) (hs : s.size ≤ 1048576) (hp : p < s.size) (h : 224 ≤ byteAt s p) (h2 : byteAt s p < 240) :
    Calls Tryd.prog 47 #[.string s, .int .i64 p] w fun e w' => e = .returned (.tuple #[.int .i64 (atC s p), .int .i64 (atW s p)]) ∧ Below w.heap.size w w' := by
  have bd := byteAt_bd s p
  have Hb := hidd (byteAt_get s p hp)
  by_cases hsz : s.size < p + 3
  · have HA := hidd (at_cut s p 3 (Or.inr (Or.inl ⟨rfl, h, h2⟩)) (Or.inl hsz))
    have hszz : (s.size : Int) < (p : Int) + 3 := by omega
    rw [← Hb.out] at h h2 bd
    go_enter Tryd.func47, Tryd.ntmps47
    go_wp2
    go_ret2
    rw [HA.out.1, HA.out.2]
    exact ⟨rfl, Below.refl _ _⟩
  · have hszz : ¬ (s.size : Int) < (p : Int) + 3 := by omega
    have Hcut := hidd (fun hb => at_cut s p 3 (Or.inr (Or.inl ⟨rfl, h, h2⟩)) (Or.inr hb))
    have Hend := hidd (fun hc => at_3 s p h h2 (by omega) hc)
    generalize hv0 : byteAt s p - 224 = v0 at Hend
    have Hv0 := hidd hv0
    have hv0l : 0 ≤ v0 := by omega
    have hv0h : v0 ≤ 31 := by omega
    have Hv1 : Hid (((s[p]'hp).toNat : Int) - 224 = v0) := by show _ = _; rw [Hb.out]; exact hv0
    rw [← Hb.out] at h h2 bd
    clear hv0
    go_enter Tryd.func47, Tryd.ntmps47
    go_wp2
    rw [Hv1.out]
    go_loop [8, 9] (fun v i => ∃ k : Nat, 1 ≤ k ∧ k ≤ 3 ∧ i = .int .i64 k ∧ v = .int .i64 (vAt s p v0 k) ∧ contTo s p k) (fun _ i => 3 - (intOf i).toNat)
    case atStart => exact ⟨1, by omega, by omega, rfl, rfl, contTo_one s p⟩
    case round =>
      obtain ⟨k, hk1, hk, rfl, rfl, hcont⟩ := hrel
      have vb := vAt_bd s p v0 hv0l hv0h k hk1 (by omega) hcont
      have HC := hidd hcont
      clear hcont
      by_cases hlt : k < 3
      · have hpk : p + k < s.size := by omega
        have Hk := hidd (byteAt_get s (p + k) hpk)
        have bdk := byteAt_bd s (p + k)
        have hpkz : (p : Int) + (k : Int) < (s.size : Int) := by omega
        by_cases hc1 : byteAt s (p + k) < 128
        · have HA := hidd (Hcut.out ⟨k, hk1, hlt, Or.inl hc1⟩)
          rw [← Hk.out] at hc1 bdk
          go_wp2
          go_ret2
          rw [HA.out.1, HA.out.2]
          exact ⟨rfl, Below.refl _ _⟩
        · by_cases hc2 : 191 < byteAt s (p + k)
          · have HA := hidd (Hcut.out ⟨k, hk1, hlt, Or.inr hc2⟩)
            rw [← Hk.out] at hc1 hc2 bdk
            go_wp2
            go_ret2
            rw [HA.out.1, HA.out.2]
            exact ⟨rfl, Below.refl _ _⟩
          · have HS := hidd (vAt_step s p v0 k hk1)
            have HC2 := hidd (contTo_step s p k HC.out (by omega) (by omega))
            rw [← Hk.out] at hc1 hc2 bdk
            go_wp2
            go_round
            case rel => exact ⟨k + 1, by omega, by omega, by go_num, by rw [HS.out, Hk.out], HC2.out⟩
            case measure => simp [intOf]; omega
      · obtain rfl : k = 3 := by omega
        have He := hidd (Hend.out HC.out)
        have HVU := hidd (vAt3_lt s p v0 (by have := Hv1.out; omega) HC.out)
        generalize vAt s p v0 3 = v at He vb HVU
        by_cases hch : chr v = true
        · have hrl := hidd (runes_len v hch)
          by_cases hv : 2048 ≤ v
          · have HA := hidd (He.out.1 ⟨hv, hch⟩)
            have hvu : v < 65536 := HVU.out
            have hlen : (((Lib.runeCells v).length : Int) != 3) = false := by rw [hrl.out, if_neg (by omega), if_neg (by omega), if_pos (by omega)]; rfl
            go_wp2_with fail
            refine (charOK_any _ _).mono ?_
            rintro e w1 ⟨rfl, rfl⟩
            go_wp2_with fail
            refine (bytes_any v _ hch).mono ?_
            rintro e w1 ⟨rfl, rfl⟩
            go_wp2
            go_ret2
            rw [HA.out.1, HA.out.2]
            exact ⟨rfl, (Below.refl _ _).alloc (Nat.le_refl _) _⟩
          · have HA := hidd (He.out.2 (fun hh => hv hh.1))
            have hlen : (((Lib.runeCells v).length : Int) != 3) = true := by
              rw [bne_iff_ne, hrl.out]
              repeat' split
              all_goals omega
            go_wp2_with fail
            refine (charOK_any _ _).mono ?_
            rintro e w1 ⟨rfl, rfl⟩
            go_wp2_with fail
            refine (bytes_any v _ hch).mono ?_
            rintro e w1 ⟨rfl, rfl⟩
            go_wp2
            go_ret2
            rw [HA.out.1, HA.out.2]
            exact ⟨rfl, (Below.refl _ _).alloc (Nat.le_refl _) _⟩
        · have hch' : chr v = false := by simpa using hch
          have HA := hidd (He.out.2 (fun hh => hch hh.2))
          clear hch
          go_wp2_with fail
          refine (charOK_any _ _).mono ?_
          rintro e w1 ⟨rfl, rfl⟩
          go_wp2
          go_ret2
          rw [HA.out.1, HA.out.2]
          exact ⟨rfl, Below.refl _ _⟩
set_option maxHeartbeats 2000000 in
set_option maxRecDepth 100000 in
theorem at_walk4 (s : ByteArray) (p : Nat) (w : World) (hs : s.size ≤ 1048576) (hp : p < s.size) (h : 240 ≤ byteAt s p) :
    Calls Tryd.prog 47 #[.string s, .int .i64 p] w fun e w' => e = .returned (.tuple #[.int .i64 (atC s p), .int .i64 (atW s p)]) ∧ Below w.heap.size w w' := by
  have bd := byteAt_bd s p
  have Hb := hidd (byteAt_get s p hp)
  by_cases hsz : s.size < p + 4
  · have HA := hidd (at_cut s p 4 (Or.inr (Or.inr ⟨rfl, h⟩)) (Or.inl hsz))
    have hszz : (s.size : Int) < (p : Int) + 4 := by omega
    rw [← Hb.out] at h bd
    go_enter Tryd.func47, Tryd.ntmps47
    go_wp2
    go_ret2
    rw [HA.out.1, HA.out.2]
    exact ⟨rfl, Below.refl _ _⟩
  · have hszz : ¬ (s.size : Int) < (p : Int) + 4 := by omega
    have Hcut := hidd (fun hb => at_cut s p 4 (Or.inr (Or.inr ⟨rfl, h⟩)) (Or.inr hb))
    have Hend := hidd (fun hc => at_4 s p h (by omega) hc)
    generalize hv0 : byteAt s p - 240 = v0 at Hend
    have Hv0 := hidd hv0
    have hv0l : 0 ≤ v0 := by omega
    have hv0h : v0 ≤ 31 := by omega
    have Hv1 : Hid (((s[p]'hp).toNat : Int) - 240 = v0) := by show _ = _; rw [Hb.out]; exact hv0
    rw [← Hb.out] at h bd
    clear hv0
    go_enter Tryd.func47, Tryd.ntmps47
    go_wp2
    rw [Hv1.out]
    go_loop [8, 9] (fun v i => ∃ k : Nat, 1 ≤ k ∧ k ≤ 4 ∧ i = .int .i64 k ∧ v = .int .i64 (vAt s p v0 k) ∧ contTo s p k) (fun _ i => 4 - (intOf i).toNat)
    case atStart => exact ⟨1, by omega, by omega, rfl, rfl, contTo_one s p⟩
    case round =>
      obtain ⟨k, hk1, hk, rfl, rfl, hcont⟩ := hrel
      have vb := vAt_bd s p v0 hv0l hv0h k hk1 (by omega) hcont
      have HC := hidd hcont
      clear hcont
      by_cases hlt : k < 4
      · have hpk : p + k < s.size := by omega
        have Hk := hidd (byteAt_get s (p + k) hpk)
        have bdk := byteAt_bd s (p + k)
        have hpkz : (p : Int) + (k : Int) < (s.size : Int) := by omega
        by_cases hc1 : byteAt s (p + k) < 128
        · have HA := hidd (Hcut.out ⟨k, hk1, hlt, Or.inl hc1⟩)
          rw [← Hk.out] at hc1 bdk
          go_wp2
          go_ret2
          rw [HA.out.1, HA.out.2]
          exact ⟨rfl, Below.refl _ _⟩
        · by_cases hc2 : 191 < byteAt s (p + k)
          · have HA := hidd (Hcut.out ⟨k, hk1, hlt, Or.inr hc2⟩)
            rw [← Hk.out] at hc1 hc2 bdk
            go_wp2
            go_ret2
            rw [HA.out.1, HA.out.2]
            exact ⟨rfl, Below.refl _ _⟩
          · have HS := hidd (vAt_step s p v0 k hk1)
            have HC2 := hidd (contTo_step s p k HC.out (by omega) (by omega))
            rw [← Hk.out] at hc1 hc2 bdk
            go_wp2
            go_round
            case rel => exact ⟨k + 1, by omega, by omega, by go_num, by rw [HS.out, Hk.out], HC2.out⟩
            case measure => simp [intOf]; omega
      · obtain rfl : k = 4 := by omega
        have He := hidd (Hend.out HC.out)
        skip
        generalize vAt s p v0 4 = v at He vb
        by_cases hch : chr v = true
        · have hrl := hidd (runes_len v hch)
          by_cases hv : 65536 ≤ v
          · have HA := hidd (He.out.1 ⟨hv, hch⟩)
            skip
            have hlen : (((Lib.runeCells v).length : Int) != 4) = false := by rw [hrl.out, if_neg (by omega), if_neg (by omega), if_neg (by omega)]; rfl
            go_wp2_with fail
            refine (charOK_any _ _).mono ?_
            rintro e w1 ⟨rfl, rfl⟩
            go_wp2_with fail
            refine (bytes_any v _ hch).mono ?_
            rintro e w1 ⟨rfl, rfl⟩
            go_wp2
            go_ret2
            rw [HA.out.1, HA.out.2]
            exact ⟨rfl, (Below.refl _ _).alloc (Nat.le_refl _) _⟩
          · have HA := hidd (He.out.2 (fun hh => hv hh.1))
            have hlen : (((Lib.runeCells v).length : Int) != 4) = true := by
              rw [bne_iff_ne, hrl.out]
              repeat' split
              all_goals omega
            go_wp2_with fail
            refine (charOK_any _ _).mono ?_
            rintro e w1 ⟨rfl, rfl⟩
            go_wp2_with fail
            refine (bytes_any v _ hch).mono ?_
            rintro e w1 ⟨rfl, rfl⟩
            go_wp2
            go_ret2
            rw [HA.out.1, HA.out.2]
            exact ⟨rfl, (Below.refl _ _).alloc (Nat.le_refl _) _⟩
        · have hch' : chr v = false := by simpa using hch
          have HA := hidd (He.out.2 (fun hh => hch hh.2))
          clear hch
          go_wp2_with fail
          refine (charOK_any _ _).mono ?_
          rintro e w1 ⟨rfl, rfl⟩
          go_wp2
          go_ret2
          rw [HA.out.1, HA.out.2]
          exact ⟨rfl, Below.refl _ _⟩
theorem at_any (s : ByteArray) (p : Nat) (w : World) (hs : s.size ≤ 1048576) (hp : p < s.size) :
    Calls Tryd.prog 47 #[.string s, .int .i64 p] w fun e w' => e = .returned (.tuple #[.int .i64 (atC s p), .int .i64 (atW s p)]) ∧ Below w.heap.size w w' := by
  by_cases h1 : byteAt s p < 128
  · exact at_walk1 s p w hs hp h1
  by_cases h2 : byteAt s p < 192
  · exact at_walk0 s p w hs hp (by omega) h2
  by_cases h3 : byteAt s p < 224
  · exact at_walk2 s p w hs hp (by omega) h3
  by_cases h4 : byteAt s p < 240
  · exact at_walk3 s p w hs hp (by omega) h4
  · exact at_walk4 s p w hs hp (by omega)
end Go.Proofs.YtmnfioghhdgciaaDoor
