import Derived.Test.YtpdiaddgialanaaGreatDoorRunesC
import Derived.Test.YtpdiaddgialanaaGreatDoorEncP
namespace Go.Proofs.YtpdiaddgialanaaGreatDoor
open Go
set_option linter.unusedVariables false

def blen (l : List Int) : Nat := (encs l).length
theorem blen_cons (r : Int) (t : List Int) : blen (r :: t) = (Lib.encodeRune r).length + blen t := by simp [blen, encs]
theorem blen_nil : blen [] = 0 := rfl
theorem blen_append (a b : List Int) : blen (a ++ b) = blen a + blen b := by simp [blen, encs]
theorem runesFrom_fuel (s : ByteArray) : ∀ f f' p, s.size ≤ p + f → s.size ≤ p + f' → runesFrom s f p = runesFrom s f' p
  | 0, f', p, h, _ => by rw [runesFrom_end s 0 p (by omega), runesFrom_end s f' p (by omega)]
  | f + 1, f', p, h, h' => by
    by_cases hp : p < s.size
    · have hw := width_le s p hp
      obtain ⟨g, rfl⟩ : ∃ g, f' = g + 1 := ⟨f' - 1, by omega⟩
      rw [runesFrom_step s f p hp, runesFrom_step s g p hp, runesFrom_fuel s f g _ (by omega) (by omega)]
    · rw [runesFrom_end s _ p hp, runesFrom_end s _ p hp]
def Rs (s : ByteArray) (p : Nat) : List Int := runesFrom s s.size p
theorem Rs_zero (s : ByteArray) : Rs s 0 = runes s := rfl
theorem Rs_end (s : ByteArray) (p : Nat) (h : ¬ p < s.size) : Rs s p = [] := runesFrom_end s _ p h
theorem Rs_step (s : ByteArray) (p : Nat) (h : p < s.size) : Rs s p = ((Utf8.decode s p).1 : Int) :: Rs s (p + (Utf8.decode s p).2) := by
  have hw := width_le s p h
  rw [Rs, runesFrom_fuel s s.size ((s.size - 1) + 1) p (by omega) (by omega), runesFrom_step s _ p h, runesFrom_fuel s (s.size - 1) s.size _ (by omega) (by omega)]
  rfl
theorem drop_ne (s : ByteArray) (p : Nat) (h : p < s.size) : s.data.toList.drop p ≠ [] := by
  intro e
  have := congrArg List.length e
  rw [List.length_drop, data_len] at this
  simp at this
  omega
theorem rune_bytes (s : ByteArray) (p : Nat) (h : p < s.size) (hg : ¬ bad s p) : Lib.encodeRune ((Utf8.decode s p).1 : Int) = (s.data.toList.drop p).take (Utf8.decode s p).2 := by
  have := Lib.encode_decode (s.data.toList.drop p) (drop_ne s p h) (by rw [Lib.decodeL_drop]; exact hg)
  rw [Lib.decodeL_drop] at this
  exact this
theorem rune_width (s : ByteArray) (p : Nat) (h : p < s.size) (hg : ¬ bad s p) : (Lib.encodeRune ((Utf8.decode s p).1 : Int)).length = (Utf8.decode s p).2 := by
  have hw := width_le s p h
  rw [rune_bytes s p h hg, List.length_take, List.length_drop, data_len]
  omega
theorem Rs_bytes (s : ByteArray) : ∀ (m p : Nat), s.size ≤ p + m → vFrom s p = true → encs (Rs s p) = s.data.toList.drop p
  | 0, p, hm, _ => by
    rw [Rs_end s p (by omega), List.drop_of_length_le (by rw [data_len]; omega)]; rfl
  | m + 1, p, hm, hv => by
    by_cases h : p < s.size
    · have hg := good_of s p h hv
      have hw := width_le s p h
      have ih := Rs_bytes s m (p + (Utf8.decode s p).2) (by omega) (by rw [vFrom_good s p h hg]; exact hv)
      rw [Rs_step s p h]
      have e : ∀ (r : Int) (t : List Int), encs (r :: t) = Lib.encodeRune r ++ encs t := fun r t => by simp [encs]
      rw [e, ih, rune_bytes s p h hg, ← List.drop_drop, List.take_append_drop]
    · rw [Rs_end s p h, List.drop_of_length_le (by rw [data_len]; omega)]; rfl
theorem Rs_text (s : ByteArray) (p : Nat) (hv : vFrom s p = true) : encs (Rs s p) = s.data.toList.drop p := Rs_bytes s s.size p (by omega) hv
theorem byte_nat (x : Int) (_h0 : 0 ≤ x) (h1 : x < 256) : (x.toNat.toUInt8).toNat = x.toNat := by
  simp
  omega
theorem decode_encode (r : Int) (h : chr r = true) (rest : List UInt8) : Lib.decodeL (Lib.encodeRune r ++ rest) = (r.toNat, (Lib.encodeRune r).length) := by
  rw [chr_iff] at h
  rw [Lib.decodeL_N]
  by_cases h1 : r ≤ 127
  · have e : Lib.encodeRune r = [r.toNat.toUInt8] := by rw [Lib.encodeRune, Lib.encodeRuneZ_one h.1 h1]; rfl
    have b0 := byte_nat r (by omega) (by omega)
    rw [e]
    simp only [List.cons_append, List.nil_append, List.getD_cons_zero, List.length_cons, List.length_nil, b0]
    unfold Lib.decodeN
    rw [if_pos (by omega)]
  by_cases h2 : r ≤ 2047
  · have e : Lib.encodeRune r = [(192 + r / 64).toNat.toUInt8, (128 + r % 64).toNat.toUInt8] := by rw [Lib.encodeRune, Lib.encodeRuneZ_two (by omega) h2]; rfl
    have b0 := byte_nat (192 + r / 64) (by omega) (by omega)
    have b1 := byte_nat (128 + r % 64) (by omega) (by omega)
    rw [e]
    simp only [List.cons_append, List.nil_append, List.getD_cons_zero, List.getD_cons_succ, List.length_cons, List.length_nil, b0, b1]
    unfold Lib.decodeN
    rw [if_neg (by omega), if_pos (by omega), if_pos (by omega)]
    apply Prod.ext <;> simp only <;> omega
  by_cases h3 : r ≤ 65535
  · have e : Lib.encodeRune r = [(224 + r / 4096).toNat.toUInt8, (128 + r / 64 % 64).toNat.toUInt8, (128 + r % 64).toNat.toUInt8] := by rw [Lib.encodeRune, Lib.encodeRuneZ_three (by omega)]; rfl
    have b0 := byte_nat (224 + r / 4096) (by omega) (by omega)
    have b1 := byte_nat (128 + r / 64 % 64) (by omega) (by omega)
    have b2 := byte_nat (128 + r % 64) (by omega) (by omega)
    rw [e]
    simp only [List.cons_append, List.nil_append, List.getD_cons_zero, List.getD_cons_succ, List.length_cons, List.length_nil, b0, b1, b2]
    unfold Lib.decodeN
    rw [if_neg (by omega), if_neg (by omega), if_pos (by omega), if_pos (by omega)]
    apply Prod.ext <;> simp only <;> omega
  · have e : Lib.encodeRune r = [(240 + r / 262144).toNat.toUInt8, (128 + r / 4096 % 64).toNat.toUInt8, (128 + r / 64 % 64).toNat.toUInt8, (128 + r % 64).toNat.toUInt8] := by rw [Lib.encodeRune, Lib.encodeRuneZ_four (by omega) (by omega)]; rfl
    have b0 := byte_nat (240 + r / 262144) (by omega) (by omega)
    have b1 := byte_nat (128 + r / 4096 % 64) (by omega) (by omega)
    have b2 := byte_nat (128 + r / 64 % 64) (by omega) (by omega)
    have b3 := byte_nat (128 + r % 64) (by omega) (by omega)
    rw [e]
    simp only [List.cons_append, List.nil_append, List.getD_cons_zero, List.getD_cons_succ, List.length_cons, List.length_nil, b0, b1, b2, b3]
    unfold Lib.decodeN
    rw [if_neg (by omega), if_neg (by omega), if_neg (by omega), if_pos (by omega), if_pos (by omega)]
    apply Prod.ext <;> simp only <;> omega

theorem encode_one (r : Int) (h : chr r = true) (hl : (Lib.encodeRune r).length = 1) : r ≤ 127 := by
  rw [chr_iff] at h
  by_cases h1 : r ≤ 127
  · exact h1
  · exfalso
    by_cases h2 : r ≤ 2047
    · rw [Lib.encodeRune, Lib.encodeRuneZ_two (by omega) h2] at hl; simp at hl
    · by_cases h3 : r ≤ 65535
      · rw [Lib.encodeRune, Lib.encodeRuneZ_three (by omega)] at hl; simp at hl
      · rw [Lib.encodeRune, Lib.encodeRuneZ_four (by omega) (by omega)] at hl; simp at hl

theorem Rs_encs (s : ByteArray) : ∀ (l pre : List Int), (∀ r ∈ l, chr r = true) → s.data.toList = encs pre ++ encs l → Rs s (blen pre) = l ∧ vFrom s (blen pre) = true
  | [], pre, _, hs => by
    have hz : ¬ blen pre < s.size := by rw [← data_len, hs]; simp [blen, encs_nil]
    exact ⟨Rs_end s _ hz, vFrom_end s _ hz⟩
  | r :: t, pre, hc, hs => by
    have hr := hc r (by simp)
    have e : encs (r :: t) = Lib.encodeRune r ++ encs t := by simp [encs]
    have hel := encodeRune_length r
    have hlt : blen pre < s.size := by rw [← data_len, hs, e]; simp [blen]; omega
    have hdrop : s.data.toList.drop (blen pre) = Lib.encodeRune r ++ encs t := by rw [hs, e]; simp [blen]
    have hdec : Utf8.decode s (blen pre) = (r.toNat, (Lib.encodeRune r).length) := by rw [← Lib.decodeL_drop, hdrop]; exact decode_encode r hr _
    have hr0 := ((chr_iff r).1 hr).1
    have hg : ¬ bad s (blen pre) := by
      intro hb
      rw [bad, hdec] at hb
      have := encode_one r hr hb.2
      have := hb.1
      simp only at this
      omega
    have ih := Rs_encs s t (pre ++ [r]) (fun x hx => hc x (by simp [hx])) (by rw [hs, e, encs_snoc, List.append_assoc])
    have hb2 : blen (pre ++ [r]) = blen pre + (Lib.encodeRune r).length := by rw [blen_append, blen_cons, blen_nil]; omega
    rw [hb2] at ih
    refine ⟨?_, ?_⟩
    · rw [Rs_step s _ hlt, hdec]
      simp only
      rw [ih.1, Int.toNat_of_nonneg hr0]
    · rw [← vFrom_good s _ hlt hg, hdec]
      exact ih.2
theorem runes_encs (l : List Int) (h : ∀ r ∈ l, chr r = true) : runes ⟨(encs l).toArray⟩ = l ∧ validB ⟨(encs l).toArray⟩ = true := by
  have := Rs_encs ⟨(encs l).toArray⟩ l [] h (by simp [encs_nil])
  rw [blen_nil, Rs_zero, vFrom_zero] at this
  exact this
end Go.Proofs.YtpdiaddgialanaaGreatDoor
