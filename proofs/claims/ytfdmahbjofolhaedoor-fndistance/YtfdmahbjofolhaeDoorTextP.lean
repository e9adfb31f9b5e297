import Derived.Test.YtfdmahbjofolhaeDoorWords
import Derived.Test.YtfdmahbjofolhaeDoorFoldTP
import Derived.Test.YtfdmahbjofolhaeDoorEncP
namespace Go.Proofs.YtfdmahbjofolhaeDoor
open Go

theorem byte_nat (x : Int) (_h0 : 0 ≤ x) (h1 : x < 256) : (x.toNat.toUInt8).toNat = x.toNat := by
  simp
  omega
set_option maxHeartbeats 1000000 in
theorem decode_encode (r : Int) (h : chr r = true) (rest : List UInt8) : Lib.decodeL (Lib.encodeRune r ++ rest) = (r.toNat, (Lib.encodeRune r).length) := by
  rw [chr_iff] at h
  rw [Lib.decodeL_N]
  by_cases h1 : r ≤ 127
  · have e : Lib.encodeRune r = [r.toNat.toUInt8] := by rw [Lib.encodeRune, Lib.encodeRuneZ_one h.1 h1]; rfl
    have b0 := byte_nat r (by omega) (by omega)
    rw [e]
    simp only [List.cons_append, List.nil_append, List.getD_cons_zero, List.length_cons, List.length_nil, b0]
    unfold Lib.decodeN
    rw [if_pos (by omega)]
  by_cases h2 : r ≤ 2047
  · have e : Lib.encodeRune r = [(192 + r / 64).toNat.toUInt8, (128 + r % 64).toNat.toUInt8] := by rw [Lib.encodeRune, Lib.encodeRuneZ_two (by omega) h2]; rfl
    have b0 := byte_nat (192 + r / 64) (by omega) (by omega)
    have b1 := byte_nat (128 + r % 64) (by omega) (by omega)
    rw [e]
    simp only [List.cons_append, List.nil_append, List.getD_cons_zero, List.getD_cons_succ, List.length_cons, List.length_nil, b0, b1]
    unfold Lib.decodeN
    rw [if_neg (by omega), if_pos (by omega), if_pos (by omega)]
    apply Prod.ext <;> simp only <;> omega
  by_cases h3 : r ≤ 65535
  · have e : Lib.encodeRune r = [(224 + r / 4096).toNat.toUInt8, (128 + r / 64 % 64).toNat.toUInt8, (128 + r % 64).toNat.toUInt8] := by rw [Lib.encodeRune, Lib.encodeRuneZ_three (by omega)]; rfl
    have b0 := byte_nat (224 + r / 4096) (by omega) (by omega)
    have b1 := byte_nat (128 + r / 64 % 64) (by omega) (by omega)
    have b2 := byte_nat (128 + r % 64) (by omega) (by omega)
    rw [e]
    simp only [List.cons_append, List.nil_append, List.getD_cons_zero, List.getD_cons_succ, List.length_cons, List.length_nil, b0, b1, b2]
    unfold Lib.decodeN
    rw [if_neg (by omega), if_neg (by omega), if_pos (by omega), if_pos (by omega)]
    apply Prod.ext <;> simp only <;> omega
  · have e : Lib.encodeRune r = [(240 + r / 262144).toNat.toUInt8, (128 + r / 4096 % 64).toNat.toUInt8, (128 + r / 64 % 64).toNat.toUInt8, (128 + r % 64).toNat.toUInt8] := by rw [Lib.encodeRune, Lib.encodeRuneZ_four (by omega) (by omega)]; rfl
    have b0 := byte_nat (240 + r / 262144) (by omega) (by omega)
    have b1 := byte_nat (128 + r / 4096 % 64) (by omega) (by omega)
    have b2 := byte_nat (128 + r / 64 % 64) (by omega) (by omega)
    have b3 := byte_nat (128 + r % 64) (by omega) (by omega)
    rw [e]
    simp only [List.cons_append, List.nil_append, List.getD_cons_zero, List.getD_cons_succ, List.length_cons, List.length_nil, b0, b1, b2, b3]
    unfold Lib.decodeN
    rw [if_neg (by omega), if_neg (by omega), if_neg (by omega), if_pos (by omega), if_pos (by omega)]
    apply Prod.ext <;> simp only <;> omega

theorem encode_one (r : Int) (h : chr r = true) (hl : (Lib.encodeRune r).length = 1) : r ≤ 127 := by
  rw [chr_iff] at h
  by_cases h1 : r ≤ 127
  · exact h1
  · exfalso
    by_cases h2 : r ≤ 2047
    · rw [Lib.encodeRune, Lib.encodeRuneZ_two (by omega) h2] at hl; simp at hl
    · by_cases h3 : r ≤ 65535
      · rw [Lib.encodeRune, Lib.encodeRuneZ_three (by omega)] at hl; simp at hl
      · rw [Lib.encodeRune, Lib.encodeRuneZ_four (by omega) (by omega)] at hl; simp at hl

theorem Rs_encs (s : ByteArray) : ∀ (l pre : List Int), (∀ r ∈ l, chr r = true) → s.data.toList = encs pre ++ encs l → Rs s (blen pre) = l ∧ vFrom s (blen pre) = true
  | [], pre, _, hs => by
    have hz : ¬ blen pre < s.size := by rw [← data_len, hs]; simp [blen, encs_nil]
    exact ⟨Rs_end s _ hz, vFrom_end s _ hz⟩
  | r :: t, pre, hc, hs => by
    have hr := hc r (by simp)
    have e : encs (r :: t) = Lib.encodeRune r ++ encs t := by simp [encs]
    have hel := encodeRune_length r
    have hlt : blen pre < s.size := by rw [← data_len, hs, e]; simp [blen]; omega
    have hdrop : s.data.toList.drop (blen pre) = Lib.encodeRune r ++ encs t := by rw [hs, e]; simp [blen]
    have hdec : Utf8.decode s (blen pre) = (r.toNat, (Lib.encodeRune r).length) := by rw [← Lib.decodeL_drop, hdrop]; exact decode_encode r hr _
    have hr0 := ((chr_iff r).1 hr).1
    have hg : ¬ bad s (blen pre) := by
      intro hb
      rw [bad, hdec] at hb
      have := encode_one r hr hb.2
      have := hb.1
      simp only at this
      omega
    have ih := Rs_encs s t (pre ++ [r]) (fun x hx => hc x (by simp [hx])) (by rw [hs, e, encs_snoc, List.append_assoc])
    have hb2 : blen (pre ++ [r]) = blen pre + (Lib.encodeRune r).length := by rw [blen_append, blen_cons, blen_nil]; omega
    rw [hb2] at ih
    refine ⟨?_, ?_⟩
    · rw [Rs_step s _ hlt, hdec]
      simp only
      rw [ih.1, Int.toNat_of_nonneg hr0]
    · rw [← vFrom_good s _ hlt hg, hdec]
      exact ih.2
theorem runes_encs (l : List Int) (h : ∀ r ∈ l, chr r = true) : runes ⟨(encs l).toArray⟩ = l ∧ validB ⟨(encs l).toArray⟩ = true := by
  have := Rs_encs ⟨(encs l).toArray⟩ l [] h (by simp [encs_nil])
  rw [blen_nil, Rs_zero, vFrom_zero] at this
  exact this
theorem size_list (l : List UInt8) : (⟨l.toArray⟩ : ByteArray).size = l.length := by rw [← data_len]

theorem len_of (r : Int) (h : chr r = true) : (Lib.encodeRune r).length = if r ≤ 127 then 1 else if r ≤ 2047 then 2 else if r ≤ 65535 then 3 else 4 := by
  rw [chr_iff] at h
  unfold Lib.encodeRune
  rw [List.length_map]
  by_cases h1 : r ≤ 127
  · rw [Lib.encodeRuneZ_one h.1 h1, if_pos h1]; rfl
  · by_cases h2 : r ≤ 2047
    · rw [Lib.encodeRuneZ_two (by omega) h2, if_neg h1, if_pos h2]; rfl
    · by_cases h3 : r ≤ 65535
      · rw [Lib.encodeRuneZ_three (by omega), if_neg h1, if_neg h2, if_pos h3]; rfl
      · rw [Lib.encodeRuneZ_four (by omega) (by omega), if_neg h1, if_neg h2, if_neg h3]; rfl
theorem foldZ_small (r : Int) (h : chr r = true) : (r ≤ 127 → foldZ r ≤ 127) ∧ (r ≤ 2047 → foldZ r ≤ 2047) ∧ (2047 < r → foldZ r = r) := by
  rw [chr_iff] at h
  have hs : (r ≤ 127 → smlZ r ≤ 127) ∧ (r ≤ 2047 → smlZ r ≤ 2047) ∧ (2047 < r → smlZ r = r) := by
    unfold smlZ
    repeat' split
    all_goals omega
  have ha := accZ_range (smlZ r)
  have hx : 2047 < smlZ r → accZ (smlZ r) = smlZ r := by
    intro h2
    unfold accZ
    rw [if_neg (by omega), if_neg (by omega), if_neg (by omega), if_neg (by omega), if_neg (by omega), if_neg (by omega), if_neg (by omega), if_neg (by omega)]
  unfold foldZ
  omega
theorem fold_len (r : Int) (h : chr r = true) : (Lib.encodeRune (foldZ r)).length ≤ (Lib.encodeRune r).length := by
  have h1 := foldZ_small r h
  rw [len_of r h, len_of (foldZ r) (foldZ_bd r h).2.2]
  repeat' split
  all_goals omega
theorem folds_len : ∀ (l : List Int), (∀ r ∈ l, chr r = true) → blen (l.map foldZ) ≤ blen l
  | [], _ => Nat.le_refl _
  | r :: t, h => by
    have := fold_len r (h r (by simp))
    have := folds_len t (fun x hx => h x (by simp [hx]))
    rw [List.map_cons, blen_cons, blen_cons]
    omega

theorem text_back (s : ByteArray) (hv : validB s = true) : (⟨(encs (runes s)).toArray⟩ : ByteArray) = s := by
  have h := Rs_text s 0 (by rw [vFrom_zero]; exact hv)
  rw [Rs_zero, List.drop_zero] at h
  rw [h]
theorem fold_once (s : ByteArray) (h : decCode s = 0) :
    decCode ⟨(foldText s).toArray⟩ = 0 ∧ foldText ⟨(foldText s).toArray⟩ = foldText s := by
  have hd := dec_ok s h
  have hch := foldR_chr s hd.1
  have e : foldText s = encs (foldR s) := by rw [foldText, if_pos h]
  have hr := runes_encs (foldR s) hch
  have hsz : (encs (foldR s)).length ≤ 65536 := by
    have h1 := folds_len (runes s) (runes_chr s hd.1)
    have h2 := Rs_blen s 0 (by rw [vFrom_zero]; exact hd.1)
    rw [Rs_zero] at h2
    show blen (foldR s) ≤ _
    unfold foldR
    omega
  rw [e]
  have hc : decCode ⟨(encs (foldR s)).toArray⟩ = 0 := by
    rw [decCode, if_neg (by rw [size_list]; omega), if_pos hr.2]
  refine ⟨hc, ?_⟩
  rw [foldText, if_pos hc]
  unfold foldR at hr ⊢
  rw [hr.1, List.map_map]
  congr 1
  apply List.map_congr_left
  intro x _
  exact foldZ_twice x
theorem ans_back (s : ByteArray) (h : decCode s = 0) : ansCode (runes s) = 0 ∧ (⟨(ansText (runes s)).toArray⟩ : ByteArray) = s := by
  have hd := dec_ok s h
  have hch := runes_chr s hd.1
  have hl := runes_le s
  have hall : (runes s).all chr = true := List.all_eq_true.2 hch
  have h2 := Rs_blen s 0 (by rw [vFrom_zero]; exact hd.1)
  rw [Rs_zero] at h2
  have hlen : ¬ 65536 < (encs (runes s)).length := by have : blen (runes s) = (encs (runes s)).length := rfl; omega
  refine ⟨?_, ?_⟩
  · rw [ansCode, if_neg (by omega), if_pos hall, if_neg hlen]
  · rw [ansText, if_neg (by omega), if_pos hall, if_neg hlen]
    exact text_back s hd.1
end Go.Proofs.YtfdmahbjofolhaeDoor
