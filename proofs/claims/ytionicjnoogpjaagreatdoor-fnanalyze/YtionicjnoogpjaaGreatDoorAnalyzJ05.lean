import Derived.Test.YtionicjnoogpjaaGreatDoorAnalyzJ02
import Derived.Test.YtionicjnoogpjaaGreatDoorAnalyzJ04
namespace Go.Proofs.YtionicjnoogpjaaGreatDoor
open Go

theorem byte_nat (x : Int) (_h0 : 0 ≤ x) (h1 : x < 256) : (x.toNat.toUInt8).toNat = x.toNat := by
  simp
  omega
set_option maxHeartbeats 1000000 in
theorem decode_encode (r : Int) (h : chr r = true) (rest : List UInt8) : Lib.decodeL (Lib.encodeRune r ++ rest) = (r.toNat, (Lib.encodeRune r).length) := by
  rw [chr_iff] at h
  rw [Lib.decodeL_N]
  by_cases h1 : r ≤ 127
  · have e : Lib.encodeRune r = [r.toNat.toUInt8] := by rw [Lib.encodeRune, Lib.encodeRuneZ_one h.1 h1]; rfl
    have b0 := byte_nat r (by omega) (by omega)
    rw [e]
    simp only [List.cons_append, List.nil_append, List.getD_cons_zero, List.length_cons, List.length_nil, b0]
    unfold Lib.decodeN
    rw [if_pos (by omega)]
  by_cases h2 : r ≤ 2047
  · have e : Lib.encodeRune r = [(192 + r / 64).toNat.toUInt8, (128 + r % 64).toNat.toUInt8] := by rw [Lib.encodeRune, Lib.encodeRuneZ_two (by omega) h2]; rfl
    have b0 := byte_nat (192 + r / 64) (by omega) (by omega)
    have b1 := byte_nat (128 + r % 64) (by omega) (by omega)
    rw [e]
    simp only [List.cons_append, List.nil_append, List.getD_cons_zero, List.getD_cons_succ, List.length_cons, List.length_nil, b0, b1]
    unfold Lib.decodeN
    rw [if_neg (by omega), if_pos (by omega), if_pos (by omega)]
    apply Prod.ext <;> simp only <;> omega
  by_cases h3 : r ≤ 65535
  · have e : Lib.encodeRune r = [(224 + r / 4096).toNat.toUInt8, (128 + r / 64 % 64).toNat.toUInt8, (128 + r % 64).toNat.toUInt8] := by rw [Lib.encodeRune, Lib.encodeRuneZ_three (by omega)]; rfl
    have b0 := byte_nat (224 + r / 4096) (by omega) (by omega)
    have b1 := byte_nat (128 + r / 64 % 64) (by omega) (by omega)
    have b2 := byte_nat (128 + r % 64) (by omega) (by omega)
    rw [e]
    simp only [List.cons_append, List.nil_append, List.getD_cons_zero, List.getD_cons_succ, List.length_cons, List.length_nil, b0, b1, b2]
    unfold Lib.decodeN
    rw [if_neg (by omega), if_neg (by omega), if_pos (by omega), if_pos (by omega)]
    apply Prod.ext <;> simp only <;> omega
  · have e : Lib.encodeRune r = [(240 + r / 262144).toNat.toUInt8, (128 + r / 4096 % 64).toNat.toUInt8, (128 + r / 64 % 64).toNat.toUInt8, (128 + r % 64).toNat.toUInt8] := by rw [Lib.encodeRune, Lib.encodeRuneZ_four (by omega) (by omega)]; rfl
    have b0 := byte_nat (240 + r / 262144) (by omega) (by omega)
    have b1 := byte_nat (128 + r / 4096 % 64) (by omega) (by omega)
    have b2 := byte_nat (128 + r / 64 % 64) (by omega) (by omega)
    have b3 := byte_nat (128 + r % 64) (by omega) (by omega)
    rw [e]
    simp only [List.cons_append, List.nil_append, List.getD_cons_zero, List.getD_cons_succ, List.length_cons, List.length_nil, b0, b1, b2, b3]
    unfold Lib.decodeN
    rw [if_neg (by omega), if_neg (by omega), if_neg (by omega), if_pos (by omega), if_pos (by omega)]
    apply Prod.ext <;> simp only <;> omega
theorem encode_one (r : Int) (h : chr r = true) (hl : (Lib.encodeRune r).length = 1) : r ≤ 127 := by
  rw [chr_iff] at h
  by_cases h1 : r ≤ 127
  · exact h1
  · exfalso
    by_cases h2 : r ≤ 2047
    · rw [Lib.encodeRune, Lib.encodeRuneZ_two (by omega) h2] at hl; simp at hl
    · by_cases h3 : r ≤ 65535
      · rw [Lib.encodeRune, Lib.encodeRuneZ_three (by omega)] at hl; simp at hl
      · rw [Lib.encodeRune, Lib.encodeRuneZ_four (by omega) (by omega)] at hl; simp at hl
theorem Rs_encs (s : ByteArray) : ∀ (l pre : List Int), (∀ r ∈ l, chr r = true) → s.data.toList = encs pre ++ encs l → Rs s (blen pre) = l ∧ vFrom s (blen pre) = true
  | [], pre, _, hs => by
    have hz : ¬ blen pre < s.size := by rw [← data_len, hs]; simp [blen, encs_nil]
    exact ⟨Rs_end s _ hz, vFrom_end s _ hz⟩
  | r :: t, pre, hc, hs => by
    have hr := hc r (by simp)
    have e : encs (r :: t) = Lib.encodeRune r ++ encs t := by simp [encs]
    have hel := encodeRune_length r
    have hlt : blen pre < s.size := by rw [← data_len, hs, e]; simp [blen]; omega
    have hdrop : s.data.toList.drop (blen pre) = Lib.encodeRune r ++ encs t := by rw [hs, e]; simp [blen]
    have hdec : Utf8.decode s (blen pre) = (r.toNat, (Lib.encodeRune r).length) := by rw [← Lib.decodeL_drop, hdrop]; exact decode_encode r hr _
    have hr0 := ((chr_iff r).1 hr).1
    have hg : ¬ bad s (blen pre) := by
      intro hb
      rw [bad, hdec] at hb
      have := encode_one r hr hb.2
      have := hb.1
      simp only at this
      omega
    have ih := Rs_encs s t (pre ++ [r]) (fun x hx => hc x (by simp [hx])) (by rw [hs, e, encs_snoc, List.append_assoc])
    have hb2 : blen (pre ++ [r]) = blen pre + (Lib.encodeRune r).length := by rw [blen_append, blen_cons, blen_nil]; omega
    rw [hb2] at ih
    refine ⟨?_, ?_⟩
    · rw [Rs_step s _ hlt, hdec]
      simp only
      rw [ih.1, Int.toNat_of_nonneg hr0]
    · rw [← vFrom_good s _ hlt hg, hdec]
      exact ih.2
theorem runes_encs (l : List Int) (h : ∀ r ∈ l, chr r = true) : runes ⟨(encs l).toArray⟩ = l ∧ validB ⟨(encs l).toArray⟩ = true := by
  have := Rs_encs ⟨(encs l).toArray⟩ l [] h (by simp [encs_nil])
  rw [blen_nil, Rs_zero, vFrom_zero] at this
  exact this
theorem text_back (s : ByteArray) (hv : validB s = true) : (⟨(encs (runes s)).toArray⟩ : ByteArray) = s := by
  have h := Rs_text s 0 (by rw [vFrom_zero]; exact hv)
  rw [Rs_zero, List.drop_zero] at h
  rw [h]
end Go.Proofs.YtionicjnoogpjaaGreatDoor

namespace Go.Proofs.YtionicjnoogpjaaGreatDoor
open Go
set_option linter.unusedVariables false

/-- The tokens that the terms of a word make: its place, its ends. -/
def withT (k : Tk) (l : List (List UInt8)) : List Tk := l.map fun t => (t, k.2)
theorem withT_snoc (k : Tk) (l : List (List UInt8)) (j : Nat) (h : j < l.length) : withT k (l.take (j + 1)) = withT k (l.take j) ++ [(l.getD j [], k.2)] := by
  rw [withT, List.take_succ_eq_append_getElem h, List.map_append, List.getD_eq_getElem?_getD, List.getElem?_eq_getElem h]
  rfl
theorem withT_len (k : Tk) (l : List (List UInt8)) : (withT k l).length = l.length := by rw [withT, List.length_map]
def azGo (F : List UInt8 → List (List UInt8) × Int) : List Tk → List Tk → List Tk × Int
  | o, [] => (o, 0)
  | o, k :: ks => if (F k.1).2 = 0 then (if (o ++ withT k (F k.1).1).length ≤ 8192 then azGo F (o ++ withT k (F k.1).1) ks else ([], 11)) else ([], (F k.1).2)
def tk0 : Tk := ([], 0, 0, 0)
theorem azGo_drop (F : List UInt8 → List (List UInt8) × Int) (o l : List Tk) (k : Nat) (h : k < l.length) : azGo F o (l.drop k) = if (F (l.getD k tk0).1).2 = 0 then (if (o ++ withT (l.getD k tk0) (F (l.getD k tk0).1).1).length ≤ 8192 then azGo F (o ++ withT (l.getD k tk0) (F (l.getD k tk0).1).1) (l.drop (k + 1)) else ([], 11)) else ([], (F (l.getD k tk0).1).2) := by
  have e : l.getD k tk0 = l[k] := by rw [List.getD_eq_getElem?_getD, List.getElem?_eq_getElem h, Option.getD_some]
  rw [List.drop_eq_getElem_cons h, azGo, e]
/-- What Analyze tells of an analyser and a text. -/
def anOf (fo st ph : Bool) (stops : List (List UInt8)) (syns : List (List UInt8 × List UInt8)) (lo hi : Int) (s : ByteArray) : List Tk × Int :=
  if 65536 < s.size then ([], 2) else if azOK stops syns lo hi = true then (if brkCode s = 0 then azGo (formsOf fo st ph stops syns lo hi) [] (brkList s) else ([], brkCode s)) else ([], 1)
theorem encs_app (a b : List Int) : encs (a ++ b) = encs a ++ encs b := by simp [encs]
theorem toks_text : ∀ (f : Nat) (l : List Int) (a n : Nat), (∀ r ∈ l, chr r = true) → ∀ k ∈ toks f l a n, ∃ l', k.1 = encs l' ∧ (∀ r ∈ l', chr r = true) ∧ (encs l').length ≤ (encs l).length
  | 0, l, a, n, _ => by intro k hk; rw [toks] at hk; simp at hk
  | f + 1, [], a, n, _ => by intro k hk; rw [toks_nil] at hk; simp at hk
  | f + 1, r :: t, a, n, h => by
    intro k hk
    rw [toks] at hk
    split at hk
    · obtain ⟨l', h1, h2, h3⟩ := toks_text f t _ _ (fun x hx => h x (List.mem_cons_of_mem _ hx)) k hk
      refine ⟨l', h1, h2, Nat.le_trans h3 ?_⟩
      have e := encs_app [r] t
      rw [List.singleton_append] at e
      rw [e, List.length_append]; omega
    · generalize wordK (r :: t) = W at hk
      have e := encs_app ((r :: t).take W) ((r :: t).drop W)
      rw [List.take_append_drop] at e
      rcases List.mem_cons.1 hk with rfl | hk
      · exact ⟨_, rfl, fun x hx => h x (List.mem_of_mem_take hx), by rw [e, List.length_append]; omega⟩
      · obtain ⟨l', h1, h2, h3⟩ := toks_text f _ _ _ (fun x hx => h x (List.mem_of_mem_drop hx)) k hk
        exact ⟨l', h1, h2, by rw [e, List.length_append]; omega⟩
theorem brkList_ok (s : ByteArray) : ∀ k ∈ brkList s, validB (bs k.1) = true ∧ (bs k.1).size ≤ 65536 := by
  intro k hk
  rw [brkList] at hk
  split at hk
  · rename_i hc
    obtain ⟨hv, hz⟩ := dec_ok s hc
    split at hk
    · simp at hk
    · obtain ⟨l', h1, h2, h3⟩ := toks_text _ _ _ _ (runes_chr s hv) k hk
      have hb := text_back s hv
      have hl : (encs (runes s)).length = s.size := (bs_size _).symm.trans (congrArg ByteArray.size hb)
      rw [h1]
      exact ⟨(runes_encs l' h2).2, by rw [bs_size]; omega⟩
  · simp at hk
theorem brkList_len (s : ByteArray) : (brkList s).length ≤ 8192 := by
  rw [brkList]
  repeat' split
  all_goals first | (simp; done) | omega
theorem azOK_parts {stops : List (List UInt8)} {syns : List (List UInt8 × List UInt8)} {lo hi : Int} (h : azOK stops syns lo hi = true) : stops.length ≤ 64 ∧ syns.length ≤ 64 ∧ (∀ k, k < syns.length → (syns.getD k ([], [])).2.length ≤ 64) := by
  simp only [azOK, Bool.and_eq_true, decide_eq_true_eq] at h
  obtain ⟨⟨⟨⟨h1, h2⟩, h3⟩, h4⟩, h5⟩ := h
  refine ⟨h1, h2, fun k hk => ?_⟩
  rw [List.getD_eq_getElem?_getD, List.getElem?_eq_getElem hk, Option.getD_some]
  have h6 := (List.all_eq_true.1 h4) _ (List.getElem_mem hk)
  simp only [yOK, tOK, Bool.and_eq_true, decide_eq_true_eq] at h6
  exact h6.1.2.1.2
end Go.Proofs.YtionicjnoogpjaaGreatDoor
