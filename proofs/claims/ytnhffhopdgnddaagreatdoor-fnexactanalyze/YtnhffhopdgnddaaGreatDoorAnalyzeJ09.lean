import Derived.Test.YtnhffhopdgnddaaGreatDoorAnalyzeJ01
import Derived.Test.YtnhffhopdgnddaaGreatDoorAnalyzeJ08
import Derived.Test.YtnhffhopdgnddaaGreatDoorAnalyzeJ02
import Derived.Test.YtnhffhopdgnddaaGreatDoorAnalyzeJ07
import Derived.Test.YtnhffhopdgnddaaGreatDoorProg
import Derived.Test.YtnhffhopdgnddaaGreatDoorAnalyzeJ00
import Derived.Handy
import Derived.WalkLawsBesides
import Derived.WalkSpells
import Derived.BigQuiet
import Derived.Deep.QuietTactic
import Derived.BigRegion
import Derived.WalkKit
import Derived.Deep.Heap
import Derived.Deep.CutBlock
import Derived.Deep.RegionWith
namespace Go.Proofs.YtnhffhopdgnddaaGreatDoor
open Go

theorem byte_nat (x : Int) (_h0 : 0 ≤ x) (h1 : x < 256) : (x.toNat.toUInt8).toNat = x.toNat := by
  simp
  omega
set_option maxHeartbeats 1000000 in
theorem decode_encode (r : Int) (h : chr r = true) (rest : List UInt8) : Lib.decodeL (Lib.encodeRune r ++ rest) = (r.toNat, (Lib.encodeRune r).length) := by
  rw [chr_iff] at h
  rw [Lib.decodeL_N]
  by_cases h1 : r ≤ 127
  · have e : Lib.encodeRune r = [r.toNat.toUInt8] := by rw [Lib.encodeRune, Lib.encodeRuneZ_one h.1 h1]; rfl
    have b0 := byte_nat r (by omega) (by omega)
    rw [e]
    simp only [List.cons_append, List.nil_append, List.getD_cons_zero, List.length_cons, List.length_nil, b0]
    unfold Lib.decodeN
    rw [if_pos (by omega)]
  by_cases h2 : r ≤ 2047
  · have e : Lib.encodeRune r = [(192 + r / 64).toNat.toUInt8, (128 + r % 64).toNat.toUInt8] := by rw [Lib.encodeRune, Lib.encodeRuneZ_two (by omega) h2]; rfl
    have b0 := byte_nat (192 + r / 64) (by omega) (by omega)
    have b1 := byte_nat (128 + r % 64) (by omega) (by omega)
    rw [e]
    simp only [List.cons_append, List.nil_append, List.getD_cons_zero, List.getD_cons_succ, List.length_cons, List.length_nil, b0, b1]
    unfold Lib.decodeN
    rw [if_neg (by omega), if_pos (by omega), if_pos (by omega)]
    apply Prod.ext <;> simp only <;> omega
  by_cases h3 : r ≤ 65535
  · have e : Lib.encodeRune r = [(224 + r / 4096).toNat.toUInt8, (128 + r / 64 % 64).toNat.toUInt8, (128 + r % 64).toNat.toUInt8] := by rw [Lib.encodeRune, Lib.encodeRuneZ_three (by omega)]; rfl
    have b0 := byte_nat (224 + r / 4096) (by omega) (by omega)
    have b1 := byte_nat (128 + r / 64 % 64) (by omega) (by omega)
    have b2 := byte_nat (128 + r % 64) (by omega) (by omega)
    rw [e]
    simp only [List.cons_append, List.nil_append, List.getD_cons_zero, List.getD_cons_succ, List.length_cons, List.length_nil, b0, b1, b2]
    unfold Lib.decodeN
    rw [if_neg (by omega), if_neg (by omega), if_pos (by omega), if_pos (by omega)]
    apply Prod.ext <;> simp only <;> omega
  · have e : Lib.encodeRune r = [(240 + r / 262144).toNat.toUInt8, (128 + r / 4096 % 64).toNat.toUInt8, (128 + r / 64 % 64).toNat.toUInt8, (128 + r % 64).toNat.toUInt8] := by rw [Lib.encodeRune, Lib.encodeRuneZ_four (by omega) (by omega)]; rfl
    have b0 := byte_nat (240 + r / 262144) (by omega) (by omega)
    have b1 := byte_nat (128 + r / 4096 % 64) (by omega) (by omega)
    have b2 := byte_nat (128 + r / 64 % 64) (by omega) (by omega)
    have b3 := byte_nat (128 + r % 64) (by omega) (by omega)
    rw [e]
    simp only [List.cons_append, List.nil_append, List.getD_cons_zero, List.getD_cons_succ, List.length_cons, List.length_nil, b0, b1, b2, b3]
    unfold Lib.decodeN
    rw [if_neg (by omega), if_neg (by omega), if_neg (by omega), if_pos (by omega), if_pos (by omega)]
    apply Prod.ext <;> simp only <;> omega

theorem encode_one (r : Int) (h : chr r = true) (hl : (Lib.encodeRune r).length = 1) : r ≤ 127 := by
  rw [chr_iff] at h
  by_cases h1 : r ≤ 127
  · exact h1
  · exfalso
    by_cases h2 : r ≤ 2047
    · rw [Lib.encodeRune, Lib.encodeRuneZ_two (by omega) h2] at hl; simp at hl
    · by_cases h3 : r ≤ 65535
      · rw [Lib.encodeRune, Lib.encodeRuneZ_three (by omega)] at hl; simp at hl
      · rw [Lib.encodeRune, Lib.encodeRuneZ_four (by omega) (by omega)] at hl; simp at hl

theorem Rs_encs (s : ByteArray) : ∀ (l pre : List Int), (∀ r ∈ l, chr r = true) → s.data.toList = encs pre ++ encs l → Rs s (blen pre) = l ∧ vFrom s (blen pre) = true
  | [], pre, _, hs => by
    have hz : ¬ blen pre < s.size := by rw [← data_len, hs]; simp [blen, encs_nil]
    exact ⟨Rs_end s _ hz, vFrom_end s _ hz⟩
  | r :: t, pre, hc, hs => by
    have hr := hc r (by simp)
    have e : encs (r :: t) = Lib.encodeRune r ++ encs t := by simp [encs]
    have hel := encodeRune_length r
    have hlt : blen pre < s.size := by rw [← data_len, hs, e]; simp [blen]; omega
    have hdrop : s.data.toList.drop (blen pre) = Lib.encodeRune r ++ encs t := by rw [hs, e]; simp [blen]
    have hdec : Utf8.decode s (blen pre) = (r.toNat, (Lib.encodeRune r).length) := by rw [← Lib.decodeL_drop, hdrop]; exact decode_encode r hr _
    have hr0 := ((chr_iff r).1 hr).1
    have hg : ¬ bad s (blen pre) := by
      intro hb
      rw [bad, hdec] at hb
      have := encode_one r hr hb.2
      have := hb.1
      simp only at this
      omega
    have ih := Rs_encs s t (pre ++ [r]) (fun x hx => hc x (by simp [hx])) (by rw [hs, e, encs_snoc, List.append_assoc])
    have hb2 : blen (pre ++ [r]) = blen pre + (Lib.encodeRune r).length := by rw [blen_append, blen_cons, blen_nil]; omega
    rw [hb2] at ih
    refine ⟨?_, ?_⟩
    · rw [Rs_step s _ hlt, hdec]
      simp only
      rw [ih.1, Int.toNat_of_nonneg hr0]
    · rw [← vFrom_good s _ hlt hg, hdec]
      exact ih.2
theorem runes_encs (l : List Int) (h : ∀ r ∈ l, chr r = true) : runes ⟨(encs l).toArray⟩ = l ∧ validB ⟨(encs l).toArray⟩ = true := by
  have := Rs_encs ⟨(encs l).toArray⟩ l [] h (by simp [encs_nil])
  rw [blen_nil, Rs_zero, vFrom_zero] at this
  exact this
theorem size_list (l : List UInt8) : (⟨l.toArray⟩ : ByteArray).size = l.length := by rw [← data_len]

theorem len_of (r : Int) (h : chr r = true) : (Lib.encodeRune r).length = if r ≤ 127 then 1 else if r ≤ 2047 then 2 else if r ≤ 65535 then 3 else 4 := by
  rw [chr_iff] at h
  unfold Lib.encodeRune
  rw [List.length_map]
  by_cases h1 : r ≤ 127
  · rw [Lib.encodeRuneZ_one h.1 h1, if_pos h1]; rfl
  · by_cases h2 : r ≤ 2047
    · rw [Lib.encodeRuneZ_two (by omega) h2, if_neg h1, if_pos h2]; rfl
    · by_cases h3 : r ≤ 65535
      · rw [Lib.encodeRuneZ_three (by omega), if_neg h1, if_neg h2, if_pos h3]; rfl
      · rw [Lib.encodeRuneZ_four (by omega) (by omega), if_neg h1, if_neg h2, if_neg h3]; rfl
theorem foldZ_small (r : Int) (h : chr r = true) : (r ≤ 127 → foldZ r ≤ 127) ∧ (r ≤ 2047 → foldZ r ≤ 2047) ∧ (2047 < r → foldZ r = r) := by
  rw [chr_iff] at h
  have hs : (r ≤ 127 → smlZ r ≤ 127) ∧ (r ≤ 2047 → smlZ r ≤ 2047) ∧ (2047 < r → smlZ r = r) := by
    unfold smlZ
    repeat' split
    all_goals omega
  have ha := accZ_range (smlZ r)
  have hx : 2047 < smlZ r → accZ (smlZ r) = smlZ r := by
    intro h2
    unfold accZ
    rw [if_neg (by omega), if_neg (by omega), if_neg (by omega), if_neg (by omega), if_neg (by omega), if_neg (by omega), if_neg (by omega), if_neg (by omega)]
  unfold foldZ
  omega
theorem fold_len (r : Int) (h : chr r = true) : (Lib.encodeRune (foldZ r)).length ≤ (Lib.encodeRune r).length := by
  have h1 := foldZ_small r h
  rw [len_of r h, len_of (foldZ r) (foldZ_bd r h).2.2]
  repeat' split
  all_goals omega
theorem folds_len : ∀ (l : List Int), (∀ r ∈ l, chr r = true) → blen (l.map foldZ) ≤ blen l
  | [], _ => Nat.le_refl _
  | r :: t, h => by
    have := fold_len r (h r (by simp))
    have := folds_len t (fun x hx => h x (by simp [hx]))
    rw [List.map_cons, blen_cons, blen_cons]
    omega

theorem text_back (s : ByteArray) (hv : validB s = true) : (⟨(encs (runes s)).toArray⟩ : ByteArray) = s := by
  have h := Rs_text s 0 (by rw [vFrom_zero]; exact hv)
  rw [Rs_zero, List.drop_zero] at h
  rw [h]
theorem fold_once (s : ByteArray) (h : decCode s = 0) :
    decCode ⟨(foldText s).toArray⟩ = 0 ∧ foldText ⟨(foldText s).toArray⟩ = foldText s := by
  have hd := dec_ok s h
  have hch := foldR_chr s hd.1
  have e : foldText s = encs (foldR s) := by rw [foldText, if_pos h]
  have hr := runes_encs (foldR s) hch
  have hsz : (encs (foldR s)).length ≤ 65536 := by
    have h1 := folds_len (runes s) (runes_chr s hd.1)
    have h2 := Rs_blen s 0 (by rw [vFrom_zero]; exact hd.1)
    rw [Rs_zero] at h2
    show blen (foldR s) ≤ _
    unfold foldR
    omega
  rw [e]
  have hc : decCode ⟨(encs (foldR s)).toArray⟩ = 0 := by
    rw [decCode, if_neg (by rw [size_list]; omega), if_pos hr.2]
  refine ⟨hc, ?_⟩
  rw [foldText, if_pos hc]
  unfold foldR at hr ⊢
  rw [hr.1, List.map_map]
  congr 1
  apply List.map_congr_left
  intro x _
  exact foldZ_twice x
theorem ans_back (s : ByteArray) (h : decCode s = 0) : ansCode (runes s) = 0 ∧ (⟨(ansText (runes s)).toArray⟩ : ByteArray) = s := by
  have hd := dec_ok s h
  have hch := runes_chr s hd.1
  have hl := runes_le s
  have hall : (runes s).all chr = true := List.all_eq_true.2 hch
  have h2 := Rs_blen s 0 (by rw [vFrom_zero]; exact hd.1)
  rw [Rs_zero] at h2
  have hlen : ¬ 65536 < (encs (runes s)).length := by have : blen (runes s) = (encs (runes s)).length := rfl; omega
  refine ⟨?_, ?_⟩
  · rw [ansCode, if_neg (by omega), if_pos hall, if_neg hlen]
  · rw [ansText, if_neg (by omega), if_pos hall, if_neg hlen]
    exact text_back s hd.1
end Go.Proofs.YtnhffhopdgnddaaGreatDoor

namespace Go.Proofs.YtnhffhopdgnddaaGreatDoor
open Go
set_option linter.unusedVariables false

/-- The tokens that the terms of a word make: its place, its ends. -/
def withT (k : Tk) (l : List (List UInt8)) : List Tk := l.map fun t => (t, k.2)
theorem withT_snoc (k : Tk) (l : List (List UInt8)) (j : Nat) (h : j < l.length) : withT k (l.take (j + 1)) = withT k (l.take j) ++ [(l.getD j [], k.2)] := by
  rw [withT, List.take_succ_eq_append_getElem h, List.map_append, List.getD_eq_getElem?_getD, List.getElem?_eq_getElem h]
  rfl
theorem withT_len (k : Tk) (l : List (List UInt8)) : (withT k l).length = l.length := by rw [withT, List.length_map]
def azGo (F : List UInt8 → List (List UInt8) × Int) : List Tk → List Tk → List Tk × Int
  | o, [] => (o, 0)
  | o, k :: ks => if (F k.1).2 = 0 then (if (o ++ withT k (F k.1).1).length ≤ 8192 then azGo F (o ++ withT k (F k.1).1) ks else ([], 11)) else ([], (F k.1).2)
def tk0 : Tk := ([], 0, 0, 0)
theorem azGo_drop (F : List UInt8 → List (List UInt8) × Int) (o l : List Tk) (k : Nat) (h : k < l.length) : azGo F o (l.drop k) = if (F (l.getD k tk0).1).2 = 0 then (if (o ++ withT (l.getD k tk0) (F (l.getD k tk0).1).1).length ≤ 8192 then azGo F (o ++ withT (l.getD k tk0) (F (l.getD k tk0).1).1) (l.drop (k + 1)) else ([], 11)) else ([], (F (l.getD k tk0).1).2) := by
  have e : l.getD k tk0 = l[k] := by rw [List.getD_eq_getElem?_getD, List.getElem?_eq_getElem h, Option.getD_some]
  rw [List.drop_eq_getElem_cons h, azGo, e]
/-- What Analyze tells of an analyser and a text. -/
def anOf (fo st ph : Bool) (stops : List (List UInt8)) (syns : List (List UInt8 × List UInt8)) (lo hi : Int) (s : ByteArray) : List Tk × Int :=
  if 65536 < s.size then ([], 2) else if azOK stops syns lo hi = true then (if brkCode s = 0 then azGo (formsOf fo st ph stops syns lo hi) [] (brkList s) else ([], brkCode s)) else ([], 1)

theorem encs_app (a b : List Int) : encs (a ++ b) = encs a ++ encs b := by simp [encs]
theorem toks_text : ∀ (f : Nat) (l : List Int) (a n : Nat), (∀ r ∈ l, chr r = true) → ∀ k ∈ toks f l a n, ∃ l', k.1 = encs l' ∧ (∀ r ∈ l', chr r = true) ∧ (encs l').length ≤ (encs l).length
  | 0, l, a, n, _ => by intro k hk; rw [toks] at hk; simp at hk
  | f + 1, [], a, n, _ => by intro k hk; rw [toks_nil] at hk; simp at hk
  | f + 1, r :: t, a, n, h => by
    intro k hk
    rw [toks] at hk
    split at hk
    · obtain ⟨l', h1, h2, h3⟩ := toks_text f t _ _ (fun x hx => h x (List.mem_cons_of_mem _ hx)) k hk
      refine ⟨l', h1, h2, Nat.le_trans h3 ?_⟩
      have e := encs_app [r] t
      rw [List.singleton_append] at e
      rw [e, List.length_append]; omega
    · generalize wordK (r :: t) = W at hk
      have e := encs_app ((r :: t).take W) ((r :: t).drop W)
      rw [List.take_append_drop] at e
      rcases List.mem_cons.1 hk with rfl | hk
      · exact ⟨_, rfl, fun x hx => h x (List.mem_of_mem_take hx), by rw [e, List.length_append]; omega⟩
      · obtain ⟨l', h1, h2, h3⟩ := toks_text f _ _ _ (fun x hx => h x (List.mem_of_mem_drop hx)) k hk
        exact ⟨l', h1, h2, by rw [e, List.length_append]; omega⟩
theorem brkList_ok (s : ByteArray) : ∀ k ∈ brkList s, validB (bs k.1) = true ∧ (bs k.1).size ≤ 65536 := by
  intro k hk
  rw [brkList] at hk
  split at hk
  · rename_i hc
    obtain ⟨hv, hz⟩ := dec_ok s hc
    split at hk
    · simp at hk
    · obtain ⟨l', h1, h2, h3⟩ := toks_text _ _ _ _ (runes_chr s hv) k hk
      have hb := text_back s hv
      have hl : (encs (runes s)).length = s.size := (bs_size _).symm.trans (congrArg ByteArray.size hb)
      rw [h1]
      exact ⟨(runes_encs l' h2).2, by rw [bs_size]; omega⟩
  · simp at hk
theorem brkList_len (s : ByteArray) : (brkList s).length ≤ 8192 := by
  rw [brkList]
  repeat' split
  all_goals first | (simp; done) | omega
theorem azOK_parts {stops : List (List UInt8)} {syns : List (List UInt8 × List UInt8)} {lo hi : Int} (h : azOK stops syns lo hi = true) : stops.length ≤ 64 ∧ syns.length ≤ 64 ∧ (∀ k, k < syns.length → (syns.getD k ([], [])).2.length ≤ 64) := by
  simp only [azOK, Bool.and_eq_true, decide_eq_true_eq] at h
  obtain ⟨⟨⟨⟨h1, h2⟩, h3⟩, h4⟩, h5⟩ := h
  refine ⟨h1, h2, fun k hk => ?_⟩
  rw [List.getD_eq_getElem?_getD, List.getElem?_eq_getElem hk, Option.getD_some]
  have h6 := (List.all_eq_true.1 h4) _ (List.getElem_mem hk)
  simp only [yOK, tOK, Bool.and_eq_true, decide_eq_true_eq] at h6
  exact h6.1.2.1.2
end Go.Proofs.YtnhffhopdgnddaaGreatDoor

namespace Go.Proofs.YtnhffhopdgnddaaGreatDoor
open Go Go.RowKit
set_option linter.unusedVariables false

theorem tk_at (l : List Tk) (k j : Nat) (hk : k < l.length) (hj : j < 4) : (toksCells l)[k * 4 + j]? = (tokCells l[k])[j]? := by
  induction l generalizing k with
  | nil => simp at hk
  | cons x t ih =>
    have e : toksCells (x :: t) = tokCells x ++ toksCells t := by simp [toksCells]
    have hx : (tokCells x).length = 4 := rfl
    rw [e]
    cases k with
    | zero => rw [List.getElem?_append_left (by omega)]; simp
    | succ k =>
      rw [List.getElem?_append_right (by omega), hx, show (k + 1) * 4 + j - 4 = k * 4 + j by omega, ih k (by simpa using hk)]
      simp
/-- A slice of tokens. -/
def HoldT (w : World) (a : Option Addr) (l : List Tk) : Prop :=
  l = [] ∨ ∃ b off, a = some ⟨b, off, none⟩ ∧ b < w.heap.size ∧ ∀ t, t < l.length → w.cell? ⟨b, off + t * 4, none⟩ = some (.string (bs (l.getD t tk0).1)) ∧ w.cell? ⟨b, off + t * 4 + 1, none⟩ = some (.int .i64 ((l.getD t tk0).2.1 : Int)) ∧ w.cell? ⟨b, off + t * 4 + 2, none⟩ = some (.int .i64 ((l.getD t tk0).2.2.1 : Int)) ∧ w.cell? ⟨b, off + t * 4 + 3, none⟩ = some (.int .i64 ((l.getD t tk0).2.2.2 : Int))
theorem holdT_row {w : World} {base e : Nat} {v : Value} {l : List Tk} (h : w.ownsRow base e 4 v l.length (toksCells l)) : ∃ a cap, v = .slice a l.length cap ∧ HoldT w a l ∧ (∀ b off, a = some ⟨b, off, none⟩ → base ≤ b ∧ b < w.heap.size) := by
  rcases own4_cases h with ⟨rfl, hz⟩ | ⟨g, cap, rfl, hb, hl⟩
  · exact ⟨none, 0, by rw [hz], Or.inl (List.length_eq_zero_iff.1 hz), fun b off e => by cases e⟩
  · refine ⟨some ⟨g, 0, none⟩, cap, rfl, Or.inr ⟨g, 0, rfl, hl, fun t ht => ?_⟩, fun b off e => by cases e; exact ⟨hb, hl⟩⟩
    have e0 : l.getD t tk0 = l[t] := by simp [ht]
    rw [e0]
    simp only [Nat.zero_add]
    refine ⟨?_, ?_, ?_, ?_⟩
    · rw [show t * 4 = t * 4 + 0 by omega, h.cellAt (t * 4 + 0) (by omega), tk_at l t 0 ht (by omega)]; rfl
    · rw [h.cellAt (t * 4 + 1) (by omega), tk_at l t 1 ht (by omega)]; rfl
    · rw [h.cellAt (t * 4 + 2) (by omega), tk_at l t 2 ht (by omega)]; rfl
    · rw [h.cellAt (t * 4 + 3) (by omega), tk_at l t 3 ht (by omega)]; rfl
theorem HoldT.cells {w w' : World} {a : Option Addr} {l : List Tk} (h : HoldT w a l) (hz : w.heap.size ≤ w'.heap.size) (hc : ∀ b off, a = some ⟨b, off, none⟩ → b < w.heap.size → w'.heap[b]? = w.heap[b]?) : HoldT w' a l := by
  rcases h with h | ⟨b, off, h1, h2, h3⟩
  · exact Or.inl h
  · refine Or.inr ⟨b, off, h1, Nat.lt_of_lt_of_le h2 hz, fun t ht => ?_⟩
    have hb := hc b off h1 h2
    have h4 := h3 t ht
    simp only [World.cell?] at h4 ⊢
    rw [hb]
    exact h4
theorem HoldT.below {w w' : World} {a : Option Addr} {l : List Tk} (h : HoldT w a l) (hb : Below w.heap.size w w') : HoldT w' a l := h.cells hb.size fun b off _ hl => hb.block b hl
theorem HoldT.grown {w w' : World} {a : Option Addr} {l : List Tk} {row : Option Nat} (h : HoldT w a l) (hg : w.grownBy w' row) (hne : ∀ b off, a = some ⟨b, off, none⟩ → some b ≠ row) : HoldT w' a l := h.cells hg.size fun b off e hl => hg.block b hl (hne b off e)
theorem own4_ne {w : World} {base e n : Nat} {v : Value} {xs : List Value} {a : Option Addr} (h : w.ownsRow base e 4 v n xs) (hb : ∀ b off, a = some ⟨b, off, none⟩ → w.heap.size ≤ b) : ∀ b off, a = some ⟨b, off, none⟩ → some b ≠ v.ownBlock := by
  intro b off e1 e2
  have h1 := hb b off e1
  rcases own4_cases h with ⟨rfl, _⟩ | ⟨g, cap, rfl, _, hl⟩
  · cases e2
  · have e3 : b = g := Option.some.inj e2
    omega
theorem own4_low {w : World} {base e n b : Nat} {v : Value} {xs : List Value} (h : w.ownsRow base e 4 v n xs) (hb : b < base) : some b ≠ v.ownBlock := fun e => by have := own4_block h b e.symm; omega
end Go.Proofs.YtnhffhopdgnddaaGreatDoor

namespace Go.Proofs.YtnhffhopdgnddaaGreatDoor
open Go Go.RowKit
set_option linter.unusedVariables false
set_option maxRecDepth 100000

theorem blkc {w : World} {b : Nat} {cs : Array Value} {t : TypeId} (h : w.heap[b]? = some (.cells cs t)) (k : Nat) : w.cell? ⟨b, k, none⟩ = cs[k]? := by
  simp [World.cell?, h]
theorem blko {w w' : World} {b : Nat} {o : Obj} (h : w.heap[b]? = some o) (hb : Below w.heap.size w w') : w'.heap[b]? = some o := (hb.block b (Array.getElem?_eq_some_iff.1 h).1).trans h
theorem blkf {w : World} {b : Nat} {cs : Array Value} {t : TypeId} (h : w.heap[b]? = some (.cells cs t)) (k : Nat) : w.frozen? ⟨b, k, none⟩ = false := by
  simp [World.frozen?, h]
theorem box_two (w : World) (o1 o2 : Obj) : ((w.alloc o1).alloc o2).heap[w.heap.size]? = some o1 ∧ ((w.alloc o1).alloc o2).heap[w.heap.size + 1]? = some o2 := by
  refine ⟨?_, ?_⟩
  · rw [Below.heap_alloc _ _ _ (by simp)]; exact heap_alloc_new _ _
  · have := heap_alloc_new (w.alloc o1) o2
    rw [World.size_alloc] at this
    exact this
theorem heap_set_other (w : World) (b k : Nat) (u : Value) (x : Nat) (hx : x ≠ b) : (w.setCell ⟨b, k, none⟩ u).heap[x]? = w.heap[x]? := heap_setCell_other w ⟨b, k, none⟩ x u hx
theorem blk_setk {w : World} {b : Nat} {cs : Array Value} {t : TypeId} (h : w.heap[b]? = some (.cells cs t)) (k : Nat) (u : Value) : (w.setCell ⟨b, k, none⟩ u).heap[b]? = some (.cells (cs.setIfInBounds k u) t) := by
  obtain ⟨hlt, hk⟩ := Array.getElem?_eq_some_iff.1 h
  show (w.heap.modify b _)[b]? = _
  rw [Array.getElem?_eq_getElem (by rw [Array.size_modify]; exact hlt), Array.getElem_modify_self, hk]
  rfl
theorem blk_set2 {w : World} {b : Nat} {u v x y : Value} {t : TypeId} (h : w.heap[b]? = some (.cells #[u, v] t)) : ((w.setCell ⟨b, 0, none⟩ x).setCell ⟨b, 1, none⟩ y).heap[b]? = some (.cells #[x, y] t) := by
  have h2 := blk_setk (blk_setk h 0 x) 1 y
  simpa using h2
theorem own3_lt {w : World} {base e g n cap : Nat} {xs : List Value} (h : w.ownsRow base e 3 (.slice (some ⟨g, 0, none⟩) n cap) n xs) : g < w.heap.size := by
  rcases h.2 with ⟨h', _⟩ | ⟨g', cap', cur, h', _, hg, _⟩
  · simp at h'
  · simp only [Value.slice.injEq, Option.some.injEq, Addr.mk.injEq, and_true, true_and] at h'
    obtain ⟨rfl, rfl⟩ := h'
    exact (Array.getElem?_eq_some_iff.1 hg).1
theorem own3_below {w w' : World} {base e n : Nat} {v : Value} {xs : List Value} (h : w.ownsRow base e 3 v n xs) (hb : Below w.heap.size w w') : w'.ownsRow base e 3 v n xs := by
  refine ⟨h.1, ?_⟩
  rcases h.2 with h' | ⟨g, cap, cur, h1, h2, h3, h4⟩
  · exact Or.inl h'
  · exact Or.inr ⟨g, cap, cur, h1, h2, by rw [hb.block g (Array.getElem?_eq_some_iff.1 h3).1]; exact h3, h4⟩
theorem blk_ne {w : World} {a b : Nat} {c1 c2 : Array Value} {t1 t2 : TypeId} (h1 : w.heap[a]? = some (Obj.cells c1 t1)) (h2 : w.heap[b]? = some (Obj.cells c2 t2)) (hne : t1 ≠ t2) : a ≠ b := by
  rintro rfl
  rw [h1] at h2
  simp only [Option.some.injEq, Obj.cells.injEq] at h2
  exact hne h2.2.1
theorem box_grown {W V w6 : World} {QB : Nat} {o : Obj} {v : Value} (hQ : W.heap[QB]? = some o) (hV : Below W.heap.size W V) (hg : V.grownBy w6 v.ownBlock) (hv : v.ownBlock ≠ some QB) : w6.heap[QB]? = some o := by
  have h1 := (Array.getElem?_eq_some_iff.1 hQ).1
  have h2 := hV.size
  rw [hg.block QB (by omega) (fun e => hv e.symm), hV.block QB h1, hQ]
theorem own_congr {w w' : World} {base e size n : Nat} {v : Value} {xs : List Value} (h : w.ownsRow base e size v n xs) (hb : ∀ b, v.ownBlock = some b → w'.heap[b]? = w.heap[b]?) : w'.ownsRow base e size v n xs := by
  refine ⟨h.1, ?_⟩
  rcases h.2 with h' | ⟨g, cap, cur, rfl, h2, h3, h4⟩
  · exact Or.inl h'
  · exact Or.inr ⟨g, cap, cur, rfl, h2, by rw [hb g rfl]; exact h3, h4⟩
theorem own_blk {w : World} {base e size n : Nat} {v : Value} {xs : List Value} (h : w.ownsRow base e size v n xs) {b : Nat} (hb : v.ownBlock = some b) : base ≤ b ∧ ∃ cur, w.heap[b]? = some (.cells cur e) := by
  rcases h.2 with ⟨h', _⟩ | ⟨g, cap, cur, rfl, h2, h3, _⟩
  · rw [h'] at hb; cases hb
  · cases hb; exact ⟨h2, cur, h3⟩
end Go.Proofs.YtnhffhopdgnddaaGreatDoor
