import Derived.Test.YtgoklapafidpkaaGreatDoorTermsJ01
import Derived.Test.YtgoklapafidpkaaGreatDoorTermsJ02
import Derived.Test.YtgoklapafidpkaaGreatDoorTermsJ00
import Derived.Test.YtgoklapafidpkaaGreatDoorProg
import Derived.WalkLawsBesides
namespace Go.Proofs.YtgoklapafidpkaaGreatDoor
open Go

theorem byte_nat (x : Int) (_h0 : 0 ≤ x) (h1 : x < 256) : (x.toNat.toUInt8).toNat = x.toNat := by
  simp
  omega
set_option maxHeartbeats 1000000 in
theorem decode_encode (r : Int) (h : chr r = true) (rest : List UInt8) : Lib.decodeL (Lib.encodeRune r ++ rest) = (r.toNat, (Lib.encodeRune r).length) := by
  rw [chr_iff] at h
  rw [Lib.decodeL_N]
  by_cases h1 : r ≤ 127
  · have e : Lib.encodeRune r = [r.toNat.toUInt8] := by rw [Lib.encodeRune, Lib.encodeRuneZ_one h.1 h1]; rfl
    have b0 := byte_nat r (by omega) (by omega)
    rw [e]
    simp only [List.cons_append, List.nil_append, List.getD_cons_zero, List.length_cons, List.length_nil, b0]
    unfold Lib.decodeN
    rw [if_pos (by omega)]
  by_cases h2 : r ≤ 2047
  · have e : Lib.encodeRune r = [(192 + r / 64).toNat.toUInt8, (128 + r % 64).toNat.toUInt8] := by rw [Lib.encodeRune, Lib.encodeRuneZ_two (by omega) h2]; rfl
    have b0 := byte_nat (192 + r / 64) (by omega) (by omega)
    have b1 := byte_nat (128 + r % 64) (by omega) (by omega)
    rw [e]
    simp only [List.cons_append, List.nil_append, List.getD_cons_zero, List.getD_cons_succ, List.length_cons, List.length_nil, b0, b1]
    unfold Lib.decodeN
    rw [if_neg (by omega), if_pos (by omega), if_pos (by omega)]
    apply Prod.ext <;> simp only <;> omega
  by_cases h3 : r ≤ 65535
  · have e : Lib.encodeRune r = [(224 + r / 4096).toNat.toUInt8, (128 + r / 64 % 64).toNat.toUInt8, (128 + r % 64).toNat.toUInt8] := by rw [Lib.encodeRune, Lib.encodeRuneZ_three (by omega)]; rfl
    have b0 := byte_nat (224 + r / 4096) (by omega) (by omega)
    have b1 := byte_nat (128 + r / 64 % 64) (by omega) (by omega)
    have b2 := byte_nat (128 + r % 64) (by omega) (by omega)
    rw [e]
    simp only [List.cons_append, List.nil_append, List.getD_cons_zero, List.getD_cons_succ, List.length_cons, List.length_nil, b0, b1, b2]
    unfold Lib.decodeN
    rw [if_neg (by omega), if_neg (by omega), if_pos (by omega), if_pos (by omega)]
    apply Prod.ext <;> simp only <;> omega
  · have e : Lib.encodeRune r = [(240 + r / 262144).toNat.toUInt8, (128 + r / 4096 % 64).toNat.toUInt8, (128 + r / 64 % 64).toNat.toUInt8, (128 + r % 64).toNat.toUInt8] := by rw [Lib.encodeRune, Lib.encodeRuneZ_four (by omega) (by omega)]; rfl
    have b0 := byte_nat (240 + r / 262144) (by omega) (by omega)
    have b1 := byte_nat (128 + r / 4096 % 64) (by omega) (by omega)
    have b2 := byte_nat (128 + r / 64 % 64) (by omega) (by omega)
    have b3 := byte_nat (128 + r % 64) (by omega) (by omega)
    rw [e]
    simp only [List.cons_append, List.nil_append, List.getD_cons_zero, List.getD_cons_succ, List.length_cons, List.length_nil, b0, b1, b2, b3]
    unfold Lib.decodeN
    rw [if_neg (by omega), if_neg (by omega), if_neg (by omega), if_pos (by omega), if_pos (by omega)]
    apply Prod.ext <;> simp only <;> omega
theorem encode_one (r : Int) (h : chr r = true) (hl : (Lib.encodeRune r).length = 1) : r ≤ 127 := by
  rw [chr_iff] at h
  by_cases h1 : r ≤ 127
  · exact h1
  · exfalso
    by_cases h2 : r ≤ 2047
    · rw [Lib.encodeRune, Lib.encodeRuneZ_two (by omega) h2] at hl; simp at hl
    · by_cases h3 : r ≤ 65535
      · rw [Lib.encodeRune, Lib.encodeRuneZ_three (by omega)] at hl; simp at hl
      · rw [Lib.encodeRune, Lib.encodeRuneZ_four (by omega) (by omega)] at hl; simp at hl
theorem Rs_encs (s : ByteArray) : ∀ (l pre : List Int), (∀ r ∈ l, chr r = true) → s.data.toList = encs pre ++ encs l → Rs s (blen pre) = l ∧ vFrom s (blen pre) = true
  | [], pre, _, hs => by
    have hz : ¬ blen pre < s.size := by rw [← data_len, hs]; simp [blen, encs_nil]
    exact ⟨Rs_end s _ hz, vFrom_end s _ hz⟩
  | r :: t, pre, hc, hs => by
    have hr := hc r (by simp)
    have e : encs (r :: t) = Lib.encodeRune r ++ encs t := by simp [encs]
    have hel := encodeRune_length r
    have hlt : blen pre < s.size := by rw [← data_len, hs, e]; simp [blen]; omega
    have hdrop : s.data.toList.drop (blen pre) = Lib.encodeRune r ++ encs t := by rw [hs, e]; simp [blen]
    have hdec : Utf8.decode s (blen pre) = (r.toNat, (Lib.encodeRune r).length) := by rw [← Lib.decodeL_drop, hdrop]; exact decode_encode r hr _
    have hr0 := ((chr_iff r).1 hr).1
    have hg : ¬ bad s (blen pre) := by
      intro hb
      rw [bad, hdec] at hb
      have := encode_one r hr hb.2
      have := hb.1
      simp only at this
      omega
    have ih := Rs_encs s t (pre ++ [r]) (fun x hx => hc x (by simp [hx])) (by rw [hs, e, encs_snoc, List.append_assoc])
    have hb2 : blen (pre ++ [r]) = blen pre + (Lib.encodeRune r).length := by rw [blen_append, blen_cons, blen_nil]; omega
    rw [hb2] at ih
    refine ⟨?_, ?_⟩
    · rw [Rs_step s _ hlt, hdec]
      simp only
      rw [ih.1, Int.toNat_of_nonneg hr0]
    · rw [← vFrom_good s _ hlt hg, hdec]
      exact ih.2
theorem runes_encs (l : List Int) (h : ∀ r ∈ l, chr r = true) : runes ⟨(encs l).toArray⟩ = l ∧ validB ⟨(encs l).toArray⟩ = true := by
  have := Rs_encs ⟨(encs l).toArray⟩ l [] h (by simp [encs_nil])
  rw [blen_nil, Rs_zero, vFrom_zero] at this
  exact this
theorem text_back (s : ByteArray) (hv : validB s = true) : (⟨(encs (runes s)).toArray⟩ : ByteArray) = s := by
  have h := Rs_text s 0 (by rw [vFrom_zero]; exact hv)
  rw [Rs_zero, List.drop_zero] at h
  rw [h]
end Go.Proofs.YtgoklapafidpkaaGreatDoor

namespace Go.Proofs.YtgoklapafidpkaaGreatDoor
open Go
set_option linter.unusedVariables false

/-- The tokens that the terms of a word make: its place, its ends. -/
def withT (k : Tk) (l : List (List UInt8)) : List Tk := l.map fun t => (t, k.2)
theorem withT_snoc (k : Tk) (l : List (List UInt8)) (j : Nat) (h : j < l.length) : withT k (l.take (j + 1)) = withT k (l.take j) ++ [(l.getD j [], k.2)] := by
  rw [withT, List.take_succ_eq_append_getElem h, List.map_append, List.getD_eq_getElem?_getD, List.getElem?_eq_getElem h]
  rfl
theorem withT_len (k : Tk) (l : List (List UInt8)) : (withT k l).length = l.length := by rw [withT, List.length_map]
def azGo (F : List UInt8 → List (List UInt8) × Int) : List Tk → List Tk → List Tk × Int
  | o, [] => (o, 0)
  | o, k :: ks => if (F k.1).2 = 0 then (if (o ++ withT k (F k.1).1).length ≤ 8192 then azGo F (o ++ withT k (F k.1).1) ks else ([], 11)) else ([], (F k.1).2)
def tk0 : Tk := ([], 0, 0, 0)
theorem azGo_drop (F : List UInt8 → List (List UInt8) × Int) (o l : List Tk) (k : Nat) (h : k < l.length) : azGo F o (l.drop k) = if (F (l.getD k tk0).1).2 = 0 then (if (o ++ withT (l.getD k tk0) (F (l.getD k tk0).1).1).length ≤ 8192 then azGo F (o ++ withT (l.getD k tk0) (F (l.getD k tk0).1).1) (l.drop (k + 1)) else ([], 11)) else ([], (F (l.getD k tk0).1).2) := by
  have e : l.getD k tk0 = l[k] := by rw [List.getD_eq_getElem?_getD, List.getElem?_eq_getElem h, Option.getD_some]
  rw [List.drop_eq_getElem_cons h, azGo, e]
/-- What Analyze tells of an analyser and a text. -/
def anOf (fo st ph : Bool) (stops : List (List UInt8)) (syns : List (List UInt8 × List UInt8)) (lo hi : Int) (s : ByteArray) : List Tk × Int :=
  if 65536 < s.size then ([], 2) else if azOK stops syns lo hi = true then (if brkCode s = 0 then azGo (formsOf fo st ph stops syns lo hi) [] (brkList s) else ([], brkCode s)) else ([], 1)
theorem encs_app (a b : List Int) : encs (a ++ b) = encs a ++ encs b := by simp [encs]
theorem toks_text : ∀ (f : Nat) (l : List Int) (a n : Nat), (∀ r ∈ l, chr r = true) → ∀ k ∈ toks f l a n, ∃ l', k.1 = encs l' ∧ (∀ r ∈ l', chr r = true) ∧ (encs l').length ≤ (encs l).length
  | 0, l, a, n, _ => by intro k hk; rw [toks] at hk; simp at hk
  | f + 1, [], a, n, _ => by intro k hk; rw [toks_nil] at hk; simp at hk
  | f + 1, r :: t, a, n, h => by
    intro k hk
    rw [toks] at hk
    split at hk
    · obtain ⟨l', h1, h2, h3⟩ := toks_text f t _ _ (fun x hx => h x (List.mem_cons_of_mem _ hx)) k hk
      refine ⟨l', h1, h2, Nat.le_trans h3 ?_⟩
      have e := encs_app [r] t
      rw [List.singleton_append] at e
      rw [e, List.length_append]; omega
    · generalize wordK (r :: t) = W at hk
      have e := encs_app ((r :: t).take W) ((r :: t).drop W)
      rw [List.take_append_drop] at e
      rcases List.mem_cons.1 hk with rfl | hk
      · exact ⟨_, rfl, fun x hx => h x (List.mem_of_mem_take hx), by rw [e, List.length_append]; omega⟩
      · obtain ⟨l', h1, h2, h3⟩ := toks_text f _ _ _ (fun x hx => h x (List.mem_of_mem_drop hx)) k hk
        exact ⟨l', h1, h2, by rw [e, List.length_append]; omega⟩
theorem brkList_ok (s : ByteArray) : ∀ k ∈ brkList s, validB (bs k.1) = true ∧ (bs k.1).size ≤ 65536 := by
  intro k hk
  rw [brkList] at hk
  split at hk
  · rename_i hc
    obtain ⟨hv, hz⟩ := dec_ok s hc
    split at hk
    · simp at hk
    · obtain ⟨l', h1, h2, h3⟩ := toks_text _ _ _ _ (runes_chr s hv) k hk
      have hb := text_back s hv
      have hl : (encs (runes s)).length = s.size := (bs_size _).symm.trans (congrArg ByteArray.size hb)
      rw [h1]
      exact ⟨(runes_encs l' h2).2, by rw [bs_size]; omega⟩
  · simp at hk
theorem brkList_len (s : ByteArray) : (brkList s).length ≤ 8192 := by
  rw [brkList]
  repeat' split
  all_goals first | (simp; done) | omega
theorem azOK_parts {stops : List (List UInt8)} {syns : List (List UInt8 × List UInt8)} {lo hi : Int} (h : azOK stops syns lo hi = true) : stops.length ≤ 64 ∧ syns.length ≤ 64 ∧ (∀ k, k < syns.length → (syns.getD k ([], [])).2.length ≤ 64) := by
  simp only [azOK, Bool.and_eq_true, decide_eq_true_eq] at h
  obtain ⟨⟨⟨⟨h1, h2⟩, h3⟩, h4⟩, h5⟩ := h
  refine ⟨h1, h2, fun k hk => ?_⟩
  rw [List.getD_eq_getElem?_getD, List.getElem?_eq_getElem hk, Option.getD_some]
  have h6 := (List.all_eq_true.1 h4) _ (List.getElem_mem hk)
  simp only [yOK, tOK, Bool.and_eq_true, decide_eq_true_eq] at h6
  exact h6.1.2.1.2
end Go.Proofs.YtgoklapafidpkaaGreatDoor

namespace Go.Proofs.YtgoklapafidpkaaGreatDoor
open Go Go.RowKit
set_option linter.unusedVariables false

/-! Documents, in plain words: an id, values with a field, texts and numbers. -/
abbrev Vl := List UInt8 × List (List UInt8) × List Int
abbrev Dc := List UInt8 × List Vl
def vl0 : Vl := ([], [], [])
def nuOK (n : Int) : Bool := decide (-1000000000000 ≤ n ∧ n ≤ 1000000000000)
/-- Texts, numbers, values, as they lie in a world. -/
def HoldTx (w : World) (a : Option Addr) (l : List (List UInt8)) : Prop := l = [] ∨ ∃ b off, a = some ⟨b, off, none⟩ ∧ b < w.heap.size ∧ ∀ i, i < l.length → w.cell? ⟨b, off + i, none⟩ = some (.string ⟨(l.getD i []).toArray⟩)
def HoldZ (w : World) (a : Option Addr) (l : List Int) : Prop := l = [] ∨ ∃ b off, a = some ⟨b, off, none⟩ ∧ b < w.heap.size ∧ ∀ i, i < l.length → w.cell? ⟨b, off + i, none⟩ = some (.int .i64 (l.getD i 0))
def HoldV (w : World) (a : Option Addr) (V : List Vl) : Prop := V = [] ∨ ∃ b off, a = some ⟨b, off, none⟩ ∧ b < w.heap.size ∧ ∀ i, i < V.length → w.cell? ⟨b, off + i * 3, none⟩ = some (.string ⟨(V.getD i vl0).1.toArray⟩) ∧
  (∃ at_ ct, w.cell? ⟨b, off + i * 3 + 1, none⟩ = some (.slice at_ (V.getD i vl0).2.1.length ct) ∧ HoldTx w at_ (V.getD i vl0).2.1) ∧ ∃ an cn, w.cell? ⟨b, off + i * 3 + 2, none⟩ = some (.slice an (V.getD i vl0).2.2.length cn) ∧ HoldZ w an (V.getD i vl0).2.2
theorem HoldTx.below {w w' : World} {a : Option Addr} {l : List (List UInt8)} (h : HoldTx w a l) (hb : Below w.heap.size w w') : HoldTx w' a l := by
  rcases h with h | ⟨b, off, ha, hbl, h⟩
  · exact Or.inl h
  · exact Or.inr ⟨b, off, ha, Nat.lt_of_lt_of_le hbl hb.size, fun i hi => (hb.cell (p := ⟨b, off + i, none⟩) hbl).trans (h i hi)⟩
theorem HoldZ.below {w w' : World} {a : Option Addr} {l : List Int} (h : HoldZ w a l) (hb : Below w.heap.size w w') : HoldZ w' a l := by
  rcases h with h | ⟨b, off, ha, hbl, h⟩
  · exact Or.inl h
  · exact Or.inr ⟨b, off, ha, Nat.lt_of_lt_of_le hbl hb.size, fun i hi => (hb.cell (p := ⟨b, off + i, none⟩) hbl).trans (h i hi)⟩
theorem HoldV.below {w w' : World} {a : Option Addr} {V : List Vl} (h : HoldV w a V) (hb : Below w.heap.size w w') : HoldV w' a V := by
  rcases h with h | ⟨b, off, ha, hbl, h⟩
  · exact Or.inl h
  · refine Or.inr ⟨b, off, ha, Nat.lt_of_lt_of_le hbl hb.size, fun i hi => ?_⟩
    obtain ⟨h1, ⟨at_, ct, h2, h3⟩, an, cn, h4, h5⟩ := h i hi
    exact ⟨(hb.cell (p := ⟨b, off + i * 3, none⟩) hbl).trans h1, ⟨at_, ct, (hb.cell (p := ⟨b, off + i * 3 + 1, none⟩) hbl).trans h2, h3.below hb⟩, an, cn, (hb.cell (p := ⟨b, off + i * 3 + 2, none⟩) hbl).trans h4, h5.below hb⟩
theorem all_take {X : Type} (p : X → Bool) (l : List X) (d : X) {k : Nat} (hk : k < l.length) (h : (l.take k).all p = true) (hp : p (l.getD k d) = true) : (l.take (k + 1)).all p = true := by
  rw [List.take_succ_eq_append_getElem hk, List.all_append, h]
  rw [List.getD_eq_getElem?_getD, List.getElem?_eq_getElem hk] at hp
  simpa using hp
theorem all_not {X : Type} (p : X → Bool) (l : List X) (d : X) {k : Nat} (hk : k < l.length) (hp : p (l.getD k d) = false) : l.all p = false := by
  rw [List.all_eq_false]
  rw [List.getD_eq_getElem?_getD, List.getElem?_eq_getElem hk] at hp
  exact ⟨l[k], List.getElem_mem hk, by simpa using hp⟩
theorem getD_in {X : Type} {l : List X} {d : X} {k : Nat} (hk : k < l.length) : l.getD k d ∈ l := by
  rw [List.getD_eq_getElem?_getD, List.getElem?_eq_getElem hk]; exact List.getElem_mem hk
/-! Valid documents. -/
def idC (c : UInt8) : Bool := decide (33 ≤ (c.toNat : Int)) && decide ((c.toNat : Int) ≤ 126)
def idV (id : List UInt8) : Bool := decide (1 ≤ id.length) && decide (id.length ≤ 30) && id.all idC
def txSum (tx : List (List UInt8)) : Nat := (tx.map List.length).sum
def bodyV (V : List Vl) : Nat := (V.map fun v => txSum v.2.1).sum
/-- The place of a name; the length if it is not there. -/
def fldIx (l : List Fd) (n : List UInt8) : Nat := l.findIdx fun f => f.name == n
def anC (f : Fd) (t : List UInt8) : Int := (anOf f.bf f.bsm f.bp f.stops f.syns f.lo f.hi (bs t)).2
def txFit (f : Fd) (t : List UInt8) : Bool := if f.kind = 2 then tOK t else decide (anC f t = 0)
def txsFit (f : Fd) (v : Vl) : Bool := decide (v.2.2.length = 0) && decide (1 ≤ v.2.1.length) && decide (v.2.1.length ≤ 16) && v.2.1.all (txFit f)
def nzFit (v : Vl) : Bool := decide (v.2.1.length = 0) && decide (1 ≤ v.2.2.length) && decide (v.2.2.length ≤ 16) && v.2.2.all nuOK
def takesV (f : Fd) (v : Vl) : Bool := if f.kind = 3 then nzFit v else txsFit f v
def vlFit (l : List Fd) (v : Vl) : Bool := decide (fldIx l v.1 < l.length) && takesV (l.getD (fldIx l v.1) fd0) v
def vlAt (l : List Fd) (V : List Vl) (i : Nat) : Bool := vlFit l (V.getD i vl0) && !(decide (0 < i) && leT (V.getD i vl0).1 (V.getD (i - 1) vl0).1)
def dOK (l : List Fd) (id : List UInt8) (V : List Vl) : Bool := idV id && decide (bodyV V ≤ 4000) && (List.range V.length).all (vlAt l V)
theorem dOK_no {l : List Fd} {id : List UInt8} {V : List Vl} {k : Nat} (hk : k < V.length) (h : vlAt l V k = false) : dOK l id V = false := by
  unfold dOK
  have : (List.range V.length).all (vlAt l V) = false := by
    rw [List.all_eq_false]
    exact ⟨k, List.mem_range.2 hk, by simp [h]⟩
  rw [this]; simp
theorem dOK_id {l : List Fd} {id : List UInt8} {V : List Vl} (h : idV id = false) : dOK l id V = false := by
  unfold dOK; rw [h]; simp
theorem dOK_body {l : List Fd} {id : List UInt8} {V : List Vl} (h : 4000 < bodyV V) : dOK l id V = false := by
  unfold dOK; rw [decide_eq_false (p := bodyV V ≤ 4000) (by omega)]; simp
theorem anC_valid {f : Fd} {t : List UInt8} (h : anC f t = 0) : validB (bs t) = true := by
  unfold anC anOf at h
  split at h
  · simp at h
  · split at h
    · split at h
      · rename_i hb
        unfold brkCode at hb
        split at hb
        · rename_i hd
          unfold decCode at hd
          split at hd
          · simp at hd
          · split at hd
            · assumption
            · simp at hd
        · rename_i hd; exact absurd hb hd
      · rename_i hb; exact absurd h hb
    · simp at h
theorem txFit_valid {f : Fd} {t : List UInt8} (h : txFit f t = true) : validB (bs t) = true := by
  unfold txFit at h
  split at h
  · unfold tOK at h; simp at h; exact h.2
  · exact anC_valid (of_decide_eq_true h)
theorem txSum_mem {tx : List (List UInt8)} {t : List UInt8} (h : t ∈ tx) : t.length ≤ txSum tx := by
  induction tx with
  | nil => simp at h
  | cons x r ih =>
    simp only [txSum, List.map_cons, List.sum_cons] at ih ⊢
    rcases List.mem_cons.1 h with rfl | h
    · omega
    · have := ih h; omega
theorem bodyV_mem {V : List Vl} {v : Vl} (h : v ∈ V) : txSum v.2.1 ≤ bodyV V := by
  induction V with
  | nil => simp at h
  | cons x r ih =>
    simp only [bodyV, List.map_cons, List.sum_cons] at ih ⊢
    rcases List.mem_cons.1 h with rfl | h
    · omega
    · have := ih h; omega
theorem sum_take (ns : List Nat) {k : Nat} (hk : k < ns.length) : (ns.take (k + 1)).sum = (ns.take k).sum + ns.getD k 0 := by
  rw [List.take_add_one, List.sum_append]; simp [hk]
theorem txSum_take (tx : List (List UInt8)) {k : Nat} (hk : k < tx.length) : txSum (tx.take (k + 1)) = txSum (tx.take k) + (tx.getD k []).length := by
  unfold txSum
  rw [List.map_take, List.map_take, sum_take _ (by simpa using hk)]; simp [hk]
theorem bodyV_take (V : List Vl) {k : Nat} (hk : k < V.length) : bodyV (V.take (k + 1)) = bodyV (V.take k) + txSum (V.getD k vl0).2.1 := by
  unfold bodyV
  rw [List.map_take, List.map_take, sum_take _ (by simpa using hk)]; simp [hk]
theorem sum_take_le (ns : List Nat) (k : Nat) : (ns.take k).sum ≤ ns.sum := by
  have : (ns.take k).sum + (ns.drop k).sum = ns.sum := by rw [← List.sum_append, List.take_append_drop]
  omega
theorem txSum_take_le (tx : List (List UInt8)) (k : Nat) : txSum (tx.take k) ≤ txSum tx := by
  unfold txSum; rw [List.map_take]; exact sum_take_le _ _
theorem bodyV_take_le (V : List Vl) (k : Nat) : bodyV (V.take k) ≤ bodyV V := by
  unfold bodyV; rw [List.map_take]; exact sum_take_le _ _
/-! Rising names that all stand in a schema: no more than that has. -/
theorem leT_cons (a b : UInt8) (x y : List UInt8) : leT (a :: x) (b :: y) = (decide (a.toNat < b.toNat) || (decide (a.toNat = b.toNat) && leT x y)) := by
  unfold leT
  rw [Op.bytesLess]
  rcases Nat.lt_trichotomy a.toNat b.toNat with h | h | h
  · have h1 : a < b := h
    simp [h1, h]
  · have h1 : a = b := UInt8.toNat_inj.1 h
    subst h1
    have h2 : ¬ a < a := fun e => Nat.lt_irrefl a.toNat e
    simp [h2]
  · have h1 : ¬ a < b := fun e => by have e2 : a.toNat < b.toNat := e; omega
    have h2 : ¬ a = b := fun e => by rw [e] at h; omega
    have h3 : ¬ a.toNat < b.toNat := by omega
    have h4 : ¬ a.toNat = b.toNat := by omega
    simp [h1, h2, h3, h4]
theorem leT_nil (y : List UInt8) : leT [] y = true := by cases y <;> rfl
theorem leT_refl (y : List UInt8) : leT y y = true := by unfold leT; simp
theorem leT_conn : ∀ (x y z : List UInt8), leT x z = true → leT x y = true ∨ leT y z = true
  | [], y, z, _ => Or.inl (leT_nil y)
  | a :: x, [], z, _ => Or.inr (leT_nil z)
  | a :: x, b :: y, [], h => by simp [leT, Op.bytesLess] at h
  | a :: x, b :: y, c :: z, h => by
    have ih := leT_conn x y z
    rw [leT_cons] at h ⊢
    rw [leT_cons]
    simp only [Bool.or_eq_true, Bool.and_eq_true, decide_eq_true_eq] at h ⊢
    by_cases h1 : a.toNat < b.toNat
    · exact Or.inl (Or.inl h1)
    · by_cases h2 : b.toNat < c.toNat
      · exact Or.inr (Or.inl h2)
      · rcases h with h | ⟨h3, h4⟩
        · omega
        · rcases ih h4 with h5 | h5
          · exact Or.inl (Or.inr ⟨by omega, h5⟩)
          · exact Or.inr (Or.inr ⟨by omega, h5⟩)
theorem leT_gt {x y z : List UInt8} (h1 : leT x y = false) (h2 : leT y z = false) : leT x z = false := by
  cases h : leT x z with
  | false => rfl
  | true => rcases leT_conn x y z h with h3 | h3 <;> simp [h1, h2] at h3
theorem nd_le {α : Type} [DecidableEq α] : ∀ (a b : List α), a.Nodup → (∀ x ∈ a, x ∈ b) → a.length ≤ b.length
  | [], b, _, _ => Nat.zero_le _
  | x :: a, b, hn, hs => by
    have hx : x ∈ b := hs x List.mem_cons_self
    obtain ⟨hxa, hna⟩ := List.nodup_cons.1 hn
    have h1 := nd_le a (b.erase x) hna fun y hy => (List.mem_erase_of_ne (fun e : y = x => hxa (by rw [← e]; exact hy))).2 (hs y (List.mem_cons_of_mem _ hy))
    have h2 := List.length_erase_of_mem hx
    have h3 : 0 < b.length := List.length_pos_of_mem hx
    simp only [List.length_cons]
    omega
theorem rise_lt {N : Nat → List UInt8} {n : Nat} (h : ∀ i, 0 < i → i < n → leT (N i) (N (i - 1)) = false) : ∀ (d i : Nat), i + d + 1 < n → leT (N (i + d + 1)) (N i) = false
  | 0, i, hi => h (i + 1) (by omega) (by omega)
  | d + 1, i, hi => leT_gt (h (i + (d + 1) + 1) (by omega) hi) (rise_lt h d i (by omega))
theorem fldIx_mem {l : List Fd} {n : List UInt8} (h : fldIx l n < l.length) : (l.getD (fldIx l n) fd0).name = n := by
  have := List.findIdx_getElem (w := h)
  rw [List.getD_eq_getElem?_getD, List.getElem?_eq_getElem h, Option.getD_some]
  exact eq_of_beq this
theorem many_no {l : List Fd} {id : List UInt8} {V : List Vl} (h : l.length < V.length) : dOK l id V = false := by
  cases hd : dOK l id V with
  | false => rfl
  | true =>
    exfalso
    unfold dOK at hd
    simp only [Bool.and_eq_true, List.all_eq_true, List.mem_range] at hd
    have hv : ∀ i, i < V.length → vlFit l (V.getD i vl0) = true ∧ (0 < i → leT (V.getD i vl0).1 (V.getD (i - 1) vl0).1 = false) := fun i hi => by
      have := hd.2 i hi
      unfold vlAt at this
      simp only [Bool.and_eq_true, Bool.not_eq_true'] at this
      refine ⟨this.1, fun h0 => ?_⟩
      have h2 := this.2
      simpa [h0] using h2
    have hr := rise_lt (N := fun i => (V.getD i vl0).1) (n := V.length) fun i h0 hi => (hv i hi).2 h0
    have hlen := nd_le (V.map fun v => v.1) (l.map fun f => f.name) (by
      rw [List.Nodup, List.pairwise_iff_getElem]
      intro i j hi hj hij he
      simp only [List.length_map] at hi hj
      have h5 := hr (j - i - 1) i (by omega)
      rw [show i + (j - i - 1) + 1 = j by omega] at h5
      have e1 : (V.getD i vl0).1 = (V.getD j vl0).1 := by simpa [List.getD_eq_getElem?_getD, hi, hj] using he
      rw [e1, leT_refl] at h5
      cases h5) (by
      intro x hx
      obtain ⟨v, hv1, rfl⟩ := List.mem_map.1 hx
      obtain ⟨i, hi, rfl⟩ := List.getElem_of_mem hv1
      have h6 := (hv i hi).1
      have e2 : V.getD i vl0 = V[i] := by simp [hi]
      rw [e2] at h6
      unfold vlFit at h6
      simp only [Bool.and_eq_true, decide_eq_true_eq] at h6
      exact List.mem_map.2 ⟨_, getD_in (d := fd0) h6.1, fldIx_mem h6.1⟩)
    simp only [List.length_map] at hlen
    omega
end Go.Proofs.YtgoklapafidpkaaGreatDoor

namespace Go.Proofs.YtgoklapafidpkaaGreatDoor
open Go Go.RowKit
set_option linter.unusedVariables false

set_option maxHeartbeats 400000 in
theorem within_any (r lo hi : Int) (w : World) : Calls Tryz.prog 70 #[.int .i64 r, .int .i64 lo, .int .i64 hi] w fun e w' => e = .returned (.bool (decide (lo ≤ r) && decide (r ≤ hi))) ∧ w' = w := by
  by_cases h : lo ≤ r
  · have HB : Hid (decide (lo ≤ r) = true) := decide_eq_true h
    go_enter Tryz.func70, Tryz.ntmps70
    go_wp2
    go_ret
    rw [HB.out, Bool.true_and]
    exact ⟨rfl, rfl⟩
  · have HB : Hid (decide (lo ≤ r) = false) := decide_eq_false h
    go_enter Tryz.func70, Tryz.ntmps70
    go_wp2
    go_ret
    rw [HB.out, Bool.false_and]
    exact ⟨rfl, rfl⟩
end Go.Proofs.YtgoklapafidpkaaGreatDoor

namespace Go.Proofs.YtgoklapafidpkaaGreatDoor
open Go Go.RowKit
set_option linter.unusedVariables false

/-- A slice that holds these texts, wherever it lies. -/
def HoldS (w : World) (a : Option Addr) (l : List (List UInt8)) : Prop :=
  l = [] ∨ ∃ b off, a = some ⟨b, off, none⟩ ∧ b < w.heap.size ∧ ∀ t, t < l.length → w.cell? ⟨b, off + t, none⟩ = some (.string (bs (l.getD t [])))
theorem HoldS.below {w w' : World} {a : Option Addr} {l : List (List UInt8)} (h : HoldS w a l) (hb : Below w.heap.size w w') : HoldS w' a l := by
  rcases h with h | ⟨b, off, h1, h2, h3⟩
  · exact Or.inl h
  · exact Or.inr ⟨b, off, h1, Nat.lt_of_lt_of_le h2 hb.size, fun t ht => (hb.cell (p := ⟨b, off + t, none⟩) h2).trans (h3 t ht)⟩
/-- A slice of pairs of texts. -/
def HoldY (w : World) (a : Option Addr) (l : List (List UInt8 × List UInt8)) : Prop :=
  l = [] ∨ ∃ b off, a = some ⟨b, off, none⟩ ∧ b < w.heap.size ∧ ∀ t, t < l.length → w.cell? ⟨b, off + t * 2, none⟩ = some (.string (bs (l.getD t ([], [])).1)) ∧ w.cell? ⟨b, off + t * 2 + 1, none⟩ = some (.string (bs (l.getD t ([], [])).2))
theorem HoldY.below {w w' : World} {a : Option Addr} {l : List (List UInt8 × List UInt8)} (h : HoldY w a l) (hb : Below w.heap.size w w') : HoldY w' a l := by
  rcases h with h | ⟨b, off, h1, h2, h3⟩
  · exact Or.inl h
  · exact Or.inr ⟨b, off, h1, Nat.lt_of_lt_of_le h2 hb.size, fun t ht => ⟨(hb.cell (p := ⟨b, off + t * 2, none⟩) h2).trans (h3 t ht).1, (hb.cell (p := ⟨b, off + t * 2 + 1, none⟩) h2).trans (h3 t ht).2⟩⟩
def szS (l : List (List UInt8)) : Prop := ∀ t, t < l.length → (bs (l.getD t [])).size ≤ 1048576
def szY (l : List (List UInt8 × List UInt8)) : Prop := ∀ t, t < l.length → (bs (l.getD t ([], [])).1).size ≤ 1048576 ∧ (bs (l.getD t ([], [])).2).size ≤ 1048576
end Go.Proofs.YtgoklapafidpkaaGreatDoor
