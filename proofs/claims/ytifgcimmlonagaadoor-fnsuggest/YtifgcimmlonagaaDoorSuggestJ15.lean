import Derived.Test.YtifgcimmlonagaaDoorSuggestJ14
import Derived.Test.YtifgcimmlonagaaDoorSuggestJ10
import Derived.Test.YtifgcimmlonagaaDoorSuggestJ02
import Derived.Test.YtifgcimmlonagaaDoorSuggestJ09
import Derived.Test.YtifgcimmlonagaaDoorSuggestJ03
import Derived.Test.YtifgcimmlonagaaDoorSuggestJ13
import Derived.Laws.StructEq
namespace Go.Proofs.YtifgcimmlonagaaDoor
open Go
set_option linter.unusedVariables false

def blen (l : List Int) : Nat := (encs l).length
theorem blen_cons (r : Int) (t : List Int) : blen (r :: t) = (Lib.encodeRune r).length + blen t := by simp [blen, encs]
theorem blen_nil : blen [] = 0 := rfl
theorem blen_append (a b : List Int) : blen (a ++ b) = blen a + blen b := by simp [blen, encs]
theorem runesFrom_fuel (s : ByteArray) : ∀ f f' p, s.size ≤ p + f → s.size ≤ p + f' → runesFrom s f p = runesFrom s f' p
  | 0, f', p, h, _ => by rw [runesFrom_end s 0 p (by omega), runesFrom_end s f' p (by omega)]
  | f + 1, f', p, h, h' => by
    by_cases hp : p < s.size
    · have hw := width_le s p hp
      obtain ⟨g, rfl⟩ : ∃ g, f' = g + 1 := ⟨f' - 1, by omega⟩
      rw [runesFrom_step s f p hp, runesFrom_step s g p hp, runesFrom_fuel s f g _ (by omega) (by omega)]
    · rw [runesFrom_end s _ p hp, runesFrom_end s _ p hp]
def Rs (s : ByteArray) (p : Nat) : List Int := runesFrom s s.size p
theorem Rs_zero (s : ByteArray) : Rs s 0 = runes s := rfl
theorem Rs_end (s : ByteArray) (p : Nat) (h : ¬ p < s.size) : Rs s p = [] := runesFrom_end s _ p h
theorem Rs_step (s : ByteArray) (p : Nat) (h : p < s.size) : Rs s p = ((Utf8.decode s p).1 : Int) :: Rs s (p + (Utf8.decode s p).2) := by
  have hw := width_le s p h
  rw [Rs, runesFrom_fuel s s.size ((s.size - 1) + 1) p (by omega) (by omega), runesFrom_step s _ p h, runesFrom_fuel s (s.size - 1) s.size _ (by omega) (by omega)]
  rfl
theorem drop_ne (s : ByteArray) (p : Nat) (h : p < s.size) : s.data.toList.drop p ≠ [] := by
  intro e
  have := congrArg List.length e
  rw [List.length_drop, data_len] at this
  simp at this
  omega
theorem rune_bytes (s : ByteArray) (p : Nat) (h : p < s.size) (hg : ¬ bad s p) : Lib.encodeRune ((Utf8.decode s p).1 : Int) = (s.data.toList.drop p).take (Utf8.decode s p).2 := by
  have := Lib.encode_decode (s.data.toList.drop p) (drop_ne s p h) (by rw [Lib.decodeL_drop]; exact hg)
  rw [Lib.decodeL_drop] at this
  exact this
theorem Rs_bytes (s : ByteArray) : ∀ (m p : Nat), s.size ≤ p + m → vFrom s p = true → encs (Rs s p) = s.data.toList.drop p
  | 0, p, hm, _ => by
    rw [Rs_end s p (by omega), List.drop_of_length_le (by rw [data_len]; omega)]; rfl
  | m + 1, p, hm, hv => by
    by_cases h : p < s.size
    · have hg := good_of s p h hv
      have hw := width_le s p h
      have ih := Rs_bytes s m (p + (Utf8.decode s p).2) (by omega) (by rw [vFrom_good s p h hg]; exact hv)
      rw [Rs_step s p h]
      have e : ∀ (r : Int) (t : List Int), encs (r :: t) = Lib.encodeRune r ++ encs t := fun r t => by simp [encs]
      rw [e, ih, rune_bytes s p h hg, ← List.drop_drop, List.take_append_drop]
    · rw [Rs_end s p h, List.drop_of_length_le (by rw [data_len]; omega)]; rfl
theorem Rs_text (s : ByteArray) (p : Nat) (hv : vFrom s p = true) : encs (Rs s p) = s.data.toList.drop p := Rs_bytes s s.size p (by omega) hv
theorem byte_nat (x : Int) (_h0 : 0 ≤ x) (h1 : x < 256) : (x.toNat.toUInt8).toNat = x.toNat := by
  simp
  omega
theorem decode_encode (r : Int) (h : chr r = true) (rest : List UInt8) : Lib.decodeL (Lib.encodeRune r ++ rest) = (r.toNat, (Lib.encodeRune r).length) := by
  rw [chr_iff] at h
  rw [Lib.decodeL_N]
  by_cases h1 : r ≤ 127
  · have e : Lib.encodeRune r = [r.toNat.toUInt8] := by rw [Lib.encodeRune, Lib.encodeRuneZ_one h.1 h1]; rfl
    have b0 := byte_nat r (by omega) (by omega)
    rw [e]
    simp only [List.cons_append, List.nil_append, List.getD_cons_zero, List.length_cons, List.length_nil, b0]
    unfold Lib.decodeN
    rw [if_pos (by omega)]
  by_cases h2 : r ≤ 2047
  · have e : Lib.encodeRune r = [(192 + r / 64).toNat.toUInt8, (128 + r % 64).toNat.toUInt8] := by rw [Lib.encodeRune, Lib.encodeRuneZ_two (by omega) h2]; rfl
    have b0 := byte_nat (192 + r / 64) (by omega) (by omega)
    have b1 := byte_nat (128 + r % 64) (by omega) (by omega)
    rw [e]
    simp only [List.cons_append, List.nil_append, List.getD_cons_zero, List.getD_cons_succ, List.length_cons, List.length_nil, b0, b1]
    unfold Lib.decodeN
    rw [if_neg (by omega), if_pos (by omega), if_pos (by omega)]
    apply Prod.ext <;> simp only <;> omega
  by_cases h3 : r ≤ 65535
  · have e : Lib.encodeRune r = [(224 + r / 4096).toNat.toUInt8, (128 + r / 64 % 64).toNat.toUInt8, (128 + r % 64).toNat.toUInt8] := by rw [Lib.encodeRune, Lib.encodeRuneZ_three (by omega)]; rfl
    have b0 := byte_nat (224 + r / 4096) (by omega) (by omega)
    have b1 := byte_nat (128 + r / 64 % 64) (by omega) (by omega)
    have b2 := byte_nat (128 + r % 64) (by omega) (by omega)
    rw [e]
    simp only [List.cons_append, List.nil_append, List.getD_cons_zero, List.getD_cons_succ, List.length_cons, List.length_nil, b0, b1, b2]
    unfold Lib.decodeN
    rw [if_neg (by omega), if_neg (by omega), if_pos (by omega), if_pos (by omega)]
    apply Prod.ext <;> simp only <;> omega
  · have e : Lib.encodeRune r = [(240 + r / 262144).toNat.toUInt8, (128 + r / 4096 % 64).toNat.toUInt8, (128 + r / 64 % 64).toNat.toUInt8, (128 + r % 64).toNat.toUInt8] := by rw [Lib.encodeRune, Lib.encodeRuneZ_four (by omega) (by omega)]; rfl
    have b0 := byte_nat (240 + r / 262144) (by omega) (by omega)
    have b1 := byte_nat (128 + r / 4096 % 64) (by omega) (by omega)
    have b2 := byte_nat (128 + r / 64 % 64) (by omega) (by omega)
    have b3 := byte_nat (128 + r % 64) (by omega) (by omega)
    rw [e]
    simp only [List.cons_append, List.nil_append, List.getD_cons_zero, List.getD_cons_succ, List.length_cons, List.length_nil, b0, b1, b2, b3]
    unfold Lib.decodeN
    rw [if_neg (by omega), if_neg (by omega), if_neg (by omega), if_pos (by omega), if_pos (by omega)]
    apply Prod.ext <;> simp only <;> omega
theorem encode_one (r : Int) (h : chr r = true) (hl : (Lib.encodeRune r).length = 1) : r ≤ 127 := by
  rw [chr_iff] at h
  by_cases h1 : r ≤ 127
  · exact h1
  · exfalso
    by_cases h2 : r ≤ 2047
    · rw [Lib.encodeRune, Lib.encodeRuneZ_two (by omega) h2] at hl; simp at hl
    · by_cases h3 : r ≤ 65535
      · rw [Lib.encodeRune, Lib.encodeRuneZ_three (by omega)] at hl; simp at hl
      · rw [Lib.encodeRune, Lib.encodeRuneZ_four (by omega) (by omega)] at hl; simp at hl
theorem Rs_encs (s : ByteArray) : ∀ (l pre : List Int), (∀ r ∈ l, chr r = true) → s.data.toList = encs pre ++ encs l → Rs s (blen pre) = l ∧ vFrom s (blen pre) = true
  | [], pre, _, hs => by
    have hz : ¬ blen pre < s.size := by rw [← data_len, hs]; simp [blen, encs_nil]
    exact ⟨Rs_end s _ hz, vFrom_end s _ hz⟩
  | r :: t, pre, hc, hs => by
    have hr := hc r (by simp)
    have e : encs (r :: t) = Lib.encodeRune r ++ encs t := by simp [encs]
    have hel := encodeRune_length r
    have hlt : blen pre < s.size := by rw [← data_len, hs, e]; simp [blen]; omega
    have hdrop : s.data.toList.drop (blen pre) = Lib.encodeRune r ++ encs t := by rw [hs, e]; simp [blen]
    have hdec : Utf8.decode s (blen pre) = (r.toNat, (Lib.encodeRune r).length) := by rw [← Lib.decodeL_drop, hdrop]; exact decode_encode r hr _
    have hr0 := ((chr_iff r).1 hr).1
    have hg : ¬ bad s (blen pre) := by
      intro hb
      rw [bad, hdec] at hb
      have := encode_one r hr hb.2
      have := hb.1
      simp only at this
      omega
    have ih := Rs_encs s t (pre ++ [r]) (fun x hx => hc x (by simp [hx])) (by rw [hs, e, encs_snoc, List.append_assoc])
    have hb2 : blen (pre ++ [r]) = blen pre + (Lib.encodeRune r).length := by rw [blen_append, blen_cons, blen_nil]; omega
    rw [hb2] at ih
    refine ⟨?_, ?_⟩
    · rw [Rs_step s _ hlt, hdec]
      simp only
      rw [ih.1, Int.toNat_of_nonneg hr0]
    · rw [← vFrom_good s _ hlt hg, hdec]
      exact ih.2
theorem runes_encs (l : List Int) (h : ∀ r ∈ l, chr r = true) : runes ⟨(encs l).toArray⟩ = l ∧ validB ⟨(encs l).toArray⟩ = true := by
  have := Rs_encs ⟨(encs l).toArray⟩ l [] h (by simp [encs_nil])
  rw [blen_nil, Rs_zero, vFrom_zero] at this
  exact this
theorem text_back (s : ByteArray) (hv : validB s = true) : (⟨(encs (runes s)).toArray⟩ : ByteArray) = s := by
  have h := Rs_text s 0 (by rw [vFrom_zero]; exact hv)
  rw [Rs_zero, List.drop_zero] at h
  rw [h]
theorem runeCount_len (s : ByteArray) : Lib.runeCount s = (runes s).length := by
  have key : ∀ f p, Lib.runeCountFrom s f p = (runesFrom s f p).length := by
    intro f
    induction f with
    | zero => intro p; rfl
    | succ f ih =>
      intro p
      by_cases h : p < s.size
      · rw [Lib.runeCountFrom, if_pos h, runesFrom_step s f p h, List.length_cons, ih]; omega
      · rw [Lib.runeCountFrom, if_neg h, runesFrom_end s _ p h]; rfl
  exact key _ _
/-! Words as rows of characters. -/
theorem encs_cons (r : Int) (l : List Int) : encs (r :: l) = Lib.encodeRune r ++ encs l := by simp [encs]
theorem encs_len_zero (l : List Int) : (encs l).length = 0 ↔ l = [] := by
  constructor
  · intro h
    have := encs_ge l
    exact List.length_eq_zero_iff.1 (by omega)
  · intro h; rw [h]; rfl
theorem enc_pref (x y : Int) (hx : chr x = true) (hy : chr y = true) (l : List Int) (h : (Lib.encodeRune x).isPrefixOf (encs (y :: l)) = true) : x = y := by
  obtain ⟨t, ht⟩ := List.isPrefixOf_iff_prefix.1 h
  have h1 := decode_encode x hx t
  have h2 := decode_encode y hy (encs l)
  rw [ht, encs_cons, h2] at h1
  have h3 := congrArg Prod.fst h1
  simp only at h3
  have := (chr_iff x).1 hx
  have := (chr_iff y).1 hy
  omega
theorem enc_pref_same (x : Int) (l : List Int) : (Lib.encodeRune x).isPrefixOf (encs (x :: l)) = true := by
  rw [encs_cons]
  exact List.isPrefixOf_iff_prefix.2 ⟨_, rfl⟩
theorem ltT_pref : ∀ (p q : Tx), ltT (p ++ q) p = false
  | [], q => by cases q <;> rfl
  | a :: p, q => by
    have ih := ltT_pref p q
    simp [ltT, ih]
/-- What the characters of words tell of a text. -/
def edT (a : List Int) (t : Tx) : Nat := edits a (runes (bs t))
theorem edT_encs (a rs : List Int) (h : ∀ r ∈ rs, chr r = true) : edT a (encs rs) = edits a rs := by
  unfold edT bs
  rw [(runes_encs rs h).1]
def WOk (b : List Int) (m : Nat) (W : List (List Int)) : Prop := (∀ rs ∈ W, (∃ c, rs = b ++ c) ∧ rs.length ≤ b.length + m ∧ ∀ r ∈ rs, chr r = true) ∧ RiseT (W.map encs)
theorem WOk.sub {b : List Int} {m : Nat} {W V : List (List Int)} (h : WOk b m W) (hs : V.Sublist W) : WOk b m V :=
  ⟨fun rs hr => h.1 rs (hs.subset hr), List.Pairwise.sublist (hs.map encs) h.2⟩
theorem WOk.tail {b x : List Int} {m : Nat} {W : List (List Int)} (h : WOk b m (x :: W)) : ∀ rs ∈ W, rs ≠ b := by
  intro rs hr e
  subst e
  obtain ⟨⟨c, hc⟩, _, _⟩ := h.1 x (by simp)
  have h2 := h.2
  rw [List.map_cons, RiseT, List.pairwise_cons] at h2
  have h3 := h2.1 (encs rs) (List.mem_map.2 ⟨rs, hr, rfl⟩)
  rw [hc, encs_append, ltT_pref] at h3
  cases h3
theorem WOk.step {b : List Int} {m : Nat} {W : List (List Int)} {x : Int} (h : WOk b (m + 1) W) (hne : ∀ rs ∈ W, rs ≠ b) (hx : ∀ rs ∈ W, rs.getD b.length 0 = x) : WOk (b ++ [x]) m W := by
  refine ⟨fun rs hr => ?_, h.2⟩
  obtain ⟨⟨c, hc⟩, hl, hch⟩ := h.1 rs hr
  have hxr := hx rs hr
  cases c with
  | nil => exact absurd (by rw [hc, List.append_nil]) (hne rs hr)
  | cons y c =>
    have e : rs.getD b.length 0 = y := by rw [hc, List.getD_eq_getElem?_getD, List.getElem?_append_right (Nat.le_refl _)]; simp
    rw [e] at hxr
    subst hxr
    refine ⟨⟨c, by rw [hc]; simp⟩, ?_, hch⟩
    rw [List.length_append, List.length_singleton]
    omega
def foundW (a : List Int) (W : List (List Int)) : List NW := W.flatMap fun rs => if edits a rs < 3 then [(edits a rs, encs rs)] else []
theorem foundW_nil (a : List Int) : foundW a [] = [] := rfl
theorem foundW_append (a : List Int) (V W : List (List Int)) : foundW a (V ++ W) = foundW a V ++ foundW a W := by simp [foundW]
theorem foundW_cons (a x : List Int) (W : List (List Int)) : foundW a (x :: W) = (if edits a x < 3 then [(edits a x, encs x)] else []) ++ foundW a W := by simp [foundW]
theorem foundW_dead (a b : List Int) (m : Nat) (W : List (List Int)) (h : WOk b m W) (hd : dead a b) : foundW a W = [] := by
  unfold foundW
  rw [List.flatMap_eq_nil_iff]
  intro rs hr
  obtain ⟨⟨c, hc⟩, _, _⟩ := h.1 rs hr
  have := dead_far a rs (by rw [hc]; exact dead_more a b hd c)
  rw [if_neg (by omega)]
theorem foundW_near (a : List Int) : ∀ (W : List (List Int)), (∀ rs ∈ W, ∀ r ∈ rs, chr r = true) → foundW a W = near (edT a) (W.map encs)
  | [], _ => rfl
  | x :: W, h => by
    have e1 : near (edT a) ((x :: W).map encs) = near (edT a) [encs x] ++ near (edT a) (W.map encs) := by rw [← near_append]; rfl
    rw [foundW_cons, foundW_near a W (fun rs hr => h rs (by simp [hr])), e1, near_one, edT_encs a x (h x (by simp))]
theorem foundW_len (a : List Int) (W : List (List Int)) : (foundW a W).length ≤ W.length := by
  induction W with
  | nil => simp [foundW]
  | cons x W ih => rw [foundW_cons, List.length_append, List.length_cons]; split <;> simp <;> omega
end Go.Proofs.YtifgcimmlonagaaDoor

namespace Go.Proofs.YtifgcimmlonagaaDoor
open Go Go.RowKit
set_option linter.unusedVariables false
set_option maxRecDepth 100000
set_option linter.unusedSimpArgs false

/-! How many words go on alike. -/
def TwAt (w : World) (s : Option Addr) (W : List (List Int)) : Prop := W = [] ∨ ∃ g off, s = some ⟨g, off, none⟩ ∧ g < w.heap.size ∧ ∀ t, t < W.length → w.cell? ⟨g, off + t, none⟩ = some (.string (bs (encs (W.getD t []))))
theorem TwAt.keep {w w' : World} {s : Option Addr} {W : List (List Int)} (h : TwAt w s W) (hz : w.heap.size ≤ w'.heap.size) (hk : ∀ g off, s = some ⟨g, off, none⟩ → g < w.heap.size → w'.heap[g]? = w.heap[g]?) : TwAt w' s W := by
  rcases h with h | ⟨g, off, h1, h2, h3⟩
  · exact .inl h
  · exact .inr ⟨g, off, h1, Nat.lt_of_lt_of_le h2 hz, fun t ht => (World.cell?_of_block (hk g off h1 h2)).trans (h3 t ht)⟩
theorem TwAt.below {w w' : World} {s : Option Addr} {W : List (List Int)} (h : TwAt w s W) (hb : Below w.heap.size w w') : TwAt w' s W := h.keep hb.size fun g off _ hl => hb.block g hl
theorem slice_text (s : ByteArray) (a b : Nat) (bz : Int) (hb : bz = (b : Int)) (h1 : a ≤ b) (h2 : b ≤ s.size) (w : World) :
    (Instr.slice 9 (.string s) (some (.int .i64 (a : Int))) (some (.int .i64 bz)) none).run Tryd.prog w = .ok (.string (s.extract a b)) w := by
  subst hb
  have h := run_slice_string (P := Tryd.prog) w 9 s .i64 .i64 (a : Int) (b : Int) Tryd.underlying9 (by omega) (by omega) (by omega)
  simpa using h
theorem bs_ext (t : Tx) (a b : Nat) (h1 : a ≤ b) (h2 : b ≤ t.length) : (bs t).extract a b = bs ((t.drop a).take (b - a)) := by
  apply ByteArray.ext
  apply Array.ext'
  rw [Lib.extract_data]
  simp [bs]
theorem rest_ext (b c : List Int) : (bs (encs (b ++ c))).extract (encs b).length (bs (encs (b ++ c))).size = bs (encs c) := by
  have hs : (bs (encs (b ++ c))).size = (encs (b ++ c)).length := bs_size _
  rw [hs, bs_ext _ _ _ (by rw [encs_append, List.length_append]; omega) (Nat.le_refl _), encs_append, List.drop_left, List.take_of_length_le (by simp)]
theorem head_ext (b c : List Int) (x : Int) : (bs (encs (b ++ x :: c))).extract (encs b).length ((encs b).length + (Lib.encodeRune x).length) = bs (Lib.encodeRune x) := by
  rw [bs_ext _ _ _ (by omega) (by rw [encs_append, encs_cons, List.length_append, List.length_append]; omega), encs_append, List.drop_left, encs_cons, Nat.add_sub_cancel_left, List.take_left']
  rfl
theorem slice_from (s : ByteArray) (a : Nat) (h1 : a ≤ s.size) (hs : s.size ≤ 1048576) (w : World) :
    (Instr.slice 9 (.string s) (some (.int .i64 (a : Int))) none none).run Tryd.prog w = .ok (.string (s.extract a s.size)) w := by
  simp [Instr.slice, go_sem]
  intro h
  omega
theorem WOk.form {b : List Int} {m : Nat} {W : List (List Int)} (h : WOk b m W) (hne : ∀ rs ∈ W, rs ≠ b) {k : Nat} (hk : k < W.length) : ∃ y c, W.getD k [] = b ++ y :: c ∧ chr y = true ∧ (W.getD k []).getD b.length 0 = y ∧ (encs (W.getD k [])).length ≤ 4 * (b.length + m) ∧ (∀ r ∈ W.getD k [], chr r = true) := by
  have hmem : W.getD k [] ∈ W := by
    rw [List.getD_eq_getElem?_getD, List.getElem?_eq_getElem hk]
    exact List.getElem_mem hk
  obtain ⟨⟨c, hc⟩, hl, hch⟩ := h.1 _ hmem
  generalize W.getD k [] = rs at *
  cases c with
  | nil => exact absurd (by rw [hc, List.append_nil]) (hne rs hmem)
  | cons y c =>
    refine ⟨y, c, hc, hch y (by rw [hc]; simp), ?_, ?_, hch⟩
    · rw [hc, List.getD_eq_getElem?_getD, List.getElem?_append_right (Nat.le_refl _)]; simp
    · have := encs_le rs; omega
set_option maxHeartbeats 4000000 in
theorem alike_any (b : List Int) (m : Nat) (W : List (List Int)) (x : Int) (s : Option Addr) (cw : Nat) (w : World) (hW : WOk b m W) (hne : ∀ rs ∈ W, rs ≠ b) (h0 : 0 < W.length) (hx : (W.getD 0 []).getD b.length 0 = x) (hT : TwAt w s W) (hwl : W.length ≤ 1048576) (hbm : b.length + m ≤ 100000) :
    Calls Tryd.prog 44 #[.slice s W.length cw, .int .i64 ((encs b).length : Int), .int .i64 ((Lib.encodeRune x).length : Int)] w fun e w' => ∃ n : Nat, e = .returned (.int .i64 (n : Int)) ∧ 1 ≤ n ∧ n ≤ W.length ∧ (∀ j, j < n → (W.getD j []).getD b.length 0 = x) ∧ w' = w := by
  obtain ⟨g, off, rfl, hg, hc⟩ := hT.resolve_left (fun h => by rw [h] at h0; simp at h0)
  obtain ⟨y0, c0, e0, hy0, hy0', hl0, _⟩ := hW.form hne h0
  obtain rfl : y0 = x := hy0'.symm.trans hx
  have x0 := hc 0 h0
  rw [e0] at x0
  have hsz0 : (bs (encs (b ++ y0 :: c0))).size = (encs (W.getD 0 [])).length := by rw [bs_size, e0]
  have hle : (encs b).length + (Lib.encodeRune y0).length ≤ (bs (encs (b ++ y0 :: c0))).size := by
    rw [bs_size, encs_append, encs_cons, List.length_append, List.length_append]; omega
  have hel := encodeRune_length y0
  have hsl := slice_text (bs (encs (b ++ y0 :: c0))) (encs b).length ((encs b).length + (Lib.encodeRune y0).length) (((encs b).length : Int) + ((Lib.encodeRune y0).length : Int)) (by omega) (by omega) hle
  rw [head_ext] at hsl
  have hbd : (encs b).length ≤ 1000000 := by omega
  have HW := hidd hW
  have HNe := hidd hne
  have HC := hidd hc
  have Hx := hidd hx
  have hxx : Hid (chr y0 = true) := hy0
  clear hW hne hc hx hT e0 hy0' hl0 hsz0 hle hy0
  generalize bs (encs (b ++ y0 :: c0)) = S0 at *
  rw [Nat.add_zero] at x0
  go_enter Tryd.func44, Tryd.ntmps44
  go_wp2_with fail
  go_loopw [8] (fun cv wr => ∃ n : Nat, 1 ≤ n ∧ n ≤ W.length ∧ cv = .int .i64 (n : Int) ∧ (∀ j, j < n → (W.getD j []).getD b.length 0 = y0) ∧ wr = w) (fun cv _ => W.length - (intOf cv).toNat)
  case atStart => exact ⟨1, Nat.le_refl _, h0, rfl, fun j hj => (by
    have e : j = 0 := by omega
    subst e
    exact Hx.out), rfl⟩
  case round =>
    obtain ⟨n, h1, hn, rfl, hall, hww⟩ := hrel
    obtain rfl := hww.symm
    have HA := hidd hall
    clear hall hww hsl
    by_cases hlt : n < W.length
    · have hltz : (n : Int) < (W.length : Int) := by omega
      obtain ⟨y, c, e1, hy, hy', hl1, _⟩ := HW.out.form HNe.out hlt
      have x1 := HC.out n hlt
      rw [e1] at x1
      have hbz : (encs b).length ≤ (bs (encs (b ++ y :: c))).size := by rw [bs_size, encs_append, List.length_append]; omega
      have hzz : (bs (encs (b ++ y :: c))).size ≤ 1048576 := by rw [bs_size, ← e1]; omega
      have hsf := slice_from (bs (encs (b ++ y :: c))) (encs b).length hbz hzz
      rw [rest_ext] at hsf
      have HP := hidd (Tryd.strings_HasPrefix (bs (encs (y :: c))) (bs (Lib.encodeRune y0)) w)
      have hpf : Lib.hasPrefix (bs (encs (y :: c))).data.toList (bs (Lib.encodeRune y0)).data.toList = decide (y = y0) := by
        show (Lib.encodeRune y0).isPrefixOf (encs (y :: c)) = _
        by_cases e : y = y0
        · rw [e, enc_pref_same]; simp
        · rw [decide_eq_false e]
          cases hq : (Lib.encodeRune y0).isPrefixOf (encs (y :: c)) with
          | false => rfl
          | true => exact absurd (enc_pref y0 y hxx.out hy c hq).symm e
      rw [hpf] at HP
      have Hy := hidd hy'
      clear hpf e1 hl1 hy' hy
      generalize bs (encs (b ++ y :: c)) = S1 at *
      generalize bs (encs (y :: c)) = S2 at *
      generalize bs (Lib.encodeRune y0) = S3 at *
      go_wp2_with fail
      refine HP.out.mono ?_
      rintro e w3 ⟨rfl, hw3⟩
      obtain rfl := hw3.symm
      clear hw3 HP
      by_cases hyy : y = y0
      · have hd : decide (y = y0) = true := decide_eq_true hyy
        rw [hd]
        have Hyy := hidd hyy
        clear hd hyy
        go_wp2_with fail
        go_roundw
        case rel =>
          refine ⟨n + 1, by omega, by omega, by go_num, fun j hj => ?_, by first | trivial | rfl⟩
          by_cases e : j = n
          · subst e; rw [Hy.out]; exact Hyy.out
          · exact HA.out j (by omega)
        case measure => simp [intOf]; omega
      · have hd : decide (y = y0) = false := decide_eq_false hyy
        rw [hd]
        clear hd hyy
        go_wp2_with fail
        go_ret
        exact ⟨n, rfl, h1, hn, HA.out, rfl⟩
    · have hltz : ¬ (n : Int) < (W.length : Int) := by omega
      go_wp2_with fail
      go_ret
      exact ⟨n, rfl, h1, hn, HA.out, rfl⟩
end Go.Proofs.YtifgcimmlonagaaDoor

namespace Go.Proofs.YtifgcimmlonagaaDoor
open Go Go.RowKit
set_option linter.unusedVariables false
set_option maxRecDepth 100000
set_option linter.unusedSimpArgs false

/-! The walk over words. -/
/-- A slice of words, in a block that is not touched. -/
def Sv (w : World) (base pw : Nat) (v : Value) (W : List (List Int)) : Prop := ∃ s cw, v = .slice s W.length cw ∧ W.length ≤ cw ∧ TwAt w s W ∧ (W ≠ [] → ∀ g off, s = some ⟨g, off, none⟩ → g < base ∧ g ≠ pw)
theorem TwAt.drop {w : World} {g off : Nat} {W : List (List Int)} (h : TwAt w (some ⟨g, off, none⟩) W) (n : Nat) : TwAt w (some ⟨g, off + n, none⟩) (W.drop n) := by
  rcases h with h | ⟨g', off', h1, h2, h3⟩
  · exact .inl (by rw [h]; simp)
  · simp only [Option.some.injEq, Addr.mk.injEq, and_true] at h1
    obtain ⟨rfl, rfl⟩ := h1
    refine .inr ⟨g, off + n, rfl, h2, fun t ht => ?_⟩
    rw [List.length_drop] at ht
    have := h3 (n + t) (by omega)
    rw [Nat.add_assoc, this, List.getD_eq_getElem?_getD, List.getD_eq_getElem?_getD, List.getElem?_drop]
theorem TwAt.take {w : World} {s : Option Addr} {W : List (List Int)} (h : TwAt w s W) (n : Nat) : TwAt w s (W.take n) := by
  rcases h with h | ⟨g', off', h1, h2, h3⟩
  · exact .inl (by rw [h]; simp)
  · refine .inr ⟨g', off', h1, h2, fun t ht => ?_⟩
    rw [List.length_take] at ht
    rw [h3 t (by omega), List.getD_eq_getElem?_getD, List.getD_eq_getElem?_getD, List.getElem?_take, if_pos (by omega)]
section
variable {ops : Array Oper} {rest : List Oper} {o : Oper} {a : Act} {w : World} {Q : Exit → Act → World → Prop}
set_option maxRecDepth 1000000 in
theorem wpSv_from {w0 : World} {base pw : Nat} (hgd : o.guard = none) (x y : Operand) (ho : o.op = .slice 23 x (some y) none none) (v : Value) (W : List (List Int)) (n : Nat) (hx : a.eval x = v) (hy : a.eval y = .int .i64 (n : Int)) (hst : Sv w0 base pw v W) (hs : n ≤ W.length) (hs1 : 1 ≤ n) (hl : W.length ≤ 1048576)
    (h : ∀ v', Sv w0 base pw v' (W.drop n) → wpList Tryd.prog ops Q rest (a.put o.dst v') w) : wpList Tryd.prog ops Q (o :: rest) a w := by
  obtain ⟨s, cap, rfl, hcap, hT, hg⟩ := hst
  obtain ⟨g, off, rfl, hgl, hc⟩ := hT.resolve_left (fun e => by rw [e] at hs; simp at hs; omega)
  have hr := run_slice_l (P := Tryd.prog) w 23 (some ⟨g, off, none⟩) W.length cap Tryd.underlying23 .i64 (n : Int) (by omega) (by omega)
  have hsz : (sizeOf (Tryd.prog.elem 23)).run Tryd.prog w = .ok 1 w := Tryd.sizeOf9 w
  rw [hsz] at hr
  simp only [Result.andThen_ok, Int.toNat_natCast, sliced, Nat.mul_one] at hr
  have hrr := run_sliceAt_slice (P := Tryd.prog) w 23 (.slice (some ⟨g, off, none⟩) W.length cap) (some (.int .i64 (n : Int))) none none Tryd.underlying23
  refine wpList_plain hgd fun K hK => ?_
  unfold Oper.wp execOp
  simp only [ho, Option.map_some, Option.map_none, hx, hy, Sem.run_bind, Sem.run_pure, Result.andThen_ok, hrr, hr]
  refine hK _ _ (h _ ?_)
  have hne : W ≠ [] := fun e => by rw [e] at hs; simp at hs; omega
  by_cases hcs : cap = n
  · have hdr : W.drop n = [] := List.drop_eq_nil_iff.2 (by omega)
    rw [if_pos hcs]
    have : W.length - n = 0 := by omega
    rw [this, hdr]
    exact ⟨_, _, rfl, by simp, .inl rfl, fun e => absurd rfl e⟩
  · rw [if_neg hcs]
    refine ⟨some ⟨g, off + n, none⟩, cap - n, ?_, by rw [List.length_drop]; omega, hT.drop n, fun _ g' off' e => ?_⟩
    · rw [List.length_drop]
      simp [Addr.add]
      try omega
    · cases e
      exact hg hne g off rfl
end
end Go.Proofs.YtifgcimmlonagaaDoor
