import Derived.Test.YtebffdfalbjmhaaDoorFgR
import Derived.Test.YtebffdfalbjmhaaDoorStemP
import Derived.Lib.Bytealg
namespace Go.Proofs.YtebffdfalbjmhaaDoor
open Go
set_option linter.unusedVariables false

/-! Fragments, plain. -/
def has91 (l : List Int) : Bool := l.any fun r => r == 91
theorem has91_cons (r : Int) (l : List Int) : has91 (r :: l) = ((r == 91) || has91 l) := rfl
/-- The parts of k characters that hold the mark, as texts. -/
def part91 (l : List Int) : List (List UInt8) := if has91 l = true then [encs l] else []
def frK (k : Nat) : Nat → List Int → List (List UInt8)
  | 0, _ => []
  | f + 1, l => if l = [] then [] else part91 (l.take k) ++ frK k f (l.drop k)
theorem frK_nil (k f : Nat) : frK k f [] = [] := by cases f <;> simp [frK]
theorem frK_fuel {k : Nat} (hk : 1 ≤ k) : ∀ (f g : Nat) (l : List Int), l.length ≤ f → l.length ≤ g → frK k f l = frK k g l
  | 0, g, l, h, _ => by
    have : l = [] := List.length_eq_zero_iff.1 (by omega)
    subst this; rw [frK_nil, frK_nil]
  | f + 1, g, l, h, h' => by
    by_cases hl : l = []
    · subst hl; rw [frK_nil, frK_nil]
    · have hpos : 0 < l.length := List.length_pos_iff.2 hl
      obtain ⟨g, rfl⟩ : ∃ x, g = x + 1 := ⟨g - 1, by omega⟩
      rw [frK, frK, if_neg hl, if_neg hl, frK_fuel hk f g (l.drop k) (by rw [List.length_drop]; omega) (by rw [List.length_drop]; omega)]
def frL (k : Nat) (l : List Int) : List (List UInt8) := frK k l.length l
theorem frL_nil (k : Nat) : frL k [] = [] := rfl
theorem frL_step {k : Nat} (hk : 1 ≤ k) {l : List Int} (h : l ≠ []) : frL k l = part91 (l.take k) ++ frL k (l.drop k) := by
  have hpos : 0 < l.length := List.length_pos_iff.2 h
  unfold frL
  rw [frK_fuel hk l.length (l.length - 1 + 1) l (by omega) (by omega), frK, if_neg h, frK_fuel hk (l.length - 1) (l.drop k).length _ (by rw [List.length_drop]; omega) (by omega)]
theorem frL_last {k : Nat} (hk : 1 ≤ k) {l : List Int} (h : l.length ≤ k) : frL k l = part91 l := by
  by_cases hl : l = []
  · subst hl; rfl
  · rw [frL_step hk hl, List.take_of_length_le h, List.drop_of_length_le h, frL_nil, List.append_nil]
theorem part91_le (l : List Int) : (part91 l).length ≤ 1 := by unfold part91; split <;> simp
theorem frL_len {k : Nat} (hk : 1 ≤ k) : ∀ (n : Nat) (l : List Int), l.length ≤ n → (frL k l).length ≤ l.length
  | 0, l, h => by
    have : l = [] := List.length_eq_zero_iff.1 (by omega)
    subst this; simp [frL_nil]
  | n + 1, l, h => by
    by_cases hl : l = []
    · subst hl; simp [frL_nil]
    · have hpos : 0 < l.length := List.length_pos_iff.2 hl
      have := frL_len hk n (l.drop k) (by rw [List.length_drop]; omega)
      have h2 := part91_le (l.take k)
      rw [frL_step hk hl, List.length_append]
      rw [List.length_drop] at this
      omega
theorem enc_91 (r : Int) (h : chr r = true) : (91 : UInt8) ∈ Lib.encodeRune r ↔ r = 91 := by
  rw [chr_iff] at h
  have big : ∀ x : Int, 128 ≤ x → x ≤ 255 → x.toNat.toUInt8 ≠ 91 := fun x h1 h2 e => by
    have := congrArg UInt8.toNat e
    rw [Nat.toUInt8, UInt8.toNat_ofNat'] at this
    have e91 : (91 : UInt8).toNat = 91 := rfl
    omega
  unfold Lib.encodeRune
  by_cases h1 : r ≤ 127
  · rw [Lib.encodeRuneZ_one h.1 h1]
    simp only [List.map_cons, List.map_nil, List.mem_singleton]
    constructor
    · intro e
      have := congrArg UInt8.toNat e
      rw [Nat.toUInt8, UInt8.toNat_ofNat'] at this
      have e91 : (91 : UInt8).toNat = 91 := rfl
      omega
    · intro e; subst e; rfl
  · constructor
    · intro hm
      exfalso
      obtain ⟨x, hx, e⟩ := List.mem_map.1 hm
      by_cases h2 : r ≤ 2047
      · rw [Lib.encodeRuneZ_two (by omega) h2] at hx
        simp only [List.mem_cons, List.not_mem_nil, or_false] at hx
        exact big x (by omega) (by omega) e
      · by_cases h3 : r ≤ 65535
        · rw [Lib.encodeRuneZ_three (by omega)] at hx
          simp only [List.mem_cons, List.not_mem_nil, or_false] at hx
          exact big x (by omega) (by omega) e
        · rw [Lib.encodeRuneZ_four (by omega) (by omega)] at hx
          simp only [List.mem_cons, List.not_mem_nil, or_false] at hx
          exact big x (by omega) (by omega) e
    · intro e; omega
theorem encs_91 : ∀ (l : List Int), (∀ r ∈ l, chr r = true) → ((91 : UInt8) ∈ encs l ↔ has91 l = true)
  | [], _ => by simp [encs, has91]
  | r :: t, h => by
    have e : encs (r :: t) = Lib.encodeRune r ++ encs t := by simp [encs]
    rw [e, List.mem_append, enc_91 r (h r (List.mem_cons_self ..)), encs_91 t fun x hx => h x (List.mem_cons_of_mem _ hx), has91_cons]
    simp
theorem index_mem (c : UInt8) : ∀ l : List UInt8, decide (0 ≤ Lib.indexByte l c) = true ↔ c ∈ l
  | [] => by simp [Lib.indexByte]
  | b :: l => by
    have ih := index_mem c l
    have hge := Lib.indexByte_ge l c
    unfold Lib.indexByte
    by_cases hb : b = c
    · subst hb; simp
    · have hb' : (b == c) = false := by simpa using hb
      rw [hb']
      simp only [Bool.false_eq_true, if_false]
      by_cases hm : Lib.indexByte l c = -1
      · rw [hm] at ih ⊢
        simp at ih ⊢
        exact ⟨fun e => hb e.symm, ih⟩
      · have h1 : (Lib.indexByte l c == -1) = false := by simpa using hm
        rw [h1]
        have h2 : c ∈ l := ih.1 (by simp; omega)
        simp [h2]; omega
theorem index_91 (l : List Int) (h : ∀ r ∈ l, chr r = true) : decide (0 ≤ Lib.indexByte (encs l) 91) = has91 l := by
  rw [Bool.eq_iff_iff, index_mem, encs_91 l h]
/-- What Fragments tells. -/
def fgOK (k : Int) : Bool := decide (10 ≤ k ∧ k ≤ 1000)
def fgCode (s : ByteArray) (k : Int) : Int := if decCode s = 0 then (if fgOK k = true then 0 else 12) else decCode s
def fgList (s : ByteArray) (k : Int) : List (List UInt8) := if decCode s = 0 then (if fgOK k = true then frL k.toNat (runes s) else []) else []
theorem fgList_le (s : ByteArray) (k : Int) : (fgList s k).length ≤ 65536 := by
  unfold fgList
  split
  · rename_i h
    split
    · rename_i h2
      have h3 : 10 ≤ k ∧ k ≤ 1000 := by simpa [fgOK] using h2
      have := frL_len (k := k.toNat) (by omega) _ (runes s) (Nat.le_refl _)
      have h4 := runes_le s
      have h5 := (dec_okB s h).2
      omega
    · simp
  · simp
end Go.Proofs.YtebffdfalbjmhaaDoor
