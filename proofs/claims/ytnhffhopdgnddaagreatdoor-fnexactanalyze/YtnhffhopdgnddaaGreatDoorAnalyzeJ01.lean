import Derived.Test.YtnhffhopdgnddaaGreatDoorAnalyzeJ00
import Derived.Lib.MapLaws
import Derived.Lib.Strings
import Derived.Lib.RuneCount
import Derived.Lib.IndexBytes
import Derived.WalkKit
import Derived.Test.YtnhffhopdgnddaaGreatDoorProg
import Derived.WalkLawsBesides
import Derived.Lib.OthersKept
import Derived.Deep.Draws
namespace Go.Proofs.YtnhffhopdgnddaaGreatDoor
open Go

def innB (r : Int) : Bool := clsZ r == 1 || clsZ r == 2
def headInn : List Int → Bool
  | [] => false
  | r :: _ => innB r
def runK : List Int → Nat
  | [] => 0
  | r :: t => if innB r = true then runK t + 1 else if (clsZ r == 3 && headInn t) = true then runK t + 1 else 0
def wordK : List Int → Nat
  | [] => 0
  | r :: t => if clsZ r = 4 then 1 else if innB r = true then runK (r :: t) else 0
def blen (l : List Int) : Nat := (encs l).length
theorem blen_cons (r : Int) (t : List Int) : blen (r :: t) = (Lib.encodeRune r).length + blen t := by simp [blen, encs]
theorem blen_nil : blen [] = 0 := rfl
theorem blen_append (a b : List Int) : blen (a ++ b) = blen a + blen b := by simp [blen, encs]
theorem runK_inn (r : Int) (t : List Int) (h : innB r = true) : runK (r :: t) = runK t + 1 := by rw [runK, if_pos h]
theorem runK_mark (r : Int) (t : List Int) (h : innB r = false) (h2 : (clsZ r == 3) = true) (h3 : headInn t = true) : runK (r :: t) = runK t + 1 := by rw [runK, if_neg (by rw [h]; simp), if_pos (by rw [h2, h3]; rfl)]
theorem runK_stop (r : Int) (t : List Int) (h : innB r = false) (h2 : (clsZ r == 3) = false ∨ headInn t = false) : runK (r :: t) = 0 := by
  rw [runK, if_neg (by rw [h]; simp), if_neg (by rcases h2 with h2 | h2 <;> rw [h2] <;> simp)]
theorem runK_le : ∀ l, runK l ≤ l.length
  | [] => by simp [runK]
  | r :: t => by
    have := runK_le t
    rw [runK, List.length_cons]
    repeat' split
    all_goals omega
theorem runK_pos (l : List Int) (h : headInn l = true) : 1 ≤ runK l := by
  cases l with
  | nil => cases h
  | cons r t => rw [runK_inn r t h]; omega
theorem inn_cls (r : Int) : (innB r = true ↔ (clsZ r = 1 ∨ clsZ r = 2)) := by simp [innB]
theorem inn_not (r : Int) : (innB r = false ↔ (clsZ r ≠ 1 ∧ clsZ r ≠ 2)) := by simp [innB]
theorem wordK_le (l : List Int) : wordK l ≤ l.length := by
  cases l with
  | nil => simp [wordK]
  | cons r t =>
    have := runK_le (r :: t)
    rw [wordK]
    repeat' split
    all_goals simp_all
theorem wordK_wide (r : Int) (t : List Int) (h : clsZ r = 4) : wordK (r :: t) = 1 := by rw [wordK, if_pos h]
theorem wordK_inn (r : Int) (t : List Int) (h : innB r = true) : wordK (r :: t) = runK (r :: t) := by
  have h' := (inn_cls r).1 h
  rw [wordK, if_neg (by omega), if_pos h]
theorem wordK_none (r : Int) (t : List Int) (h : innB r = false) (h4 : clsZ r ≠ 4) : wordK (r :: t) = 0 := by rw [wordK, if_neg h4, if_neg (by rw [h]; simp)]

abbrev Tk := List UInt8 × Nat × Nat × Nat
def toks : Nat → List Int → Nat → Nat → List Tk
  | 0, _, _, _ => []
  | _ + 1, [], _, _ => []
  | f + 1, r :: t, a, n =>
    if wordK (r :: t) = 0 then toks f t (a + blen [r]) n
    else (encs ((r :: t).take (wordK (r :: t))), n, a, a + blen ((r :: t).take (wordK (r :: t)))) :: toks f ((r :: t).drop (wordK (r :: t))) (a + blen ((r :: t).take (wordK (r :: t)))) (n + 1)
theorem toks_nil (f a n : Nat) : toks f [] a n = [] := by cases f <;> rfl
theorem toks_skip (f : Nat) (r : Int) (t : List Int) (a n : Nat) (h : wordK (r :: t) = 0) : toks (f + 1) (r :: t) a n = toks f t (a + blen [r]) n := by rw [toks, if_pos h]
theorem toks_word (f : Nat) (r : Int) (t : List Int) (a n : Nat) (h : ¬ wordK (r :: t) = 0) :
    toks (f + 1) (r :: t) a n = (encs ((r :: t).take (wordK (r :: t))), n, a, a + blen ((r :: t).take (wordK (r :: t)))) :: toks f ((r :: t).drop (wordK (r :: t))) (a + blen ((r :: t).take (wordK (r :: t)))) (n + 1) := by rw [toks, if_neg h]
theorem toks_len : ∀ (f : Nat) (l : List Int) (a n : Nat), (toks f l a n).length ≤ f
  | 0, _, _, _ => by simp [toks]
  | f + 1, [], _, _ => by simp [toks]
  | f + 1, r :: t, a, n => by
    by_cases h : wordK (r :: t) = 0
    · rw [toks_skip f r t a n h]; have := toks_len f t (a + blen [r]) n; omega
    · rw [toks_word f r t a n h, List.length_cons]; have := toks_len f ((r :: t).drop (wordK (r :: t))) (a + blen ((r :: t).take (wordK (r :: t)))) (n + 1); omega
def tokCells (t : Tk) : List Value := [.string ⟨t.1.toArray⟩, .int .i64 t.2.1, .int .i64 t.2.2.1, .int .i64 t.2.2.2]
def toksCells (l : List Tk) : List Value := l.flatMap tokCells
theorem toksCells_snoc (l : List Tk) (t : Tk) : toksCells (l ++ [t]) = toksCells l ++ tokCells t := by simp [toksCells]
theorem toksCells_len (l : List Tk) : (toksCells l).length = l.length * 4 := by
  induction l with
  | nil => rfl
  | cons x t ih => simp only [toksCells, List.flatMap_cons, List.length_append, List.length_cons, tokCells] at *; simp at *; omega

def allToks (s : ByteArray) : List Tk := toks (runes s).length (runes s) 0 0
def brkCode (s : ByteArray) : Int := if decCode s = 0 then (if 8192 < (allToks s).length then 11 else 0) else decCode s
def brkList (s : ByteArray) : List Tk := if decCode s = 0 then (if 8192 < (allToks s).length then [] else allToks s) else []

/-! the text from a place on -/
theorem runesFrom_fuel (s : ByteArray) : ∀ f f' p, s.size ≤ p + f → s.size ≤ p + f' → runesFrom s f p = runesFrom s f' p
  | 0, f', p, h, _ => by rw [runesFrom_end s 0 p (by omega), runesFrom_end s f' p (by omega)]
  | f + 1, f', p, h, h' => by
    by_cases hp : p < s.size
    · have hw := width_le s p hp
      obtain ⟨g, rfl⟩ : ∃ g, f' = g + 1 := ⟨f' - 1, by omega⟩
      rw [runesFrom_step s f p hp, runesFrom_step s g p hp, runesFrom_fuel s f g _ (by omega) (by omega)]
    · rw [runesFrom_end s _ p hp, runesFrom_end s _ p hp]
def Rs (s : ByteArray) (p : Nat) : List Int := runesFrom s s.size p
theorem Rs_zero (s : ByteArray) : Rs s 0 = runes s := rfl
theorem Rs_end (s : ByteArray) (p : Nat) (h : ¬ p < s.size) : Rs s p = [] := runesFrom_end s _ p h
theorem Rs_step (s : ByteArray) (p : Nat) (h : p < s.size) : Rs s p = ((Utf8.decode s p).1 : Int) :: Rs s (p + (Utf8.decode s p).2) := by
  have hw := width_le s p h
  rw [Rs, runesFrom_fuel s s.size ((s.size - 1) + 1) p (by omega) (by omega), runesFrom_step s _ p h, runesFrom_fuel s (s.size - 1) s.size _ (by omega) (by omega)]
  rfl
theorem drop_ne (s : ByteArray) (p : Nat) (h : p < s.size) : s.data.toList.drop p ≠ [] := by
  intro e
  have := congrArg List.length e
  rw [List.length_drop, data_len] at this
  simp at this
  omega
theorem rune_bytes (s : ByteArray) (p : Nat) (h : p < s.size) (hg : ¬ bad s p) : Lib.encodeRune ((Utf8.decode s p).1 : Int) = (s.data.toList.drop p).take (Utf8.decode s p).2 := by
  have := Lib.encode_decode (s.data.toList.drop p) (drop_ne s p h) (by rw [Lib.decodeL_drop]; exact hg)
  rw [Lib.decodeL_drop] at this
  exact this
theorem rune_width (s : ByteArray) (p : Nat) (h : p < s.size) (hg : ¬ bad s p) : (Lib.encodeRune ((Utf8.decode s p).1 : Int)).length = (Utf8.decode s p).2 := by
  have hw := width_le s p h
  rw [rune_bytes s p h hg, List.length_take, List.length_drop, data_len]
  omega
theorem Rs_bytes (s : ByteArray) : ∀ (m p : Nat), s.size ≤ p + m → vFrom s p = true → encs (Rs s p) = s.data.toList.drop p
  | 0, p, hm, _ => by
    rw [Rs_end s p (by omega), List.drop_of_length_le (by rw [data_len]; omega)]; rfl
  | m + 1, p, hm, hv => by
    by_cases h : p < s.size
    · have hg := good_of s p h hv
      have hw := width_le s p h
      have ih := Rs_bytes s m (p + (Utf8.decode s p).2) (by omega) (by rw [vFrom_good s p h hg]; exact hv)
      rw [Rs_step s p h]
      have e : ∀ (r : Int) (t : List Int), encs (r :: t) = Lib.encodeRune r ++ encs t := fun r t => by simp [encs]
      rw [e, ih, rune_bytes s p h hg, ← List.drop_drop, List.take_append_drop]
    · rw [Rs_end s p h, List.drop_of_length_le (by rw [data_len]; omega)]; rfl
theorem Rs_text (s : ByteArray) (p : Nat) (hv : vFrom s p = true) : encs (Rs s p) = s.data.toList.drop p := Rs_bytes s s.size p (by omega) hv
theorem Rs_blen (s : ByteArray) (p : Nat) (hv : vFrom s p = true) : blen (Rs s p) = s.size - p := by
  rw [blen, Rs_text s p hv, List.length_drop, data_len]
theorem Rs_drop (s : ByteArray) : ∀ (k p : Nat), vFrom s p = true → Rs s (p + blen ((Rs s p).take k)) = (Rs s p).drop k ∧ vFrom s (p + blen ((Rs s p).take k)) = true
  | 0, p, hv => by simp [blen_nil, hv]
  | k + 1, p, hv => by
    by_cases h : p < s.size
    · have hg := good_of s p h hv
      have hv2 : vFrom s (p + (Utf8.decode s p).2) = true := by rw [vFrom_good s p h hg]; exact hv
      have ih := Rs_drop s k (p + (Utf8.decode s p).2) hv2
      rw [Rs_step s p h, List.take_succ_cons, blen_cons, rune_width s p h hg, List.drop_succ_cons, ← Nat.add_assoc]
      exact ih
    · rw [Rs_end s p h]; simp [blen_nil, Rs_end s p h, hv]
theorem Rs_take_bytes (s : ByteArray) (k p : Nat) (hv : vFrom s p = true) : encs ((Rs s p).take k) = (s.data.toList.drop p).take (blen ((Rs s p).take k)) := by
  have h : encs (Rs s p) = encs ((Rs s p).take k) ++ encs ((Rs s p).drop k) := by rw [← encs_append, List.take_append_drop]
  rw [← Rs_text s p hv, h, blen]
  simp
theorem Rs_take_le (s : ByteArray) (k p : Nat) (hp : p ≤ s.size) (hv : vFrom s p = true) : p + blen ((Rs s p).take k) ≤ s.size := by
  have h1 := Rs_blen s p hv
  have h2 : blen (Rs s p) = blen ((Rs s p).take k) + blen ((Rs s p).drop k) := by rw [← blen_append, List.take_append_drop]
  omega
end Go.Proofs.YtnhffhopdgnddaaGreatDoor

namespace Go.Proofs.YtnhffhopdgnddaaGreatDoor
open Go

def bs (l : List UInt8) : ByteArray := ⟨l.toArray⟩
def lst (s : ByteArray) : List UInt8 := s.data.toList
theorem bs_lst (s : ByteArray) : bs (lst s) = s := by simp [bs, lst]
theorem lst_bs (l : List UInt8) : lst (bs l) = l := by simp [bs, lst]
theorem lst_len (s : ByteArray) : (lst s).length = s.size := (Lib.size_eq s).symm
theorem bs_size (l : List UInt8) : (bs l).size = l.length := by rw [← lst_len, lst_bs]

def vow (c : UInt8) : Bool := c == 97 || c == 101 || c == 105 || c == 111 || c == 117 || c == 121
def hasV (l : List UInt8) : Bool := l.any vow
def ends (l e : List UInt8) : Bool := Lib.hasSuffix l e
def cutB (l : List UInt8) (n : Nat) : List UInt8 := l.take (l.length - n)
def lastB (l : List UInt8) (n : Nat) : UInt8 := l.getD (l.length - n) 0
def stem1 (l : List UInt8) : List UInt8 :=
  if ends l [115, 115, 101, 115] then cutB l 2
  else if ends l [105, 101, 115] then (if 5 ≤ l.length then cutB l 3 ++ [121] else l)
  else if ends l [115] && !ends l [115, 115] && !ends l [117, 115] && !ends l [105, 115] && decide (4 ≤ l.length) then cutB l 1 else l
def alike (l : List UInt8) : Bool := decide (2 ≤ l.length) && lastB l 1 == lastB l 2 && !vow (lastB l 1) && lastB l 1 != 108 && lastB l 1 != 115 && lastB l 1 != 122
def mend (l : List UInt8) : List UInt8 :=
  if alike l then cutB l 1 else if ends l [97, 116] || ends l [98, 108] || ends l [105, 122] then l ++ [101] else l
def stem2 (l : List UInt8) : List UInt8 :=
  if ends l [105, 110, 103] && decide (6 ≤ l.length) && hasV (cutB l 3) then mend (cutB l 3)
  else if ends l [101, 100] && decide (5 ≤ l.length) && hasV (cutB l 2) then mend (cutB l 2) else l
def stem3 (l : List UInt8) : List UInt8 := if ends l [108, 121] && decide (5 ≤ l.length) then cutB l 2 else l
def stem4 (l : List UInt8) : List UInt8 := if ends l [121] && decide (3 ≤ l.length) && !vow (lastB l 2) then cutB l 1 ++ [105] else l
def small (c : UInt8) : Bool := decide (97 ≤ c.toNat ∧ c.toNat ≤ 122)
def stemW (l : List UInt8) : List UInt8 :=
  if 65536 < l.length then [] else if l.length < 3 ∨ 64 < l.length then l else if l.all small = true then stem4 (stem3 (stem2 (stem1 l))) else l

theorem ends_len {l e : List UInt8} (h : ends l e = true) : e.length ≤ l.length := by
  have : e <:+ l := List.isSuffixOf_iff_suffix.1 h
  exact this.length_le
theorem ends_split {l e : List UInt8} (h : ends l e = true) : l = cutB l e.length ++ e := by
  obtain ⟨t, rfl⟩ := List.isSuffixOf_iff_suffix.1 h
  simp [cutB]
theorem cutB_len (l : List UInt8) (n : Nat) : (cutB l n).length = l.length - n := by simp [cutB]
theorem ends_append (t e : List UInt8) : ends (t ++ e) e = true := List.isSuffixOf_iff_suffix.2 ⟨t, rfl⟩
theorem cutB_append (t e : List UInt8) : cutB (t ++ e) e.length = t := by simp [cutB]
theorem stem1_le (l : List UInt8) : (stem1 l).length ≤ l.length := by
  unfold stem1
  split
  · rw [cutB_len]; omega
  · split
    · split
      · rw [List.length_append, cutB_len]; simp; omega
      · exact Nat.le_refl _
    · split
      · rw [cutB_len]; omega
      · exact Nat.le_refl _
theorem mend_le (l : List UInt8) : (mend l).length ≤ l.length + 1 := by
  unfold mend
  split
  · rw [cutB_len]; omega
  · split
    · simp
    · omega
theorem stem2_le (l : List UInt8) : (stem2 l).length ≤ l.length := by
  unfold stem2
  split
  · rename_i h
    simp only [Bool.and_eq_true, decide_eq_true_eq] at h
    have := mend_le (cutB l 3)
    rw [cutB_len] at this; omega
  · split
    · rename_i h
      simp only [Bool.and_eq_true, decide_eq_true_eq] at h
      have := mend_le (cutB l 2)
      rw [cutB_len] at this; omega
    · exact Nat.le_refl _
theorem stem3_le (l : List UInt8) : (stem3 l).length ≤ l.length := by
  unfold stem3
  split
  · rw [cutB_len]; omega
  · exact Nat.le_refl _
theorem stem4_le (l : List UInt8) : (stem4 l).length ≤ l.length := by
  unfold stem4
  split
  · rename_i h
    simp only [Bool.and_eq_true, decide_eq_true_eq] at h
    rw [List.length_append, cutB_len]; simp; omega
  · exact Nat.le_refl _
end Go.Proofs.YtnhffhopdgnddaaGreatDoor

namespace Go.Proofs.YtnhffhopdgnddaaGreatDoor
open Go
set_option linter.unusedVariables false

/-- The grams that stand at the head of t: of n characters, of n + 1, .. (f sizes). -/
def gAt (t : List Int) : Nat → Nat → List (List UInt8)
  | _, 0 => []
  | n, f + 1 => if n ≤ t.length then encs (t.take n) :: gAt t (n + 1) f else []
def gAll (lo f : Nat) : List Int → List (List UInt8)
  | [] => []
  | r :: t => gAt (r :: t) lo f ++ gAll lo f t
def cntG (len : Nat) : Nat → Nat → Nat
  | _, 0 => 0
  | n, f + 1 => (len + 1 - n) + cntG len (n + 1) f
theorem gAt_none (t : List Int) (n f : Nat) (h : t.length < n) : gAt t n f = [] := by
  cases f with
  | zero => rfl
  | succ f => rw [gAt, if_neg (by omega)]
theorem gAt_step (t : List Int) (n f : Nat) (h : n ≤ t.length) : gAt t n (f + 1) = encs (t.take n) :: gAt t (n + 1) f := by rw [gAt, if_pos h]
theorem cntG_big (len : Nat) : ∀ n f, len < n → cntG len n f = 0
  | _, 0, _ => rfl
  | n, f + 1, h => by rw [cntG, cntG_big len (n + 1) f (by omega)]; omega
theorem cntG_succ (t : List Int) : ∀ (f n : Nat), 1 ≤ n → cntG t.length n f = cntG (t.length - 1) n f + (gAt t n f).length ∨ t.length = 0
  | 0, n, _ => Or.inl rfl
  | f + 1, n, hn => by
    by_cases h0 : t.length = 0
    · exact Or.inr h0
    · refine Or.inl ?_
      rcases cntG_succ t f (n + 1) (by omega) with ih | ih
      · rw [cntG, cntG, ih]
        by_cases h : n ≤ t.length
        · rw [gAt_step t n f h, List.length_cons]; omega
        · rw [gAt_none t n (f + 1) (by omega), gAt_none t (n + 1) f (by omega)]
          simp only [List.length_nil]
          omega
      · exact absurd ih h0
theorem gAll_len (lo f : Nat) (hlo : 1 ≤ lo) : ∀ l : List Int, (gAll lo f l).length = cntG l.length lo f
  | [] => by
    rw [gAll, List.length_nil]
    cases f with
    | zero => rfl
    | succ f => rw [cntG, cntG_big _ _ _ (by simp only [List.length_nil]; omega)]; simp only [List.length_nil]; omega
  | r :: t => by
    rw [gAll, List.length_append, gAll_len lo f hlo t]
    rcases cntG_succ (r :: t) f lo hlo with h | h
    · rw [h]; simp only [List.length_cons, Nat.add_sub_cancel]; omega
    · simp at h
theorem gAll_drop (lo f : Nat) (l : List Int) (k : Nat) (h : k < l.length) : gAll lo f (l.drop k) = gAt (l.drop k) lo f ++ gAll lo f (l.drop (k + 1)) := by
  rw [List.drop_eq_getElem_cons h, gAll]
theorem gAll_end (lo f : Nat) (l : List Int) (k : Nat) (h : ¬ k < l.length) : gAll lo f (l.drop k) = [] := by
  rw [List.drop_of_length_le (by omega), gAll]

def gOK (lo hi : Int) : Bool := decide (1 ≤ lo ∧ lo ≤ hi ∧ hi ≤ 8)
def gFull (s : ByteArray) (lo hi : Int) : List (List UInt8) := gAll lo.toNat (hi + 1 - lo).toNat (decList s)
def gCode (s : ByteArray) (lo hi : Int) : Int :=
  if decCode s = 0 then (if gOK lo hi = true then (if (gFull s lo hi).length ≤ 4096 then 0 else 11) else 1) else decCode s
def gList (s : ByteArray) (lo hi : Int) : List (List UInt8) := if gCode s lo hi = 0 then gFull s lo hi else []

theorem runeCount_len (s : ByteArray) : Lib.runeCount s = (runes s).length := by
  have key : ∀ f p, Lib.runeCountFrom s f p = (runesFrom s f p).length := by
    intro f
    induction f with
    | zero => intro p; rfl
    | succ f ih =>
      intro p
      by_cases h : p < s.size
      · rw [Lib.runeCountFrom, if_pos h, runesFrom_step s f p h, List.length_cons, ih]; omega
      · rw [Lib.runeCountFrom, if_neg h, runesFrom_end s _ p h]; rfl
  exact key _ _

theorem ext_bytes (s : ByteArray) (p : Nat) (h : p ≤ s.size) : (s.extract p s.size).data.toList = s.data.toList.drop p := by
  rw [Lib.extract_to_end]
theorem ext_decode (s : ByteArray) (p t : Nat) (h : p ≤ s.size) : Utf8.decode (s.extract p s.size) t = Utf8.decode s (p + t) := by
  rw [← Lib.decodeL_drop, ← Lib.decodeL_drop, ext_bytes s p h, List.drop_drop]
theorem ext_size (s : ByteArray) (p : Nat) (h : p ≤ s.size) : (s.extract p s.size).size = s.size - p := by
  rw [← data_len, ext_bytes s p h, List.length_drop, data_len]
theorem ext_valid (s : ByteArray) (p : Nat) (h : p ≤ s.size) : validB (s.extract p s.size) = vFrom s p := by
  rw [validB, vFrom, ext_bytes s p h]
theorem ext_runes (s : ByteArray) (p : Nat) (h : p ≤ s.size) : runes (s.extract p s.size) = Rs s p := by
  have key : ∀ f q, runesFrom (s.extract p s.size) f q = runesFrom s f (p + q) := by
    intro f
    induction f with
    | zero => intro q; rfl
    | succ f ih =>
      intro q
      by_cases hq : q < (s.extract p s.size).size
      · have hq2 : p + q < s.size := by rw [ext_size s p h] at hq; omega
        rw [runesFrom_step _ f q hq, runesFrom_step s f _ hq2, ih, ext_decode s p q h, Nat.add_assoc]
      · have hq2 : ¬ p + q < s.size := by rw [ext_size s p h] at hq; omega
        rw [runesFrom_end _ _ _ hq, runesFrom_end _ _ _ hq2]
  rw [runes, key, Nat.add_zero, ext_size s p h, Rs]
  exact runesFrom_fuel s _ _ _ (by omega) (by omega)
theorem head_cut (t : ByteArray) (k : Nat) (hv : validB t = true) : t.extract 0 (blen ((runes t).take k)) = bs (encs ((runes t).take k)) := by
  have hv0 : vFrom t 0 = true := by rw [vFrom_zero]; exact hv
  have h1 := Rs_take_bytes t k 0 hv0
  rw [Rs_zero, List.drop_zero] at h1
  rw [Lib.extract_eq, bs, h1]
  simp
theorem at_runes (t : ByteArray) (k : Nat) (hv : validB t = true) : Rs t (blen ((runes t).take k)) = (runes t).drop k ∧ vFrom t (blen ((runes t).take k)) = true := by
  have := Rs_drop t k 0 (by rw [vFrom_zero]; exact hv)
  rwa [Nat.zero_add, Rs_zero] at this
theorem at_lt (t : ByteArray) (k : Nat) (hv : validB t = true) : k < (runes t).length ↔ blen ((runes t).take k) < t.size := by
  have h := at_runes t k hv
  constructor
  · intro hk
    by_cases hp : blen ((runes t).take k) < t.size
    · exact hp
    · rw [Rs_end t _ hp] at h
      have := congrArg List.length h.1
      rw [List.length_drop] at this
      simp at this
      omega
  · intro hp
    by_cases hk : k < (runes t).length
    · exact hk
    · rw [List.drop_of_length_le (by omega), Rs_step t _ hp] at h
      cases h.1
theorem at_step (t : ByteArray) (k : Nat) (hv : validB t = true) (hp : blen ((runes t).take k) < t.size) :
    ((Utf8.decode t (blen ((runes t).take k))).1 : Int) = (runes t).getD k 0 ∧ blen ((runes t).take (k + 1)) = blen ((runes t).take k) + (Utf8.decode t (blen ((runes t).take k))).2 ∧ chr ((runes t).getD k 0) = true := by
  have h := at_runes t k hv
  have hk := (at_lt t k hv).2 hp
  have hg := good_of t _ hp h.2
  have e : (runes t).drop k = (runes t).getD k 0 :: (runes t).drop (k + 1) := by rw [List.drop_eq_getElem_cons hk]; simp [hk]
  rw [Rs_step t _ hp, e] at h
  have h1 := (List.cons.inj h.1).1
  refine ⟨h1, ?_, ?_⟩
  · rw [take_snoc _ k hk, blen_append, ← h1, blen_cons, rune_width t _ hp hg, blen_nil]
    rfl
  · rw [← h1]; exact rune_chr t _ hg
end Go.Proofs.YtnhffhopdgnddaaGreatDoor

namespace Go.Proofs.YtnhffhopdgnddaaGreatDoor
open Go
set_option linter.unusedVariables false

/-- Texts that may stand in an analyser. -/
def tOK (t : List UInt8) : Bool := decide (1 ≤ t.length) && decide (t.length ≤ 64) && validB (bs t)
def yOK (y : List UInt8 × List UInt8) : Bool := tOK y.1 && tOK y.2 && !(y.1 == y.2)
def rOK (lo hi : Int) : Bool := (decide (lo = 0) && decide (hi = 0)) || gOK lo hi
def tsOK (l : List (List UInt8)) : Bool := l.all tOK
def ysOK (l : List (List UInt8 × List UInt8)) : Bool := l.all yOK
def azOK (stops : List (List UInt8)) (syns : List (List UInt8 × List UInt8)) (lo hi : Int) : Bool :=
  decide (stops.length ≤ 64) && decide (syns.length ≤ 64) && tsOK stops && ysOK syns && rOK lo hi
theorem tsOK_snoc (l : List (List UInt8)) (k : Nat) (h : k < l.length) : tsOK (l.take (k + 1)) = (tsOK (l.take k) && tOK (l.getD k [])) := by
  rw [tsOK, List.take_succ_eq_append_getElem h, List.all_append, List.getD_eq_getElem?_getD, List.getElem?_eq_getElem h]
  simp only [List.all_cons, List.all_nil, Bool.and_true, Option.getD_some]
  rfl
theorem ysOK_snoc (l : List (List UInt8 × List UInt8)) (k : Nat) (h : k < l.length) : ysOK (l.take (k + 1)) = (ysOK (l.take k) && yOK (l.getD k ([], []))) := by
  rw [ysOK, List.take_succ_eq_append_getElem h, List.all_append, List.getD_eq_getElem?_getD, List.getElem?_eq_getElem h]
  simp only [List.all_cons, List.all_nil, Bool.and_true, Option.getD_some]
  rfl
theorem tsOK_no {l : List (List UInt8)} {k : Nat} (h : k < l.length) (hn : tOK (l.getD k []) = false) : tsOK l = false := by
  rw [tsOK, List.all_eq_false]
  refine ⟨l.getD k [], ?_, by rw [hn]; simp⟩
  rw [List.getD_eq_getElem?_getD, List.getElem?_eq_getElem h, Option.getD_some]
  exact List.getElem_mem _
theorem ysOK_no {l : List (List UInt8 × List UInt8)} {k : Nat} (h : k < l.length) (hn : yOK (l.getD k ([], [])) = false) : ysOK l = false := by
  rw [ysOK, List.all_eq_false]
  refine ⟨l.getD k ([], []), ?_, by rw [hn]; simp⟩
  rw [List.getD_eq_getElem?_getD, List.getElem?_eq_getElem h, Option.getD_some]
  exact List.getElem_mem _
theorem all_full {α : Type} (l : List α) (k : Nat) (h : ¬ k < l.length) : l.take k = l := List.take_of_length_le (by omega)
end Go.Proofs.YtnhffhopdgnddaaGreatDoor

namespace Go.Proofs.YtnhffhopdgnddaaGreatDoor
open Go Go.RowKit
theorem hidd {p : Prop} (h : p) : Hid p := h
theorem add_head (g j : Nat) : (⟨g, 0, none⟩ : Addr).add j = ⟨g, j, none⟩ := by
  unfold Addr.add
  by_cases h : j = 0
  · subst h; simp
  · simp [h]
theorem rune_one (r : Int) : ∀ u ∈ Lib.runeCells r, u.oneCell' = true := by
  intro u hu
  simp only [Lib.runeCells, List.mem_map] at hu
  obtain ⟨x, _, rfl⟩ := hu
  rfl
theorem own_lt {w : World} {base e g n cap : Nat} {xs : List Value} (h : w.ownsRow base e 1 (.slice (some ⟨g, 0, none⟩) n cap) n xs) : g < w.heap.size := by
  rcases h.2 with ⟨h', _⟩ | ⟨g', cap', cur, h', _, hg, _⟩
  · simp at h'
  · simp only [Value.slice.injEq, Option.some.injEq, Addr.mk.injEq, and_true, true_and] at h'
    obtain ⟨rfl, rfl⟩ := h'
    exact (Array.getElem?_eq_some_iff.1 hg).1
theorem cell_lt {w : World} {b off : Nat} {v : Value} (h : w.cell? ⟨b, off, none⟩ = some v) : b < w.heap.size := by
  by_cases hb : b < w.heap.size
  · exact hb
  · have : w.heap[b]? = none := Array.getElem?_eq_none (by omega)
    simp [World.cell?, this] at h
theorem own_cells {w : World} {base e g n cap : Nat} {zs : List Int} (h : w.ownsRow base e 1 (.slice (some ⟨g, 0, none⟩) n cap) n (zs.map (Value.int .i64))) (hl : zs.length = n) :
    ∀ t, t < n → w.cell? ⟨g, 0 + t, none⟩ = some (.int .i64 (zs.getD t 0)) := by
  intro t ht
  rw [Nat.zero_add, h.cellAt t (by omega)]
  simp [hl, ht]
theorem own_below {w w' : World} {base e n : Nat} {v : Value} {xs : List Value} (h : w.ownsRow base e 1 v n xs) (hb : Below w.heap.size w w') : w'.ownsRow base e 1 v n xs := by
  refine ⟨h.1, ?_⟩
  rcases h.2 with h' | ⟨g, cap, cur, h1, h2, h3, h4⟩
  · exact Or.inl h'
  · exact Or.inr ⟨g, cap, cur, h1, h2, by rw [hb.block g (Array.getElem?_eq_some_iff.1 h3).1]; exact h3, h4⟩
end Go.Proofs.YtnhffhopdgnddaaGreatDoor

namespace Go.Proofs.YtnhffhopdgnddaaGreatDoor
open Go Go.RowKit
set_option linter.unusedVariables false

set_option maxHeartbeats 400000 in
theorem within_any (r lo hi : Int) (w : World) : Calls Tryz.prog 74 #[.int .i64 r, .int .i64 lo, .int .i64 hi] w fun e w' => e = .returned (.bool (decide (lo ≤ r) && decide (r ≤ hi))) ∧ w' = w := by
  by_cases h : lo ≤ r
  · have HB : Hid (decide (lo ≤ r) = true) := decide_eq_true h
    go_enter Tryz.func74, Tryz.ntmps74
    go_wp2
    go_ret
    rw [HB.out, Bool.true_and]
    exact ⟨rfl, rfl⟩
  · have HB : Hid (decide (lo ≤ r) = false) := decide_eq_false h
    go_enter Tryz.func74, Tryz.ntmps74
    go_wp2
    go_ret
    rw [HB.out, Bool.false_and]
    exact ⟨rfl, rfl⟩

end Go.Proofs.YtnhffhopdgnddaaGreatDoor

namespace Go.Proofs.YtnhffhopdgnddaaGreatDoor
open Go Go.RowKit
set_option linter.unusedVariables false

theorem own_cases {w : World} {base e n : Nat} {v : Value} {xs : List Value} (h : w.ownsRow base e 1 v n xs) :
    (v = .slice none 0 0 ∧ n = 0) ∨ ∃ g cap, v = .slice (some ⟨g, 0, none⟩) n cap ∧ base ≤ g ∧ g < w.heap.size := by
  rcases h.2 with ⟨h1, h2⟩ | ⟨g, cap, cur, h1, hb, hg, _⟩
  · exact Or.inl ⟨h1, h2⟩
  · exact Or.inr ⟨g, cap, h1, hb, (Array.getElem?_eq_some_iff.1 hg).1⟩

theorem own_drewN {w : World} {base e n : Nat} {v : Value} {xs : List Value} (h : w.ownsRow base e 1 v n xs) : ∀ m, (w.drewN m).ownsRow base e 1 v n xs
  | 0 => h
  | m + 1 => (own_drewN h m).drew
theorem own_apart {w1 w2 : World} {base e n : Nat} {v0 v1 : Value} {xs ys : List Value} (h0 : w1.ownsRow base e 1 v0 n xs) (h1 : w2.ownsRow w1.heap.size e 1 v1 n ys) : v0.ownBlock = none ∨ v0.ownBlock ≠ v1.ownBlock := by
  rcases own_cases h0 with ⟨rfl, _⟩ | ⟨g0, c0, rfl, _, hl⟩
  · exact Or.inl rfl
  · rcases own_cases h1 with ⟨rfl, _⟩ | ⟨g1, c1, rfl, hb, _⟩
    · exact Or.inr (by simp [Value.ownBlock])
    · refine Or.inr ?_
      simp [Value.ownBlock]
      omega

theorem grown_refl (w : World) (row : Option Nat) : w.grownBy w row := ⟨rfl, rfl, rfl, Nat.le_refl _, fun _ _ _ => rfl⟩
theorem grown_trans {a b c : World} {row : Option Nat} (h : a.grownBy b row) (k : b.grownBy c row) : a.grownBy c row :=
  ⟨k.os.trans h.os, k.tape.trans h.tape, k.output.trans h.output, Nat.le_trans h.size k.size, fun i hi hne => (k.block i (Nat.lt_of_lt_of_le hi h.size) hne).trans (h.block i hi hne)⟩

theorem own_empty (w : World) (e : TypeId) : (w.alloc (.cells #[] e)).ownsRow w.heap.size e 1 (.slice (some ⟨w.heap.size, 0, none⟩) 0 0) 0 [] := by
  have := World.ownsRow_lit (base := w.heap.size) (e := e) (size := 1) w #[] 0 (Nat.le_refl _) (by unfold maxLen; omega) (by simp)
  simpa using this
theorem own_mono {w : World} {base base' e n : Nat} {v : Value} {xs : List Value} (h : w.ownsRow base e 1 v n xs) (hb : base' ≤ base) : w.ownsRow base' e 1 v n xs := by
  refine ⟨h.1, ?_⟩
  rcases h.2 with h' | ⟨g, cap, cur, h1, h2, h3⟩
  · exact Or.inl h'
  · exact Or.inr ⟨g, cap, cur, h1, Nat.le_trans hb h2, h3⟩
theorem own_block {w : World} {base e n : Nat} {v : Value} {xs : List Value} (h : w.ownsRow base e 1 v n xs) : ∀ k, v.ownBlock = some k → base ≤ k := by
  intro k hk
  rcases own_cases h with ⟨rfl, _⟩ | ⟨g, cap, rfl, hb, _⟩
  · cases hk
  · cases hk; exact hb

theorem own_iterAt {w : World} {base e n k p : Nat} {s : ByteArray} {v : Value} {xs : List Value} (h : w.ownsRow base e 1 v n xs) (hk : w.heap[k]? = some (.stringIter s p)) (p' : Nat) : (w.iterAt k s p').ownsRow base e 1 v n xs := by
  refine ⟨h.1, ?_⟩
  rcases h.2 with h' | ⟨g, cap, cur, h1, h2, h3, h4⟩
  · exact Or.inl h'
  · refine Or.inr ⟨g, cap, cur, h1, h2, ?_, h4⟩
    have hne : g ≠ k := by intro e; subst e; rw [hk] at h3; cases h3
    rw [Lib.iterAt_other w k g s p' hne]
    exact h3
theorem own_ne_iter {w : World} {base e n k p : Nat} {s : ByteArray} {v : Value} {xs : List Value} (h : w.ownsRow base e 1 v n xs) (hk : w.heap[k]? = some (.stringIter s p)) : some k ≠ v.ownBlock := by
  intro hb
  rcases h.2 with ⟨rfl, _⟩ | ⟨g, cap, cur, rfl, h2, h3, h4⟩
  · cases hb
  · have e : k = g := Option.some.inj hb
    subst e
    rw [hk] at h3
    cases h3
end Go.Proofs.YtnhffhopdgnddaaGreatDoor
