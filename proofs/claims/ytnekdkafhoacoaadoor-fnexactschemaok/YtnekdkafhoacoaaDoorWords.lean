import Derived.Test.YtnekdkafhoacoaaDoorRunesC
import Derived.Test.YtnekdkafhoacoaaDoorFoldP
import Derived.Lib.MapLaws
namespace Go.Proofs.YtnekdkafhoacoaaDoor
open Go

def innB (r : Int) : Bool := clsZ r == 1 || clsZ r == 2
def headInn : List Int → Bool
  | [] => false
  | r :: _ => innB r
def runK : List Int → Nat
  | [] => 0
  | r :: t => if innB r = true then runK t + 1 else if (clsZ r == 3 && headInn t) = true then runK t + 1 else 0
def wordK : List Int → Nat
  | [] => 0
  | r :: t => if clsZ r = 4 then 1 else if innB r = true then runK (r :: t) else 0
def blen (l : List Int) : Nat := (encs l).length
theorem blen_cons (r : Int) (t : List Int) : blen (r :: t) = (Lib.encodeRune r).length + blen t := by simp [blen, encs]
theorem blen_nil : blen [] = 0 := rfl
theorem blen_append (a b : List Int) : blen (a ++ b) = blen a + blen b := by simp [blen, encs]
theorem runK_inn (r : Int) (t : List Int) (h : innB r = true) : runK (r :: t) = runK t + 1 := by rw [runK, if_pos h]
theorem runK_mark (r : Int) (t : List Int) (h : innB r = false) (h2 : (clsZ r == 3) = true) (h3 : headInn t = true) : runK (r :: t) = runK t + 1 := by rw [runK, if_neg (by rw [h]; simp), if_pos (by rw [h2, h3]; rfl)]
theorem runK_stop (r : Int) (t : List Int) (h : innB r = false) (h2 : (clsZ r == 3) = false ∨ headInn t = false) : runK (r :: t) = 0 := by
  rw [runK, if_neg (by rw [h]; simp), if_neg (by rcases h2 with h2 | h2 <;> rw [h2] <;> simp)]
theorem runK_le : ∀ l, runK l ≤ l.length
  | [] => by simp [runK]
  | r :: t => by
    have := runK_le t
    rw [runK, List.length_cons]
    repeat' split
    all_goals omega
theorem runK_pos (l : List Int) (h : headInn l = true) : 1 ≤ runK l := by
  cases l with
  | nil => cases h
  | cons r t => rw [runK_inn r t h]; omega
theorem inn_cls (r : Int) : (innB r = true ↔ (clsZ r = 1 ∨ clsZ r = 2)) := by simp [innB]
theorem inn_not (r : Int) : (innB r = false ↔ (clsZ r ≠ 1 ∧ clsZ r ≠ 2)) := by simp [innB]
theorem wordK_le (l : List Int) : wordK l ≤ l.length := by
  cases l with
  | nil => simp [wordK]
  | cons r t =>
    have := runK_le (r :: t)
    rw [wordK]
    repeat' split
    all_goals simp_all
theorem wordK_wide (r : Int) (t : List Int) (h : clsZ r = 4) : wordK (r :: t) = 1 := by rw [wordK, if_pos h]
theorem wordK_inn (r : Int) (t : List Int) (h : innB r = true) : wordK (r :: t) = runK (r :: t) := by
  have h' := (inn_cls r).1 h
  rw [wordK, if_neg (by omega), if_pos h]
theorem wordK_none (r : Int) (t : List Int) (h : innB r = false) (h4 : clsZ r ≠ 4) : wordK (r :: t) = 0 := by rw [wordK, if_neg h4, if_neg (by rw [h]; simp)]

abbrev Tk := List UInt8 × Nat × Nat × Nat
def toks : Nat → List Int → Nat → Nat → List Tk
  | 0, _, _, _ => []
  | _ + 1, [], _, _ => []
  | f + 1, r :: t, a, n =>
    if wordK (r :: t) = 0 then toks f t (a + blen [r]) n
    else (encs ((r :: t).take (wordK (r :: t))), n, a, a + blen ((r :: t).take (wordK (r :: t)))) :: toks f ((r :: t).drop (wordK (r :: t))) (a + blen ((r :: t).take (wordK (r :: t)))) (n + 1)
theorem toks_nil (f a n : Nat) : toks f [] a n = [] := by cases f <;> rfl
theorem toks_skip (f : Nat) (r : Int) (t : List Int) (a n : Nat) (h : wordK (r :: t) = 0) : toks (f + 1) (r :: t) a n = toks f t (a + blen [r]) n := by rw [toks, if_pos h]
theorem toks_word (f : Nat) (r : Int) (t : List Int) (a n : Nat) (h : ¬ wordK (r :: t) = 0) :
    toks (f + 1) (r :: t) a n = (encs ((r :: t).take (wordK (r :: t))), n, a, a + blen ((r :: t).take (wordK (r :: t)))) :: toks f ((r :: t).drop (wordK (r :: t))) (a + blen ((r :: t).take (wordK (r :: t)))) (n + 1) := by rw [toks, if_neg h]
theorem toks_len : ∀ (f : Nat) (l : List Int) (a n : Nat), (toks f l a n).length ≤ f
  | 0, _, _, _ => by simp [toks]
  | f + 1, [], _, _ => by simp [toks]
  | f + 1, r :: t, a, n => by
    by_cases h : wordK (r :: t) = 0
    · rw [toks_skip f r t a n h]; have := toks_len f t (a + blen [r]) n; omega
    · rw [toks_word f r t a n h, List.length_cons]; have := toks_len f ((r :: t).drop (wordK (r :: t))) (a + blen ((r :: t).take (wordK (r :: t)))) (n + 1); omega
def tokCells (t : Tk) : List Value := [.string ⟨t.1.toArray⟩, .int .i64 t.2.1, .int .i64 t.2.2.1, .int .i64 t.2.2.2]
def toksCells (l : List Tk) : List Value := l.flatMap tokCells
theorem toksCells_snoc (l : List Tk) (t : Tk) : toksCells (l ++ [t]) = toksCells l ++ tokCells t := by simp [toksCells]
theorem toksCells_len (l : List Tk) : (toksCells l).length = l.length * 4 := by
  induction l with
  | nil => rfl
  | cons x t ih => simp only [toksCells, List.flatMap_cons, List.length_append, List.length_cons, tokCells] at *; simp at *; omega

def allToks (s : ByteArray) : List Tk := toks (runes s).length (runes s) 0 0
def brkCode (s : ByteArray) : Int := if decCode s = 0 then (if 8192 < (allToks s).length then 11 else 0) else decCode s
def brkList (s : ByteArray) : List Tk := if decCode s = 0 then (if 8192 < (allToks s).length then [] else allToks s) else []

/-! the text from a place on -/
theorem runesFrom_fuel (s : ByteArray) : ∀ f f' p, s.size ≤ p + f → s.size ≤ p + f' → runesFrom s f p = runesFrom s f' p
  | 0, f', p, h, _ => by rw [runesFrom_end s 0 p (by omega), runesFrom_end s f' p (by omega)]
  | f + 1, f', p, h, h' => by
    by_cases hp : p < s.size
    · have hw := width_le s p hp
      obtain ⟨g, rfl⟩ : ∃ g, f' = g + 1 := ⟨f' - 1, by omega⟩
      rw [runesFrom_step s f p hp, runesFrom_step s g p hp, runesFrom_fuel s f g _ (by omega) (by omega)]
    · rw [runesFrom_end s _ p hp, runesFrom_end s _ p hp]
def Rs (s : ByteArray) (p : Nat) : List Int := runesFrom s s.size p
theorem Rs_zero (s : ByteArray) : Rs s 0 = runes s := rfl
theorem Rs_end (s : ByteArray) (p : Nat) (h : ¬ p < s.size) : Rs s p = [] := runesFrom_end s _ p h
theorem Rs_step (s : ByteArray) (p : Nat) (h : p < s.size) : Rs s p = ((Utf8.decode s p).1 : Int) :: Rs s (p + (Utf8.decode s p).2) := by
  have hw := width_le s p h
  rw [Rs, runesFrom_fuel s s.size ((s.size - 1) + 1) p (by omega) (by omega), runesFrom_step s _ p h, runesFrom_fuel s (s.size - 1) s.size _ (by omega) (by omega)]
  rfl
theorem drop_ne (s : ByteArray) (p : Nat) (h : p < s.size) : s.data.toList.drop p ≠ [] := by
  intro e
  have := congrArg List.length e
  rw [List.length_drop, data_len] at this
  simp at this
  omega
theorem rune_bytes (s : ByteArray) (p : Nat) (h : p < s.size) (hg : ¬ bad s p) : Lib.encodeRune ((Utf8.decode s p).1 : Int) = (s.data.toList.drop p).take (Utf8.decode s p).2 := by
  have := Lib.encode_decode (s.data.toList.drop p) (drop_ne s p h) (by rw [Lib.decodeL_drop]; exact hg)
  rw [Lib.decodeL_drop] at this
  exact this
theorem rune_width (s : ByteArray) (p : Nat) (h : p < s.size) (hg : ¬ bad s p) : (Lib.encodeRune ((Utf8.decode s p).1 : Int)).length = (Utf8.decode s p).2 := by
  have hw := width_le s p h
  rw [rune_bytes s p h hg, List.length_take, List.length_drop, data_len]
  omega
theorem Rs_bytes (s : ByteArray) : ∀ (m p : Nat), s.size ≤ p + m → vFrom s p = true → encs (Rs s p) = s.data.toList.drop p
  | 0, p, hm, _ => by
    rw [Rs_end s p (by omega), List.drop_of_length_le (by rw [data_len]; omega)]; rfl
  | m + 1, p, hm, hv => by
    by_cases h : p < s.size
    · have hg := good_of s p h hv
      have hw := width_le s p h
      have ih := Rs_bytes s m (p + (Utf8.decode s p).2) (by omega) (by rw [vFrom_good s p h hg]; exact hv)
      rw [Rs_step s p h]
      have e : ∀ (r : Int) (t : List Int), encs (r :: t) = Lib.encodeRune r ++ encs t := fun r t => by simp [encs]
      rw [e, ih, rune_bytes s p h hg, ← List.drop_drop, List.take_append_drop]
    · rw [Rs_end s p h, List.drop_of_length_le (by rw [data_len]; omega)]; rfl
theorem Rs_text (s : ByteArray) (p : Nat) (hv : vFrom s p = true) : encs (Rs s p) = s.data.toList.drop p := Rs_bytes s s.size p (by omega) hv
theorem Rs_blen (s : ByteArray) (p : Nat) (hv : vFrom s p = true) : blen (Rs s p) = s.size - p := by
  rw [blen, Rs_text s p hv, List.length_drop, data_len]
theorem Rs_drop (s : ByteArray) : ∀ (k p : Nat), vFrom s p = true → Rs s (p + blen ((Rs s p).take k)) = (Rs s p).drop k ∧ vFrom s (p + blen ((Rs s p).take k)) = true
  | 0, p, hv => by simp [blen_nil, hv]
  | k + 1, p, hv => by
    by_cases h : p < s.size
    · have hg := good_of s p h hv
      have hv2 : vFrom s (p + (Utf8.decode s p).2) = true := by rw [vFrom_good s p h hg]; exact hv
      have ih := Rs_drop s k (p + (Utf8.decode s p).2) hv2
      rw [Rs_step s p h, List.take_succ_cons, blen_cons, rune_width s p h hg, List.drop_succ_cons, ← Nat.add_assoc]
      exact ih
    · rw [Rs_end s p h]; simp [blen_nil, Rs_end s p h, hv]
theorem Rs_take_bytes (s : ByteArray) (k p : Nat) (hv : vFrom s p = true) : encs ((Rs s p).take k) = (s.data.toList.drop p).take (blen ((Rs s p).take k)) := by
  have h : encs (Rs s p) = encs ((Rs s p).take k) ++ encs ((Rs s p).drop k) := by rw [← encs_append, List.take_append_drop]
  rw [← Rs_text s p hv, h, blen]
  simp
theorem Rs_take_le (s : ByteArray) (k p : Nat) (hp : p ≤ s.size) (hv : vFrom s p = true) : p + blen ((Rs s p).take k) ≤ s.size := by
  have h1 := Rs_blen s p hv
  have h2 : blen (Rs s p) = blen ((Rs s p).take k) + blen ((Rs s p).drop k) := by rw [← blen_append, List.take_append_drop]
  omega
end Go.Proofs.YtnekdkafhoacoaaDoor
