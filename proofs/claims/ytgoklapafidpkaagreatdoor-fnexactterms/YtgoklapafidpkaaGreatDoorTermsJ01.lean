import Derived.Test.YtgoklapafidpkaaGreatDoorTermsJ00
import Derived.Lib.MapLaws
import Derived.Lib.Strings
import Derived.Lib.RuneCount
import Derived.Lib.IndexBytes
namespace Go.Proofs.YtgoklapafidpkaaGreatDoor
open Go
def smlZ (r : Int) : Int := if (65 ≤ r ∧ r ≤ 90) ∨ (192 ≤ r ∧ r ≤ 222 ∧ r ≠ 215) ∨ (913 ≤ r ∧ r ≤ 939 ∧ r ≠ 930) ∨ (1040 ≤ r ∧ r ≤ 1071) then r + 32 else if 1024 ≤ r ∧ r ≤ 1039 then r + 80 else r
def accZ (r : Int) : Int :=
  if 224 ≤ r ∧ r ≤ 229 then 97 else if r = 231 then 99 else if 232 ≤ r ∧ r ≤ 235 then 101 else if 236 ≤ r ∧ r ≤ 239 then 105 else if r = 241 then 110
  else if (242 ≤ r ∧ r ≤ 246) ∨ r = 248 then 111 else if 249 ≤ r ∧ r ≤ 252 then 117 else if r = 253 ∨ r = 255 then 121 else r
def foldZ (r : Int) : Int := accZ (smlZ r)
theorem accZ_range (r : Int) : accZ r = r ∨ (97 ≤ accZ r ∧ accZ r ≤ 121) := by
  unfold accZ
  repeat' split
  all_goals omega
theorem foldZ_bd (r : Int) (h : chr r = true) : 0 ≤ foldZ r ∧ foldZ r ≤ 1114111 ∧ chr (foldZ r) = true := by
  rw [chr_iff] at h
  have : (0 ≤ foldZ r ∧ foldZ r ≤ 1114111 ∧ (foldZ r < 55296 ∨ 57343 < foldZ r)) := by
    have hs : 0 ≤ smlZ r ∧ smlZ r ≤ 1114111 ∧ (smlZ r < 55296 ∨ 57343 < smlZ r) := by
      unfold smlZ
      repeat' split
      all_goals omega
    have ha := accZ_range (smlZ r)
    unfold foldZ
    omega
  exact ⟨this.1, this.2.1, (chr_iff _).2 this⟩
def clsZ (r : Int) : Int :=
  if (65 ≤ r ∧ r ≤ 90) ∨ (97 ≤ r ∧ r ≤ 122) ∨ (192 ≤ r ∧ r ≤ 591 ∧ r ≠ 215 ∧ r ≠ 247) ∨ (880 ≤ r ∧ r ≤ 1279) then 1
  else if 48 ≤ r ∧ r ≤ 57 then 2 else if r = 39 ∨ r = 95 then 3 else if (12352 ≤ r ∧ r ≤ 12543) ∨ (19968 ≤ r ∧ r ≤ 40959) then 4 else 0
end Go.Proofs.YtgoklapafidpkaaGreatDoor

namespace Go.Proofs.YtgoklapafidpkaaGreatDoor
open Go

def innB (r : Int) : Bool := clsZ r == 1 || clsZ r == 2
def headInn : List Int → Bool
  | [] => false
  | r :: _ => innB r
def runK : List Int → Nat
  | [] => 0
  | r :: t => if innB r = true then runK t + 1 else if (clsZ r == 3 && headInn t) = true then runK t + 1 else 0
def wordK : List Int → Nat
  | [] => 0
  | r :: t => if clsZ r = 4 then 1 else if innB r = true then runK (r :: t) else 0
def blen (l : List Int) : Nat := (encs l).length
theorem blen_cons (r : Int) (t : List Int) : blen (r :: t) = (Lib.encodeRune r).length + blen t := by simp [blen, encs]
theorem blen_nil : blen [] = 0 := rfl
theorem blen_append (a b : List Int) : blen (a ++ b) = blen a + blen b := by simp [blen, encs]
theorem runK_inn (r : Int) (t : List Int) (h : innB r = true) : runK (r :: t) = runK t + 1 := by rw [runK, if_pos h]
theorem runK_mark (r : Int) (t : List Int) (h : innB r = false) (h2 : (clsZ r == 3) = true) (h3 : headInn t = true) : runK (r :: t) = runK t + 1 := by rw [runK, if_neg (by rw [h]; simp), if_pos (by rw [h2, h3]; rfl)]
theorem runK_stop (r : Int) (t : List Int) (h : innB r = false) (h2 : (clsZ r == 3) = false ∨ headInn t = false) : runK (r :: t) = 0 := by
  rw [runK, if_neg (by rw [h]; simp), if_neg (by rcases h2 with h2 | h2 <;> rw [h2] <;> simp)]
theorem inn_cls (r : Int) : (innB r = true ↔ (clsZ r = 1 ∨ clsZ r = 2)) := by simp [innB]
theorem inn_not (r : Int) : (innB r = false ↔ (clsZ r ≠ 1 ∧ clsZ r ≠ 2)) := by simp [innB]
theorem wordK_wide (r : Int) (t : List Int) (h : clsZ r = 4) : wordK (r :: t) = 1 := by rw [wordK, if_pos h]
theorem wordK_inn (r : Int) (t : List Int) (h : innB r = true) : wordK (r :: t) = runK (r :: t) := by
  have h' := (inn_cls r).1 h
  rw [wordK, if_neg (by omega), if_pos h]
theorem wordK_none (r : Int) (t : List Int) (h : innB r = false) (h4 : clsZ r ≠ 4) : wordK (r :: t) = 0 := by rw [wordK, if_neg h4, if_neg (by rw [h]; simp)]
abbrev Tk := List UInt8 × Nat × Nat × Nat
def toks : Nat → List Int → Nat → Nat → List Tk
  | 0, _, _, _ => []
  | _ + 1, [], _, _ => []
  | f + 1, r :: t, a, n =>
    if wordK (r :: t) = 0 then toks f t (a + blen [r]) n
    else (encs ((r :: t).take (wordK (r :: t))), n, a, a + blen ((r :: t).take (wordK (r :: t)))) :: toks f ((r :: t).drop (wordK (r :: t))) (a + blen ((r :: t).take (wordK (r :: t)))) (n + 1)
theorem toks_nil (f a n : Nat) : toks f [] a n = [] := by cases f <;> rfl
theorem toks_skip (f : Nat) (r : Int) (t : List Int) (a n : Nat) (h : wordK (r :: t) = 0) : toks (f + 1) (r :: t) a n = toks f t (a + blen [r]) n := by rw [toks, if_pos h]
theorem toks_word (f : Nat) (r : Int) (t : List Int) (a n : Nat) (h : ¬ wordK (r :: t) = 0) :
    toks (f + 1) (r :: t) a n = (encs ((r :: t).take (wordK (r :: t))), n, a, a + blen ((r :: t).take (wordK (r :: t)))) :: toks f ((r :: t).drop (wordK (r :: t))) (a + blen ((r :: t).take (wordK (r :: t)))) (n + 1) := by rw [toks, if_neg h]
def tokCells (t : Tk) : List Value := [.string ⟨t.1.toArray⟩, .int .i64 t.2.1, .int .i64 t.2.2.1, .int .i64 t.2.2.2]
def toksCells (l : List Tk) : List Value := l.flatMap tokCells
theorem toksCells_snoc (l : List Tk) (t : Tk) : toksCells (l ++ [t]) = toksCells l ++ tokCells t := by simp [toksCells]
theorem toksCells_len (l : List Tk) : (toksCells l).length = l.length * 4 := by
  induction l with
  | nil => rfl
  | cons x t ih => simp only [toksCells, List.flatMap_cons, List.length_append, List.length_cons, tokCells] at *; simp at *; omega
def allToks (s : ByteArray) : List Tk := toks (runes s).length (runes s) 0 0
def brkCode (s : ByteArray) : Int := if decCode s = 0 then (if 8192 < (allToks s).length then 11 else 0) else decCode s
def brkList (s : ByteArray) : List Tk := if decCode s = 0 then (if 8192 < (allToks s).length then [] else allToks s) else []
/-! the text from a place on -/
theorem runesFrom_fuel (s : ByteArray) : ∀ f f' p, s.size ≤ p + f → s.size ≤ p + f' → runesFrom s f p = runesFrom s f' p
  | 0, f', p, h, _ => by rw [runesFrom_end s 0 p (by omega), runesFrom_end s f' p (by omega)]
  | f + 1, f', p, h, h' => by
    by_cases hp : p < s.size
    · have hw := width_le s p hp
      obtain ⟨g, rfl⟩ : ∃ g, f' = g + 1 := ⟨f' - 1, by omega⟩
      rw [runesFrom_step s f p hp, runesFrom_step s g p hp, runesFrom_fuel s f g _ (by omega) (by omega)]
    · rw [runesFrom_end s _ p hp, runesFrom_end s _ p hp]
def Rs (s : ByteArray) (p : Nat) : List Int := runesFrom s s.size p
theorem Rs_zero (s : ByteArray) : Rs s 0 = runes s := rfl
theorem Rs_end (s : ByteArray) (p : Nat) (h : ¬ p < s.size) : Rs s p = [] := runesFrom_end s _ p h
theorem Rs_step (s : ByteArray) (p : Nat) (h : p < s.size) : Rs s p = ((Utf8.decode s p).1 : Int) :: Rs s (p + (Utf8.decode s p).2) := by
  have hw := width_le s p h
  rw [Rs, runesFrom_fuel s s.size ((s.size - 1) + 1) p (by omega) (by omega), runesFrom_step s _ p h, runesFrom_fuel s (s.size - 1) s.size _ (by omega) (by omega)]
  rfl
theorem drop_ne (s : ByteArray) (p : Nat) (h : p < s.size) : s.data.toList.drop p ≠ [] := by
  intro e
  have := congrArg List.length e
  rw [List.length_drop, data_len] at this
  simp at this
  omega
theorem rune_bytes (s : ByteArray) (p : Nat) (h : p < s.size) (hg : ¬ bad s p) : Lib.encodeRune ((Utf8.decode s p).1 : Int) = (s.data.toList.drop p).take (Utf8.decode s p).2 := by
  have := Lib.encode_decode (s.data.toList.drop p) (drop_ne s p h) (by rw [Lib.decodeL_drop]; exact hg)
  rw [Lib.decodeL_drop] at this
  exact this
theorem rune_width (s : ByteArray) (p : Nat) (h : p < s.size) (hg : ¬ bad s p) : (Lib.encodeRune ((Utf8.decode s p).1 : Int)).length = (Utf8.decode s p).2 := by
  have hw := width_le s p h
  rw [rune_bytes s p h hg, List.length_take, List.length_drop, data_len]
  omega
theorem Rs_bytes (s : ByteArray) : ∀ (m p : Nat), s.size ≤ p + m → vFrom s p = true → encs (Rs s p) = s.data.toList.drop p
  | 0, p, hm, _ => by
    rw [Rs_end s p (by omega), List.drop_of_length_le (by rw [data_len]; omega)]; rfl
  | m + 1, p, hm, hv => by
    by_cases h : p < s.size
    · have hg := good_of s p h hv
      have hw := width_le s p h
      have ih := Rs_bytes s m (p + (Utf8.decode s p).2) (by omega) (by rw [vFrom_good s p h hg]; exact hv)
      rw [Rs_step s p h]
      have e : ∀ (r : Int) (t : List Int), encs (r :: t) = Lib.encodeRune r ++ encs t := fun r t => by simp [encs]
      rw [e, ih, rune_bytes s p h hg, ← List.drop_drop, List.take_append_drop]
    · rw [Rs_end s p h, List.drop_of_length_le (by rw [data_len]; omega)]; rfl
theorem Rs_text (s : ByteArray) (p : Nat) (hv : vFrom s p = true) : encs (Rs s p) = s.data.toList.drop p := Rs_bytes s s.size p (by omega) hv
theorem Rs_blen (s : ByteArray) (p : Nat) (hv : vFrom s p = true) : blen (Rs s p) = s.size - p := by
  rw [blen, Rs_text s p hv, List.length_drop, data_len]
theorem Rs_drop (s : ByteArray) : ∀ (k p : Nat), vFrom s p = true → Rs s (p + blen ((Rs s p).take k)) = (Rs s p).drop k ∧ vFrom s (p + blen ((Rs s p).take k)) = true
  | 0, p, hv => by simp [blen_nil, hv]
  | k + 1, p, hv => by
    by_cases h : p < s.size
    · have hg := good_of s p h hv
      have hv2 : vFrom s (p + (Utf8.decode s p).2) = true := by rw [vFrom_good s p h hg]; exact hv
      have ih := Rs_drop s k (p + (Utf8.decode s p).2) hv2
      rw [Rs_step s p h, List.take_succ_cons, blen_cons, rune_width s p h hg, List.drop_succ_cons, ← Nat.add_assoc]
      exact ih
    · rw [Rs_end s p h]; simp [blen_nil, Rs_end s p h, hv]
theorem Rs_take_bytes (s : ByteArray) (k p : Nat) (hv : vFrom s p = true) : encs ((Rs s p).take k) = (s.data.toList.drop p).take (blen ((Rs s p).take k)) := by
  have h : encs (Rs s p) = encs ((Rs s p).take k) ++ encs ((Rs s p).drop k) := by rw [← encs_append, List.take_append_drop]
  rw [← Rs_text s p hv, h, blen]
  simp
theorem Rs_take_le (s : ByteArray) (k p : Nat) (hp : p ≤ s.size) (hv : vFrom s p = true) : p + blen ((Rs s p).take k) ≤ s.size := by
  have h1 := Rs_blen s p hv
  have h2 : blen (Rs s p) = blen ((Rs s p).take k) + blen ((Rs s p).drop k) := by rw [← blen_append, List.take_append_drop]
  omega
end Go.Proofs.YtgoklapafidpkaaGreatDoor

namespace Go.Proofs.YtgoklapafidpkaaGreatDoor
open Go

def bs (l : List UInt8) : ByteArray := ⟨l.toArray⟩
def lst (s : ByteArray) : List UInt8 := s.data.toList
theorem bs_lst (s : ByteArray) : bs (lst s) = s := by simp [bs, lst]
theorem lst_bs (l : List UInt8) : lst (bs l) = l := by simp [bs, lst]
theorem lst_len (s : ByteArray) : (lst s).length = s.size := (Lib.size_eq s).symm
theorem bs_size (l : List UInt8) : (bs l).size = l.length := by rw [← lst_len, lst_bs]
def vow (c : UInt8) : Bool := c == 97 || c == 101 || c == 105 || c == 111 || c == 117 || c == 121
def hasV (l : List UInt8) : Bool := l.any vow
def ends (l e : List UInt8) : Bool := Lib.hasSuffix l e
def cutB (l : List UInt8) (n : Nat) : List UInt8 := l.take (l.length - n)
def lastB (l : List UInt8) (n : Nat) : UInt8 := l.getD (l.length - n) 0
def stem1 (l : List UInt8) : List UInt8 :=
  if ends l [115, 115, 101, 115] then cutB l 2
  else if ends l [105, 101, 115] then (if 5 ≤ l.length then cutB l 3 ++ [121] else l)
  else if ends l [115] && !ends l [115, 115] && !ends l [117, 115] && !ends l [105, 115] && decide (4 ≤ l.length) then cutB l 1 else l
def alike (l : List UInt8) : Bool := decide (2 ≤ l.length) && lastB l 1 == lastB l 2 && !vow (lastB l 1) && lastB l 1 != 108 && lastB l 1 != 115 && lastB l 1 != 122
def mend (l : List UInt8) : List UInt8 :=
  if alike l then cutB l 1 else if ends l [97, 116] || ends l [98, 108] || ends l [105, 122] then l ++ [101] else l
def stem2 (l : List UInt8) : List UInt8 :=
  if ends l [105, 110, 103] && decide (6 ≤ l.length) && hasV (cutB l 3) then mend (cutB l 3)
  else if ends l [101, 100] && decide (5 ≤ l.length) && hasV (cutB l 2) then mend (cutB l 2) else l
def stem3 (l : List UInt8) : List UInt8 := if ends l [108, 121] && decide (5 ≤ l.length) then cutB l 2 else l
def stem4 (l : List UInt8) : List UInt8 := if ends l [121] && decide (3 ≤ l.length) && !vow (lastB l 2) then cutB l 1 ++ [105] else l
def small (c : UInt8) : Bool := decide (97 ≤ c.toNat ∧ c.toNat ≤ 122)
def stemW (l : List UInt8) : List UInt8 :=
  if 65536 < l.length then [] else if l.length < 3 ∨ 64 < l.length then l else if l.all small = true then stem4 (stem3 (stem2 (stem1 l))) else l
theorem ends_len {l e : List UInt8} (h : ends l e = true) : e.length ≤ l.length := by
  have : e <:+ l := List.isSuffixOf_iff_suffix.1 h
  exact this.length_le
theorem ends_split {l e : List UInt8} (h : ends l e = true) : l = cutB l e.length ++ e := by
  obtain ⟨t, rfl⟩ := List.isSuffixOf_iff_suffix.1 h
  simp [cutB]
theorem cutB_len (l : List UInt8) (n : Nat) : (cutB l n).length = l.length - n := by simp [cutB]
theorem ends_append (t e : List UInt8) : ends (t ++ e) e = true := List.isSuffixOf_iff_suffix.2 ⟨t, rfl⟩
theorem cutB_append (t e : List UInt8) : cutB (t ++ e) e.length = t := by simp [cutB]
theorem stem1_le (l : List UInt8) : (stem1 l).length ≤ l.length := by
  unfold stem1
  split
  · rw [cutB_len]; omega
  · split
    · split
      · rw [List.length_append, cutB_len]; simp; omega
      · exact Nat.le_refl _
    · split
      · rw [cutB_len]; omega
      · exact Nat.le_refl _
theorem mend_le (l : List UInt8) : (mend l).length ≤ l.length + 1 := by
  unfold mend
  split
  · rw [cutB_len]; omega
  · split
    · simp
    · omega
theorem stem2_le (l : List UInt8) : (stem2 l).length ≤ l.length := by
  unfold stem2
  split
  · rename_i h
    simp only [Bool.and_eq_true, decide_eq_true_eq] at h
    have := mend_le (cutB l 3)
    rw [cutB_len] at this; omega
  · split
    · rename_i h
      simp only [Bool.and_eq_true, decide_eq_true_eq] at h
      have := mend_le (cutB l 2)
      rw [cutB_len] at this; omega
    · exact Nat.le_refl _
theorem stem3_le (l : List UInt8) : (stem3 l).length ≤ l.length := by
  unfold stem3
  split
  · rw [cutB_len]; omega
  · exact Nat.le_refl _
theorem stem4_le (l : List UInt8) : (stem4 l).length ≤ l.length := by
  unfold stem4
  split
  · rename_i h
    simp only [Bool.and_eq_true, decide_eq_true_eq] at h
    rw [List.length_append, cutB_len]; simp; omega
  · exact Nat.le_refl _
end Go.Proofs.YtgoklapafidpkaaGreatDoor

namespace Go.Proofs.YtgoklapafidpkaaGreatDoor
open Go
set_option linter.unusedVariables false

/-- The grams that stand at the head of t: of n characters, of n + 1, .. (f sizes). -/
def gAt (t : List Int) : Nat → Nat → List (List UInt8)
  | _, 0 => []
  | n, f + 1 => if n ≤ t.length then encs (t.take n) :: gAt t (n + 1) f else []
def gAll (lo f : Nat) : List Int → List (List UInt8)
  | [] => []
  | r :: t => gAt (r :: t) lo f ++ gAll lo f t
def cntG (len : Nat) : Nat → Nat → Nat
  | _, 0 => 0
  | n, f + 1 => (len + 1 - n) + cntG len (n + 1) f
theorem gAt_none (t : List Int) (n f : Nat) (h : t.length < n) : gAt t n f = [] := by
  cases f with
  | zero => rfl
  | succ f => rw [gAt, if_neg (by omega)]
theorem gAt_step (t : List Int) (n f : Nat) (h : n ≤ t.length) : gAt t n (f + 1) = encs (t.take n) :: gAt t (n + 1) f := by rw [gAt, if_pos h]
theorem cntG_big (len : Nat) : ∀ n f, len < n → cntG len n f = 0
  | _, 0, _ => rfl
  | n, f + 1, h => by rw [cntG, cntG_big len (n + 1) f (by omega)]; omega
theorem cntG_succ (t : List Int) : ∀ (f n : Nat), 1 ≤ n → cntG t.length n f = cntG (t.length - 1) n f + (gAt t n f).length ∨ t.length = 0
  | 0, n, _ => Or.inl rfl
  | f + 1, n, hn => by
    by_cases h0 : t.length = 0
    · exact Or.inr h0
    · refine Or.inl ?_
      rcases cntG_succ t f (n + 1) (by omega) with ih | ih
      · rw [cntG, cntG, ih]
        by_cases h : n ≤ t.length
        · rw [gAt_step t n f h, List.length_cons]; omega
        · rw [gAt_none t n (f + 1) (by omega), gAt_none t (n + 1) f (by omega)]
          simp only [List.length_nil]
          omega
      · exact absurd ih h0
theorem gAll_len (lo f : Nat) (hlo : 1 ≤ lo) : ∀ l : List Int, (gAll lo f l).length = cntG l.length lo f
  | [] => by
    rw [gAll, List.length_nil]
    cases f with
    | zero => rfl
    | succ f => rw [cntG, cntG_big _ _ _ (by simp only [List.length_nil]; omega)]; simp only [List.length_nil]; omega
  | r :: t => by
    rw [gAll, List.length_append, gAll_len lo f hlo t]
    rcases cntG_succ (r :: t) f lo hlo with h | h
    · rw [h]; simp only [List.length_cons, Nat.add_sub_cancel]; omega
    · simp at h
theorem gAll_drop (lo f : Nat) (l : List Int) (k : Nat) (h : k < l.length) : gAll lo f (l.drop k) = gAt (l.drop k) lo f ++ gAll lo f (l.drop (k + 1)) := by
  rw [List.drop_eq_getElem_cons h, gAll]
theorem gAll_end (lo f : Nat) (l : List Int) (k : Nat) (h : ¬ k < l.length) : gAll lo f (l.drop k) = [] := by
  rw [List.drop_of_length_le (by omega), gAll]
def gOK (lo hi : Int) : Bool := decide (1 ≤ lo ∧ lo ≤ hi ∧ hi ≤ 8)
def gFull (s : ByteArray) (lo hi : Int) : List (List UInt8) := gAll lo.toNat (hi + 1 - lo).toNat (decList s)
def gCode (s : ByteArray) (lo hi : Int) : Int :=
  if decCode s = 0 then (if gOK lo hi = true then (if (gFull s lo hi).length ≤ 4096 then 0 else 11) else 1) else decCode s
def gList (s : ByteArray) (lo hi : Int) : List (List UInt8) := if gCode s lo hi = 0 then gFull s lo hi else []
theorem runeCount_len (s : ByteArray) : Lib.runeCount s = (runes s).length := by
  have key : ∀ f p, Lib.runeCountFrom s f p = (runesFrom s f p).length := by
    intro f
    induction f with
    | zero => intro p; rfl
    | succ f ih =>
      intro p
      by_cases h : p < s.size
      · rw [Lib.runeCountFrom, if_pos h, runesFrom_step s f p h, List.length_cons, ih]; omega
      · rw [Lib.runeCountFrom, if_neg h, runesFrom_end s _ p h]; rfl
  exact key _ _
theorem ext_bytes (s : ByteArray) (p : Nat) (h : p ≤ s.size) : (s.extract p s.size).data.toList = s.data.toList.drop p := by
  rw [Lib.extract_to_end]
theorem ext_decode (s : ByteArray) (p t : Nat) (h : p ≤ s.size) : Utf8.decode (s.extract p s.size) t = Utf8.decode s (p + t) := by
  rw [← Lib.decodeL_drop, ← Lib.decodeL_drop, ext_bytes s p h, List.drop_drop]
theorem ext_size (s : ByteArray) (p : Nat) (h : p ≤ s.size) : (s.extract p s.size).size = s.size - p := by
  rw [← data_len, ext_bytes s p h, List.length_drop, data_len]
theorem ext_valid (s : ByteArray) (p : Nat) (h : p ≤ s.size) : validB (s.extract p s.size) = vFrom s p := by
  rw [validB, vFrom, ext_bytes s p h]
theorem ext_runes (s : ByteArray) (p : Nat) (h : p ≤ s.size) : runes (s.extract p s.size) = Rs s p := by
  have key : ∀ f q, runesFrom (s.extract p s.size) f q = runesFrom s f (p + q) := by
    intro f
    induction f with
    | zero => intro q; rfl
    | succ f ih =>
      intro q
      by_cases hq : q < (s.extract p s.size).size
      · have hq2 : p + q < s.size := by rw [ext_size s p h] at hq; omega
        rw [runesFrom_step _ f q hq, runesFrom_step s f _ hq2, ih, ext_decode s p q h, Nat.add_assoc]
      · have hq2 : ¬ p + q < s.size := by rw [ext_size s p h] at hq; omega
        rw [runesFrom_end _ _ _ hq, runesFrom_end _ _ _ hq2]
  rw [runes, key, Nat.add_zero, ext_size s p h, Rs]
  exact runesFrom_fuel s _ _ _ (by omega) (by omega)
theorem head_cut (t : ByteArray) (k : Nat) (hv : validB t = true) : t.extract 0 (blen ((runes t).take k)) = bs (encs ((runes t).take k)) := by
  have hv0 : vFrom t 0 = true := by rw [vFrom_zero]; exact hv
  have h1 := Rs_take_bytes t k 0 hv0
  rw [Rs_zero, List.drop_zero] at h1
  rw [Lib.extract_eq, bs, h1]
  simp
theorem at_runes (t : ByteArray) (k : Nat) (hv : validB t = true) : Rs t (blen ((runes t).take k)) = (runes t).drop k ∧ vFrom t (blen ((runes t).take k)) = true := by
  have := Rs_drop t k 0 (by rw [vFrom_zero]; exact hv)
  rwa [Nat.zero_add, Rs_zero] at this
theorem at_lt (t : ByteArray) (k : Nat) (hv : validB t = true) : k < (runes t).length ↔ blen ((runes t).take k) < t.size := by
  have h := at_runes t k hv
  constructor
  · intro hk
    by_cases hp : blen ((runes t).take k) < t.size
    · exact hp
    · rw [Rs_end t _ hp] at h
      have := congrArg List.length h.1
      rw [List.length_drop] at this
      simp at this
      omega
  · intro hp
    by_cases hk : k < (runes t).length
    · exact hk
    · rw [List.drop_of_length_le (by omega), Rs_step t _ hp] at h
      cases h.1
theorem at_step (t : ByteArray) (k : Nat) (hv : validB t = true) (hp : blen ((runes t).take k) < t.size) :
    ((Utf8.decode t (blen ((runes t).take k))).1 : Int) = (runes t).getD k 0 ∧ blen ((runes t).take (k + 1)) = blen ((runes t).take k) + (Utf8.decode t (blen ((runes t).take k))).2 ∧ chr ((runes t).getD k 0) = true := by
  have h := at_runes t k hv
  have hk := (at_lt t k hv).2 hp
  have hg := good_of t _ hp h.2
  have e : (runes t).drop k = (runes t).getD k 0 :: (runes t).drop (k + 1) := by rw [List.drop_eq_getElem_cons hk]; simp [hk]
  rw [Rs_step t _ hp, e] at h
  have h1 := (List.cons.inj h.1).1
  refine ⟨h1, ?_, ?_⟩
  · rw [take_snoc _ k hk, blen_append, ← h1, blen_cons, rune_width t _ hp hg, blen_nil]
    rfl
  · rw [← h1]; exact rune_chr t _ hg
end Go.Proofs.YtgoklapafidpkaaGreatDoor

namespace Go.Proofs.YtgoklapafidpkaaGreatDoor
open Go
set_option linter.unusedVariables false

/-- Texts that may stand in an analyser. -/
def tOK (t : List UInt8) : Bool := decide (1 ≤ t.length) && decide (t.length ≤ 64) && validB (bs t)
def yOK (y : List UInt8 × List UInt8) : Bool := tOK y.1 && tOK y.2 && !(y.1 == y.2)
def rOK (lo hi : Int) : Bool := (decide (lo = 0) && decide (hi = 0)) || gOK lo hi
def tsOK (l : List (List UInt8)) : Bool := l.all tOK
def ysOK (l : List (List UInt8 × List UInt8)) : Bool := l.all yOK
def azOK (stops : List (List UInt8)) (syns : List (List UInt8 × List UInt8)) (lo hi : Int) : Bool :=
  decide (stops.length ≤ 64) && decide (syns.length ≤ 64) && tsOK stops && ysOK syns && rOK lo hi
theorem tsOK_snoc (l : List (List UInt8)) (k : Nat) (h : k < l.length) : tsOK (l.take (k + 1)) = (tsOK (l.take k) && tOK (l.getD k [])) := by
  rw [tsOK, List.take_succ_eq_append_getElem h, List.all_append, List.getD_eq_getElem?_getD, List.getElem?_eq_getElem h]
  simp only [List.all_cons, List.all_nil, Bool.and_true, Option.getD_some]
  rfl
theorem ysOK_snoc (l : List (List UInt8 × List UInt8)) (k : Nat) (h : k < l.length) : ysOK (l.take (k + 1)) = (ysOK (l.take k) && yOK (l.getD k ([], []))) := by
  rw [ysOK, List.take_succ_eq_append_getElem h, List.all_append, List.getD_eq_getElem?_getD, List.getElem?_eq_getElem h]
  simp only [List.all_cons, List.all_nil, Bool.and_true, Option.getD_some]
  rfl
theorem tsOK_no {l : List (List UInt8)} {k : Nat} (h : k < l.length) (hn : tOK (l.getD k []) = false) : tsOK l = false := by
  rw [tsOK, List.all_eq_false]
  refine ⟨l.getD k [], ?_, by rw [hn]; simp⟩
  rw [List.getD_eq_getElem?_getD, List.getElem?_eq_getElem h, Option.getD_some]
  exact List.getElem_mem _
theorem ysOK_no {l : List (List UInt8 × List UInt8)} {k : Nat} (h : k < l.length) (hn : yOK (l.getD k ([], [])) = false) : ysOK l = false := by
  rw [ysOK, List.all_eq_false]
  refine ⟨l.getD k ([], []), ?_, by rw [hn]; simp⟩
  rw [List.getD_eq_getElem?_getD, List.getElem?_eq_getElem h, Option.getD_some]
  exact List.getElem_mem _
theorem all_full {α : Type} (l : List α) (k : Nat) (h : ¬ k < l.length) : l.take k = l := List.take_of_length_le (by omega)
end Go.Proofs.YtgoklapafidpkaaGreatDoor

namespace Go.Proofs.YtgoklapafidpkaaGreatDoor
open Go
set_option linter.unusedVariables false

/-- A field of a schema, in plain words. -/
structure Fd where
  name : List UInt8
  kind : Int
  bf : Bool
  bsm : Bool
  bp : Bool
  stops : List (List UInt8)
  syns : List (List UInt8 × List UInt8)
  lo : Int
  hi : Int
def fd0 : Fd := ⟨[], 0, false, false, false, [], [], 0, 0⟩
def smallC (c : UInt8) : Bool := decide (97 ≤ (c.toNat : Int)) && decide ((c.toNat : Int) ≤ 122)
def digC (c : UInt8) : Bool := decide (48 ≤ (c.toNat : Int)) && decide ((c.toNat : Int) ≤ 57)
def nmC (c : UInt8) : Bool := smallC c || digC c || decide ((c.toNat : Int) = 95)
def nmOK (n : List UInt8) : Bool := decide (1 ≤ n.length) && decide (n.length ≤ 30) && smallC (n.getD 0 0) && n.all nmC
def zrOK (f : Fd) : Bool := !f.bf && !f.bsm && !f.bp && decide (f.stops.length + f.syns.length = 0) && decide (f.lo = 0) && decide (f.hi = 0)
def leT (x y : List UInt8) : Bool := Op.bytesLess x y || x == y
def fdOK (f : Fd) : Bool := nmOK f.name && (if f.kind = 1 then azOK f.stops f.syns f.lo f.hi else if f.kind = 2 ∨ f.kind = 3 then zrOK f else false)
def scAt (l : List Fd) (i : Nat) : Bool := fdOK (l.getD i fd0) && !(decide (0 < i) && leT (l.getD i fd0).name (l.getD (i - 1) fd0).name)
def scOK (l : List Fd) : Bool := decide (1 ≤ l.length) && decide (l.length ≤ 16) && (List.range l.length).all (scAt l)
theorem zr_az (f : Fd) (h : zrOK f = true) : azOK f.stops f.syns f.lo f.hi = true := by
  simp only [zrOK, Bool.and_eq_true, decide_eq_true_eq] at h
  obtain ⟨⟨⟨_, h1⟩, h2⟩, h3⟩ := h
  have e1 : f.stops = [] := List.length_eq_zero_iff.1 (by omega)
  have e2 : f.syns = [] := List.length_eq_zero_iff.1 (by omega)
  rw [e1, e2, h2, h3]
  rfl
/-- As the document's own words have it. -/
theorem fdOK_eq (f : Fd) : fdOK f = (nmOK f.name && decide (1 ≤ f.kind) && decide (f.kind ≤ 3) && azOK f.stops f.syns f.lo f.hi && (decide (f.kind = 1) || zrOK f)) := by
  unfold fdOK
  by_cases h1 : f.kind = 1
  · rw [if_pos h1, decide_eq_true h1, decide_eq_true (p := 1 ≤ f.kind) (by omega), decide_eq_true (p := f.kind ≤ 3) (by omega)]; simp
  · rw [if_neg h1, decide_eq_false h1]
    by_cases h2 : f.kind = 2 ∨ f.kind = 3
    · rw [if_pos h2, decide_eq_true (p := 1 ≤ f.kind) (by omega), decide_eq_true (p := f.kind ≤ 3) (by omega)]
      cases hz : zrOK f with
      | true => rw [zr_az f hz]; simp
      | false => simp
    · rw [if_neg h2]
      by_cases h3 : 1 ≤ f.kind
      · rw [decide_eq_false (p := f.kind ≤ 3) (by omega)]; simp
      · rw [decide_eq_false h3]; simp
theorem all_range_take (p : Nat → Bool) (n k : Nat) (h : (List.range k).all p = true) (hp : p k = true) : (List.range (k + 1)).all p = true := by
  rw [List.range_succ, List.all_append, h]; simpa using hp
theorem scOK_no {l : List Fd} {k : Nat} (hk : k < l.length) (h : scAt l k = false) : scOK l = false := by
  unfold scOK
  have : (List.range l.length).all (scAt l) = false := by
    rw [List.all_eq_false]
    exact ⟨k, List.mem_range.2 hk, by simp [h]⟩
  rw [this]; simp
theorem scOK_len {l : List Fd} (h : l.length < 1 ∨ 16 < l.length) : scOK l = false := by
  unfold scOK
  rcases h with h | h
  · rw [decide_eq_false (p := 1 ≤ l.length) (by omega)]; simp
  · rw [decide_eq_false (p := l.length ≤ 16) (by omega)]; simp
theorem scOK_yes {l : List Fd} (h1 : 1 ≤ l.length) (h2 : l.length ≤ 16) (h : (List.range l.length).all (scAt l) = true) : scOK l = true := by
  unfold scOK
  rw [decide_eq_true h1, decide_eq_true h2, h]; rfl
theorem nmOK_no {n : List UInt8} {k : Nat} (hk : k < n.length) (h : nmC (n.getD k 0) = false) : nmOK n = false := by
  unfold nmOK
  have : n.all nmC = false := by
    rw [List.all_eq_false]
    refine ⟨n.getD k 0, ?_, by rw [h]; simp⟩
    rw [List.getD_eq_getElem?_getD, List.getElem?_eq_getElem hk, Option.getD_some]
    exact List.getElem_mem _
  rw [this]; simp
end Go.Proofs.YtgoklapafidpkaaGreatDoor
