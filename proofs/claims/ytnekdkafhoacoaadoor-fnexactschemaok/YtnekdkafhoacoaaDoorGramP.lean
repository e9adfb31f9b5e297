import Derived.Test.YtnekdkafhoacoaaDoorWords
import Derived.Test.YtnekdkafhoacoaaDoorStemP
import Derived.Lib.RuneCount
import Derived.Lib.IndexBytes
namespace Go.Proofs.YtnekdkafhoacoaaDoor
open Go
set_option linter.unusedVariables false

/-- The grams that stand at the head of t: of n characters, of n + 1, .. (f sizes). -/
def gAt (t : List Int) : Nat → Nat → List (List UInt8)
  | _, 0 => []
  | n, f + 1 => if n ≤ t.length then encs (t.take n) :: gAt t (n + 1) f else []
def gAll (lo f : Nat) : List Int → List (List UInt8)
  | [] => []
  | r :: t => gAt (r :: t) lo f ++ gAll lo f t
def cntG (len : Nat) : Nat → Nat → Nat
  | _, 0 => 0
  | n, f + 1 => (len + 1 - n) + cntG len (n + 1) f
theorem gAt_none (t : List Int) (n f : Nat) (h : t.length < n) : gAt t n f = [] := by
  cases f with
  | zero => rfl
  | succ f => rw [gAt, if_neg (by omega)]
theorem gAt_step (t : List Int) (n f : Nat) (h : n ≤ t.length) : gAt t n (f + 1) = encs (t.take n) :: gAt t (n + 1) f := by rw [gAt, if_pos h]
theorem cntG_big (len : Nat) : ∀ n f, len < n → cntG len n f = 0
  | _, 0, _ => rfl
  | n, f + 1, h => by rw [cntG, cntG_big len (n + 1) f (by omega)]; omega
theorem cntG_succ (t : List Int) : ∀ (f n : Nat), 1 ≤ n → cntG t.length n f = cntG (t.length - 1) n f + (gAt t n f).length ∨ t.length = 0
  | 0, n, _ => Or.inl rfl
  | f + 1, n, hn => by
    by_cases h0 : t.length = 0
    · exact Or.inr h0
    · refine Or.inl ?_
      rcases cntG_succ t f (n + 1) (by omega) with ih | ih
      · rw [cntG, cntG, ih]
        by_cases h : n ≤ t.length
        · rw [gAt_step t n f h, List.length_cons]; omega
        · rw [gAt_none t n (f + 1) (by omega), gAt_none t (n + 1) f (by omega)]
          simp only [List.length_nil]
          omega
      · exact absurd ih h0
theorem gAll_len (lo f : Nat) (hlo : 1 ≤ lo) : ∀ l : List Int, (gAll lo f l).length = cntG l.length lo f
  | [] => by
    rw [gAll, List.length_nil]
    cases f with
    | zero => rfl
    | succ f => rw [cntG, cntG_big _ _ _ (by simp only [List.length_nil]; omega)]; simp only [List.length_nil]; omega
  | r :: t => by
    rw [gAll, List.length_append, gAll_len lo f hlo t]
    rcases cntG_succ (r :: t) f lo hlo with h | h
    · rw [h]; simp only [List.length_cons, Nat.add_sub_cancel]; omega
    · simp at h
theorem gAll_drop (lo f : Nat) (l : List Int) (k : Nat) (h : k < l.length) : gAll lo f (l.drop k) = gAt (l.drop k) lo f ++ gAll lo f (l.drop (k + 1)) := by
  rw [List.drop_eq_getElem_cons h, gAll]
theorem gAll_end (lo f : Nat) (l : List Int) (k : Nat) (h : ¬ k < l.length) : gAll lo f (l.drop k) = [] := by
  rw [List.drop_of_length_le (by omega), gAll]

def gOK (lo hi : Int) : Bool := decide (1 ≤ lo ∧ lo ≤ hi ∧ hi ≤ 8)
def gFull (s : ByteArray) (lo hi : Int) : List (List UInt8) := gAll lo.toNat (hi + 1 - lo).toNat (decList s)
def gCode (s : ByteArray) (lo hi : Int) : Int :=
  if decCode s = 0 then (if gOK lo hi = true then (if (gFull s lo hi).length ≤ 4096 then 0 else 11) else 1) else decCode s
def gList (s : ByteArray) (lo hi : Int) : List (List UInt8) := if gCode s lo hi = 0 then gFull s lo hi else []

theorem runeCount_len (s : ByteArray) : Lib.runeCount s = (runes s).length := by
  have key : ∀ f p, Lib.runeCountFrom s f p = (runesFrom s f p).length := by
    intro f
    induction f with
    | zero => intro p; rfl
    | succ f ih =>
      intro p
      by_cases h : p < s.size
      · rw [Lib.runeCountFrom, if_pos h, runesFrom_step s f p h, List.length_cons, ih]; omega
      · rw [Lib.runeCountFrom, if_neg h, runesFrom_end s _ p h]; rfl
  exact key _ _

theorem ext_bytes (s : ByteArray) (p : Nat) (h : p ≤ s.size) : (s.extract p s.size).data.toList = s.data.toList.drop p := by
  rw [Lib.extract_to_end]
theorem ext_decode (s : ByteArray) (p t : Nat) (h : p ≤ s.size) : Utf8.decode (s.extract p s.size) t = Utf8.decode s (p + t) := by
  rw [← Lib.decodeL_drop, ← Lib.decodeL_drop, ext_bytes s p h, List.drop_drop]
theorem ext_size (s : ByteArray) (p : Nat) (h : p ≤ s.size) : (s.extract p s.size).size = s.size - p := by
  rw [← data_len, ext_bytes s p h, List.length_drop, data_len]
theorem ext_valid (s : ByteArray) (p : Nat) (h : p ≤ s.size) : validB (s.extract p s.size) = vFrom s p := by
  rw [validB, vFrom, ext_bytes s p h]
theorem ext_runes (s : ByteArray) (p : Nat) (h : p ≤ s.size) : runes (s.extract p s.size) = Rs s p := by
  have key : ∀ f q, runesFrom (s.extract p s.size) f q = runesFrom s f (p + q) := by
    intro f
    induction f with
    | zero => intro q; rfl
    | succ f ih =>
      intro q
      by_cases hq : q < (s.extract p s.size).size
      · have hq2 : p + q < s.size := by rw [ext_size s p h] at hq; omega
        rw [runesFrom_step _ f q hq, runesFrom_step s f _ hq2, ih, ext_decode s p q h, Nat.add_assoc]
      · have hq2 : ¬ p + q < s.size := by rw [ext_size s p h] at hq; omega
        rw [runesFrom_end _ _ _ hq, runesFrom_end _ _ _ hq2]
  rw [runes, key, Nat.add_zero, ext_size s p h, Rs]
  exact runesFrom_fuel s _ _ _ (by omega) (by omega)
theorem head_cut (t : ByteArray) (k : Nat) (hv : validB t = true) : t.extract 0 (blen ((runes t).take k)) = bs (encs ((runes t).take k)) := by
  have hv0 : vFrom t 0 = true := by rw [vFrom_zero]; exact hv
  have h1 := Rs_take_bytes t k 0 hv0
  rw [Rs_zero, List.drop_zero] at h1
  rw [Lib.extract_eq, bs, h1]
  simp
theorem at_runes (t : ByteArray) (k : Nat) (hv : validB t = true) : Rs t (blen ((runes t).take k)) = (runes t).drop k ∧ vFrom t (blen ((runes t).take k)) = true := by
  have := Rs_drop t k 0 (by rw [vFrom_zero]; exact hv)
  rwa [Nat.zero_add, Rs_zero] at this
theorem at_lt (t : ByteArray) (k : Nat) (hv : validB t = true) : k < (runes t).length ↔ blen ((runes t).take k) < t.size := by
  have h := at_runes t k hv
  constructor
  · intro hk
    by_cases hp : blen ((runes t).take k) < t.size
    · exact hp
    · rw [Rs_end t _ hp] at h
      have := congrArg List.length h.1
      rw [List.length_drop] at this
      simp at this
      omega
  · intro hp
    by_cases hk : k < (runes t).length
    · exact hk
    · rw [List.drop_of_length_le (by omega), Rs_step t _ hp] at h
      cases h.1
theorem at_step (t : ByteArray) (k : Nat) (hv : validB t = true) (hp : blen ((runes t).take k) < t.size) :
    ((Utf8.decode t (blen ((runes t).take k))).1 : Int) = (runes t).getD k 0 ∧ blen ((runes t).take (k + 1)) = blen ((runes t).take k) + (Utf8.decode t (blen ((runes t).take k))).2 ∧ chr ((runes t).getD k 0) = true := by
  have h := at_runes t k hv
  have hk := (at_lt t k hv).2 hp
  have hg := good_of t _ hp h.2
  have e : (runes t).drop k = (runes t).getD k 0 :: (runes t).drop (k + 1) := by rw [List.drop_eq_getElem_cons hk]; simp [hk]
  rw [Rs_step t _ hp, e] at h
  have h1 := (List.cons.inj h.1).1
  refine ⟨h1, ?_, ?_⟩
  · rw [take_snoc _ k hk, blen_append, ← h1, blen_cons, rune_width t _ hp hg, blen_nil]
    rfl
  · rw [← h1]; exact rune_chr t _ hg
end Go.Proofs.YtnekdkafhoacoaaDoor
