import Derived.Test.YteedakkclppipajDoorPhoneQ
import Derived.Test.YteedakkclppipajDoorRunes
namespace Go.Proofs.YteedakkclppipajDoor
open Go

theorem dec_none (s : ByteArray) (h : ¬ decCode s = 0) : decList s = [] := by
  unfold decCode at h
  unfold decList decL
  by_cases h1 : 65536 < s.size
  · rw [if_pos h1]
  · rw [if_neg h1] at h ⊢
    by_cases h2 : validB s = true
    · rw [if_pos h2] at h; exact absurd rfl h
    · rw [if_neg h2]
theorem dec_some (s : ByteArray) (h : decCode s = 0) : decList s = runes s ∧ s.size ≤ 65536 := by
  unfold decCode at h
  unfold decList decL
  by_cases h1 : 65536 < s.size
  · rw [if_pos h1] at h; omega
  · rw [if_neg h1] at h ⊢
    by_cases h2 : validB s = true
    · rw [if_pos h2]; exact ⟨rfl, by omega⟩
    · rw [if_neg h2] at h; omega

def pstep (st : List UInt8 × Int) (r : Int) : List UInt8 × Int :=
  if r < 97 ∨ 122 < r then st
  else if st.1 = [] then ([UInt8.ofNat r.toNat], sdig r)
  else if r = 104 ∨ r = 119 then st
  else if sdig r ≠ 0 ∧ sdig r ≠ st.2 then (st.1 ++ [UInt8.ofNat (48 + sdig r).toNat], sdig r)
  else (st.1, sdig r)
def pst (l : List Int) : List UInt8 × Int := l.foldl (fun st r => pstep st (foldZ r)) ([], 0)
def phoneL (l : List Int) : List UInt8 := if (pst l).1 = [] then [] else ((pst l).1 ++ [48, 48, 48]).take 4
theorem pst_nil : pst [] = ([], 0) := rfl
theorem pst_snoc (l : List Int) (r : Int) : pst (l ++ [r]) = pstep (pst l) (foldZ r) := by
  unfold pst
  rw [List.foldl_append]
  rfl
theorem pstep_len (st : List UInt8 × Int) (r : Int) : (pstep st r).1.length ≤ st.1.length + 1 := by
  unfold pstep
  repeat' split
  all_goals simp
theorem pst_len (l : List Int) : (pst l).1.length ≤ l.length := by
  have key : ∀ (l : List Int) (st : List UInt8 × Int), (l.foldl (fun st r => pstep st (foldZ r)) st).1.length ≤ st.1.length + l.length := by
    intro l
    induction l with
    | nil => intro st; simp
    | cons a t ih =>
      intro st
      have h1 := ih (pstep st (foldZ a))
      have h2 := pstep_len st (foldZ a)
      simp only [List.foldl_cons, List.length_cons] at *
      omega
  have := key l ([], 0)
  simpa [pst] using this
theorem pstep_last (st : List UInt8 × Int) (r : Int) (h : 0 ≤ st.2 ∧ st.2 ≤ 6) : 0 ≤ (pstep st r).2 ∧ (pstep st r).2 ≤ 6 := by
  have := sdig_bd r
  unfold pstep
  repeat' split
  all_goals (first | omega | (simp only; omega))
theorem pst_last (l : List Int) : 0 ≤ (pst l).2 ∧ (pst l).2 ≤ 6 := by
  have key : ∀ (l : List Int) (st : List UInt8 × Int), (0 ≤ st.2 ∧ st.2 ≤ 6) → 0 ≤ (l.foldl (fun st r => pstep st (foldZ r)) st).2 ∧ (l.foldl (fun st r => pstep st (foldZ r)) st).2 ≤ 6 := by
    intro l
    induction l with
    | nil => intro st h; exact h
    | cons a t ih => intro st h; exact ih _ (pstep_last st _ h)
  exact key l _ (by decide)
/-- The state as it stands: the sound so far, the digit of the letter that counted last. -/
def PAt (l : List Int) (k : Nat) (q : List UInt8) (d : Int) : Prop := pst (l.take k) = (q, d)
theorem PAt.zero (l : List Int) : PAt l 0 [] 0 := rfl
theorem PAt.step {l : List Int} {k : Nat} {q : List UInt8} {d : Int} (h : PAt l k q d) (hk : k < l.length) {q' : List UInt8} {d' : Int} (he : pstep (q, d) (foldZ (l.getD k 0)) = (q', d')) : PAt l (k + 1) q' d' := by
  unfold PAt at *
  rw [take_snoc l k hk, pst_snoc, h]
  exact he
theorem PAt.len {l : List Int} {k : Nat} {q : List UInt8} {d : Int} (h : PAt l k q d) : q.length ≤ k := by
  have := pst_len (l.take k)
  rw [h, List.length_take] at this
  simp only at this
  omega
theorem PAt.last {l : List Int} {k : Nat} {q : List UInt8} {d : Int} (h : PAt l k q d) : 0 ≤ d ∧ d ≤ 6 := by
  have := pst_last (l.take k)
  rw [h] at this
  exact this
theorem PAt.done {l : List Int} {k : Nat} {q : List UInt8} {d : Int} (h : PAt l k q d) (hk : ¬ k < l.length) : phoneL l = if q = [] then [] else (q ++ [48, 48, 48]).take 4 := by
  unfold PAt at h
  rw [List.take_of_length_le (by omega)] at h
  rw [phoneL, h]
theorem ps_out (q : List UInt8) (d r : Int) (h : r < 97 ∨ 122 < r) : pstep (q, d) r = (q, d) := by rw [pstep, if_pos h]
theorem ps_first (d r : Int) (h1 : 97 ≤ r) (h2 : r ≤ 122) : pstep ([], d) r = ([UInt8.ofNat r.toNat], sdig r) := by rw [pstep, if_neg (by omega), if_pos rfl]
theorem ps_mute (q : List UInt8) (d r : Int) (h1 : 97 ≤ r) (h2 : r ≤ 122) (hq : q ≠ []) (h : r = 104 ∨ r = 119) : pstep (q, d) r = (q, d) := by rw [pstep, if_neg (by omega), if_neg hq, if_pos h]
theorem ps_new (q : List UInt8) (d r : Int) (h1 : 97 ≤ r) (h2 : r ≤ 122) (hq : q ≠ []) (h : ¬ (r = 104 ∨ r = 119)) (hn : sdig r ≠ 0) (hd : sdig r ≠ d) : pstep (q, d) r = (q ++ [UInt8.ofNat (48 + sdig r).toNat], sdig r) := by
  rw [pstep, if_neg (by omega), if_neg hq, if_neg h, if_pos ⟨hn, hd⟩]
theorem ps_same (q : List UInt8) (d r : Int) (h1 : 97 ≤ r) (h2 : r ≤ 122) (hq : q ≠ []) (h : ¬ (r = 104 ∨ r = 119)) (hn : sdig r = 0 ∨ sdig r = d) : pstep (q, d) r = (q, sdig r) := by
  rw [pstep, if_neg (by omega), if_neg hq, if_neg h, if_neg (by simp only; omega)]
theorem byte_back (r : Int) (h0 : 0 ≤ r) (h1 : r ≤ 255) : ((UInt8.ofNat r.toNat).toNat : Int) = r := by
  rw [UInt8.toNat_ofNat']
  omega
theorem drop_cons {l : List Int} {k : Nat} {a : Int} {t : List Int} (h : l.drop k = a :: t) : l.drop (k + 1) = t ∧ k < l.length ∧ l.getD k 0 = a := by
  have hk : k < l.length := by
    by_cases hk : k < l.length
    · exact hk
    · rw [List.drop_of_length_le (by omega)] at h; cases h
  rw [List.drop_eq_getElem_cons hk] at h
  injection h with h1 h2
  exact ⟨h2, hk, by simp [hk, h1]⟩
end Go.Proofs.YteedakkclppipajDoor
