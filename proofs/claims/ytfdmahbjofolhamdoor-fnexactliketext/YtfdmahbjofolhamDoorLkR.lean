import Derived.Test.YtfdmahbjofolhamDoorLkQ
namespace Go.Proofs.YtfdmahbjofolhamDoor
open Go

/-! A star that takes more and more, in plain words. -/
def LkRel (P T : List Int) (star mark : Int) (i k : Nat) : Prop :=
  i ≤ T.length ∧ k ≤ P.length ∧
  ((star = -1 ∧ mark = 0 ∧ fit P T = fit (P.drop k) (T.drop i)) ∨
   (∃ (S M : Nat) (s : List Int), star = (S : Int) ∧ mark = (M : Int) ∧ noStar s ∧ P.drop S = -2 :: (s ++ P.drop k) ∧ S + 1 + s.length = k ∧ M + s.length = i ∧ seg s (T.drop M) = true ∧ fit P T = fit (P.drop S) (T.drop M)))
theorem LkRel.start (P T : List Int) : LkRel P T (-1) 0 0 0 := ⟨Nat.zero_le _, Nat.zero_le _, Or.inl ⟨rfl, rfl, by simp⟩⟩
theorem dropZ (l : List Int) (i : Nat) (h : i < l.length) : l.drop i = l.getD i 0 :: l.drop (i + 1) := by
  rw [List.drop_eq_getElem_cons h]; simp [h]
theorem LkRel.marks {P T : List Int} {star mark : Int} {i k : Nat} (h : LkRel P T star mark i k) : -1 ≤ star ∧ star < P.length + 1 ∧ 0 ≤ mark ∧ mark ≤ (i : Int) := by
  obtain ⟨h1, h2, ⟨rfl, rfl, _⟩ | ⟨S, M, s, rfl, rfl, _, _, h3, h4, _⟩⟩ := h <;> omega
theorem LkRel.star {P T : List Int} {star mark : Int} {i k : Nat} (h : LkRel P T star mark i k) (hk : k < P.length) (hx : P.getD k 0 = -2) : LkRel P T (k : Int) (i : Int) i (k + 1) := by
  have hd := dropZ P k hk
  rw [hx] at hd
  refine ⟨h.1, by omega, Or.inr ⟨k, i, [], rfl, rfl, (fun x hx => by simp at hx), hd, by simp, by simp, rfl, ?_⟩⟩
  obtain ⟨h1, h2, ⟨_, _, h3⟩ | ⟨S, M, s, _, _, hs, h3, h4, h5, h6, h7⟩⟩ := h
  · exact h3
  · rw [h7, h3, hd, fit_least hs h6, List.drop_drop, h5]
theorem LkRel.char {P T : List Int} {star mark : Int} {i k : Nat} (h : LkRel P T star mark i k) (hk : k < P.length) (hi : i < T.length) (hx : P.getD k 0 ≠ -2) (ho : one (P.getD k 0) (T.getD i 0) = true) : LkRel P T star mark (i + 1) (k + 1) := by
  have hd := dropZ P k hk
  have ht := dropZ T i hi
  refine ⟨by omega, by omega, ?_⟩
  obtain ⟨h1, h2, ⟨e1, e2, h3⟩ | ⟨S, M, s, e1, e2, hs, h3, h4, h5, h6, h7⟩⟩ := h
  · refine Or.inl ⟨e1, e2, ?_⟩
    rw [h3, hd, ht, fit_one_cons hx, ho, Bool.true_and]
  · refine Or.inr ⟨S, M, s ++ [P.getD k 0], e1, e2, ?_, ?_, by simp; omega, by simp; omega, ?_, h7⟩
    · intro y hy
      rcases List.mem_append.1 hy with hy | hy
      · exact hs y hy
      · simp only [List.mem_singleton] at hy
        rw [hy]; exact hx
    · rw [h3, hd]; simp
    · rw [seg_snoc, h6, List.drop_drop, h5, ht, Bool.true_and]
      exact ho
def misses (P T : List Int) (i k : Nat) : Prop := k < P.length → P.getD k 0 ≠ -2 ∧ one (P.getD k 0) (T.getD i 0) = false
theorem misses.fit {P T : List Int} {i k : Nat} (h : misses P T i k) (hi : i < T.length) : fit (P.drop k) (T.drop i) = false := by
  have ht := dropZ T i hi
  by_cases hk : k < P.length
  · rw [dropZ P k hk, ht, fit_one_cons (h hk).1, (h hk).2]; rfl
  · rw [List.drop_eq_nil_iff.2 (by omega), fit_nil, ht]; rfl
theorem LkRel.back {P T : List Int} {mark : Int} {S i k : Nat} (h : LkRel P T (S : Int) mark i k) (hi : i < T.length) (hm : misses P T i k) : ∃ M : Nat, mark = (M : Int) ∧ M ≤ i ∧ S + 1 ≤ k ∧ LkRel P T (S : Int) ((M + 1 : Nat) : Int) (M + 1) (S + 1) := by
  have hf := hm.fit hi
  obtain ⟨h1, h2, ⟨e1, e2, h3⟩ | ⟨S', M, s, e1, e2, hs, h3, h4, h5, h6, h7⟩⟩ := h
  · omega
  · obtain rfl : S = S' := by omega
    have hS : S < P.length := by omega
    have hM : M < T.length := by omega
    have hd1 : P.drop S = -2 :: P.drop (S + 1) := by
      have := dropZ P S hS
      rw [this] at h3
      rw [this]
      have := (List.cons.inj h3).1
      rw [this]
    refine ⟨M, e2, by omega, by omega, by omega, by omega, Or.inr ⟨S, M + 1, [], rfl, rfl, (fun x hx => by simp at hx), hd1, by simp, by simp, rfl, ?_⟩⟩
    have hsplit : fit (s ++ P.drop k) (T.drop M) = false := by rw [fit_seg s _ _ hs, List.drop_drop, h5, hf, Bool.and_false]
    rw [h7, h3, dropZ T M hM, fit_star_cons, ← dropZ T M hM, hsplit, Bool.false_or]
theorem LkRel.fail {P T : List Int} {mark : Int} {i k : Nat} (h : LkRel P T (-1) mark i k) (hi : i < T.length) (hm : misses P T i k) : fit P T = false := by
  obtain ⟨h1, h2, ⟨e1, e2, h3⟩ | ⟨S', M, s, e1, _⟩⟩ := h
  · rw [h3, hm.fit hi]
  · omega
theorem LkRel.done {P T : List Int} {star mark : Int} {k : Nat} (h : LkRel P T star mark T.length k) : fit P T = fit (P.drop k) [] := by
  obtain ⟨h1, h2, ⟨e1, e2, h3⟩ | ⟨S, M, s, e1, e2, hs, h3, h4, h5, h6, h7⟩⟩ := h
  · rw [h3, List.drop_length]
  · rw [h7, h3, fit_last hs h6 (by rw [List.length_drop]; omega)]
def lkMeas (P T : List Int) (mark k : Nat) : Nat := (T.length - mark) * (P.length + 1) + (P.length - k)
theorem lkMeas_step {P T : List Int} {m m' k : Nat} (h : m ≤ m') (hk : k < P.length) : lkMeas P T m' (k + 1) < lkMeas P T m k := by
  unfold lkMeas
  have := Nat.mul_le_mul_right (P.length + 1) (show T.length - m' ≤ T.length - m by omega)
  omega
theorem lkMeas_back {P T : List Int} {m k k' : Nat} (h : m < T.length) : lkMeas P T (m + 1) k' < lkMeas P T m k := by
  unfold lkMeas
  obtain ⟨a, ha⟩ : ∃ a, T.length - m = a + 1 := ⟨T.length - m - 1, by omega⟩
  rw [ha, show T.length - (m + 1) = a from by omega, Nat.succ_mul]
  omega
end Go.Proofs.YtfdmahbjofolhamDoor
