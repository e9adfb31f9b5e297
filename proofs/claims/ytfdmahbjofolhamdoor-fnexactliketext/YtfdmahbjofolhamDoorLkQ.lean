import Derived.Test.YtfdmahbjofolhamDoorLkP
namespace Go.Proofs.YtfdmahbjofolhamDoor
open Go

/-! The parts of a pattern, in plain words. -/
def mapP (x : Int) : Int := if x = 42 then -2 else if x = 63 then -1 else x
def partsL : List Int → List Int
  | [] => []
  | [x] => [mapP x]
  | x :: c :: t => if x = 92 then c :: partsL t else mapP x :: partsL (c :: t)
termination_by l => l.length
theorem partsL_nil : partsL [] = [] := by rw [partsL]
theorem partsL_one (x : Int) : partsL [x] = [mapP x] := by rw [partsL]
theorem partsL_esc (c : Int) (t : List Int) : partsL (92 :: c :: t) = c :: partsL t := by rw [partsL]; simp
theorem partsL_cons {x : Int} {t : List Int} (h : x ≠ 92 ∨ t = []) : partsL (x :: t) = mapP x :: partsL t := by
  cases t with
  | nil => rw [partsL_one, partsL_nil]
  | cons c t =>
    rw [partsL, if_neg]
    intro e
    rcases h with h | h
    · exact h e
    · cases h
/-- What was taken by a backslash stands for itself. -/
def goP : Bool → List Int → List Int
  | false, [] => []
  | true, [] => [92]
  | true, c :: t => c :: goP false t
  | false, x :: t => if x = 92 then goP true t else mapP x :: goP false t
theorem goP_eq : ∀ (n : Nat) (l : List Int), l.length ≤ n → goP false l = partsL l
  | _, [], _ => by rw [partsL_nil]; rfl
  | 0, x :: t, h => by simp at h
  | n + 1, [x], h => by
    rw [partsL_one]
    by_cases e : x = 92
    · subst e; simp [goP, mapP]
    · simp [goP, e]
  | n + 1, x :: c :: t, h => by
    by_cases e : x = 92
    · subst e
      rw [partsL_esc]
      have := goP_eq n t (by simp at h; omega)
      simp [goP, this]
    · rw [partsL_cons (Or.inl e)]
      have := goP_eq n (c :: t) (by simp at h ⊢; omega)
      rw [← this]
      simp [goP, e]
theorem goP_parts (l : List Int) : goP false l = partsL l := goP_eq _ l (Nat.le_refl _)
theorem goP_len : ∀ (b : Bool) (l : List Int), (goP b l).length ≤ l.length + 1
  | false, [] => by simp [goP]
  | true, [] => by simp [goP]
  | true, c :: t => by have := goP_len false t; simp [goP]; omega
  | false, x :: t => by
    by_cases e : x = 92
    · have := goP_len true t; simp [goP, e]; omega
    · have := goP_len false t; simp [goP, e]; omega
theorem partsL_len (l : List Int) : (partsL l).length ≤ l.length := by
  have : ∀ (b : Bool) (l : List Int), (goP b l).length ≤ l.length + (if b then 1 else 0) := by
    intro b l
    induction l generalizing b with
    | nil => cases b <;> simp [goP]
    | cons x t ih =>
      cases b with
      | true => have := ih false; simp [goP] at this ⊢; omega
      | false =>
        by_cases e : x = 92
        · have := ih true; simp [goP, e] at this ⊢; omega
        · have := ih false; simp [goP, e] at this ⊢; omega
  have := this false l
  rw [goP_parts] at this
  simpa using this
/-- The coding of impl: -3 for any characters, -2 for one. -/
def pieceI (x : Int) : Int := if x = -2 then -3 else if x = -1 then -2 else x
def okP (x : Int) : Prop := x = -2 ∨ x = -1 ∨ 0 ≤ x ∧ x ≤ 1114111
theorem mapP_ok {x : Int} (h : 0 ≤ x ∧ x ≤ 1114111) : okP (mapP x) := by
  unfold mapP okP
  split
  · exact Or.inl rfl
  · split
    · exact Or.inr (Or.inl rfl)
    · exact Or.inr (Or.inr h)
theorem goP_ok : ∀ (b : Bool) (l : List Int), (∀ x ∈ l, 0 ≤ x ∧ x ≤ 1114111) → ∀ y ∈ goP b l, okP y
  | false, [], _, y, hy => by simp [goP] at hy
  | true, [], _, y, hy => by simp [goP] at hy; subst hy; exact Or.inr (Or.inr ⟨by omega, by omega⟩)
  | true, c :: t, h, y, hy => by
    simp only [goP, List.mem_cons] at hy
    rcases hy with rfl | hy
    · exact Or.inr (Or.inr (h y (by simp)))
    · exact goP_ok false t (fun x hx => h x (by simp [hx])) y hy
  | false, x :: t, h, y, hy => by
    by_cases e : x = 92
    · simp only [goP, if_pos e] at hy
      exact goP_ok true t (fun x hx => h x (by simp [hx])) y hy
    · simp only [goP, if_neg e, List.mem_cons] at hy
      rcases hy with rfl | hy
      · exact mapP_ok (h x (by simp))
      · exact goP_ok false t (fun x hx => h x (by simp [hx])) y hy
theorem pieceI_star {x : Int} (h : okP x) : pieceI x = -3 ↔ x = -2 := by
  unfold okP at h
  unfold pieceI
  split
  · simp [*]
  · split
    · subst_vars; simp
    · constructor <;> intro h2 <;> omega
theorem pieceI_one {x : Int} (c : Int) (hx : x ≠ -2) : one x c = (pieceI x == c || pieceI x == -2) := by
  unfold pieceI one
  rw [if_neg hx]
  by_cases h1 : x = -1
  · subst h1; simp
  · rw [if_neg h1]
    have h2 : (x == -1) = false := by simp [h1]
    have h3 : (x == -2) = false := by simp [hx]
    rw [h2, h3]
    simp
/-- The stretches between the stars. -/
def splitS : List Int → List (List Int)
  | [] => [[]]
  | x :: p => if x = -2 then [] :: splitS p else (x :: (splitS p).headD []) :: (splitS p).tail
theorem splitS_ne (p : List Int) : splitS p ≠ [] := by
  cases p with
  | nil => simp [splitS]
  | cons x p => unfold splitS; split <;> simp
theorem splitS_form (p : List Int) : splitS p = (splitS p).headD [] :: (splitS p).tail := by
  have := splitS_ne p
  cases h : splitS p with
  | nil => exact absurd h this
  | cons a b => rfl
theorem splitS_join : ∀ p : List Int, p = (splitS p).headD [] ++ starJoin (splitS p).tail
  | [] => by simp [splitS, starJoin]
  | x :: p => by
    have ih := splitS_join p
    by_cases h : x = -2
    · subst h
      rw [splitS, if_pos rfl]
      simp only [List.headD_cons, List.tail_cons, List.nil_append]
      rw [splitS_form p, starJoin_cons, ← ih]
    · rw [splitS, if_neg h]
      simp only [List.headD_cons, List.tail_cons, List.cons_append]
      rw [← ih]
theorem splitS_noStar : ∀ p : List Int, ∀ s ∈ splitS p, noStar s
  | [], s, hs => by simp [splitS] at hs; subst hs; intro x hx; simp at hx
  | x :: p, s, hs => by
    have ih := splitS_noStar p
    by_cases h : x = -2
    · rw [splitS, if_pos h] at hs
      rcases List.mem_cons.1 hs with rfl | hs
      · intro x hx; simp at hx
      · exact ih s hs
    · rw [splitS, if_neg h] at hs
      rcases List.mem_cons.1 hs with rfl | hs
      · intro y hy
        rcases List.mem_cons.1 hy with rfl | hy
        · exact h
        · exact ih _ (by rw [splitS_form p]; simp) y hy
      · exact ih s (by rw [splitS_form p]; simp [hs])
/-- With what stands ahead of the first stretch. -/
def ahead (c : List Int) (l : List (List Int)) : List (List Int) := (c ++ l.headD []) :: l.tail
theorem ahead_nil (p : List Int) : ahead [] (splitS p) = splitS p := by rw [ahead, List.nil_append, ← splitS_form]
theorem ahead_star (c p : List Int) : ahead c (splitS (-2 :: p)) = c :: ahead [] (splitS p) := by
  rw [ahead_nil, splitS, if_pos rfl, ahead]; simp
theorem ahead_other (c p : List Int) {x : Int} (h : x ≠ -2) : ahead c (splitS (x :: p)) = ahead (c ++ [x]) (splitS p) := by
  rw [splitS, if_neg h, ahead, ahead]; simp
theorem ahead_end (c : List Int) : ahead c (splitS []) = [c] := by simp [ahead, splitS]
/-- What impl.fits tells. -/
theorem fits_one {p h : List Int} (hp : splitS p = [h]) (t : List Int) : fit p t = (decide (t.length = h.length) && seg h t) := by
  have hj := splitS_join p
  have hn := splitS_noStar p h (by rw [hp]; simp)
  rw [hp] at hj
  simp only [List.headD_cons, List.tail_cons] at hj
  rw [hj, fit_seg h _ _ hn, show starJoin [] = [] from rfl, fit_nil, Bool.eq_iff_iff, Bool.and_eq_true, Bool.and_eq_true, List.isEmpty_iff, List.drop_eq_nil_iff, decide_eq_true_eq]
  constructor
  · rintro ⟨h1, h2⟩
    have := seg_len h1
    exact ⟨by omega, h1⟩
  · rintro ⟨h1, h2⟩
    exact ⟨h2, by omega⟩
theorem fits_many {p h tl : List Int} {mid : List (List Int)} (hp : splitS p = h :: (mid ++ [tl])) (t : List Int) :
    fit p t = (decide (h.length + tl.length ≤ t.length) && seg h t && seg tl (t.drop (t.length - tl.length)) && gr mid ((t.drop h.length).take (t.length - tl.length - h.length))) := by
  have hj := splitS_join p
  have hn := splitS_noStar p
  rw [hp] at hj hn
  simp only [List.headD_cons, List.tail_cons] at hj
  have hg := fit_greedy mid tl (t.drop h.length) (fun s hs => hn s (by simp [hs])) (hn tl (by simp))
  rw [hj, fit_seg h _ _ (hn h (by simp)), hg]
  cases hs : seg h t with
  | false => simp
  | true =>
    have hsl := seg_len hs
    rw [tailOK, List.length_drop, List.drop_drop, Bool.true_and, Bool.and_true]
    by_cases h3 : h.length + tl.length ≤ t.length
    · rw [decide_eq_true h3, decide_eq_true (by omega), show h.length + (t.length - h.length - tl.length) = t.length - tl.length from by omega, show t.length - h.length - tl.length = t.length - tl.length - h.length from by omega]
    · rw [decide_eq_false h3, decide_eq_false (by omega)]; simp
end Go.Proofs.YtfdmahbjofolhamDoor
