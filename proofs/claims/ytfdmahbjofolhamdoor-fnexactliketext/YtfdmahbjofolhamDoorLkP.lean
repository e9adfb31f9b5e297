import Derived.Test.YtfdmahbjofolhamDoorPlain
namespace Go.Proofs.YtfdmahbjofolhamDoor
open Go

/-! What fits a pattern, in plain words: -2 stands for any characters, -1 for one, all else for itself. -/
def one (x c : Int) : Bool := x == -1 || x == c
def fit : List Int → List Int → Bool
  | [], t => t.isEmpty
  | x :: p, [] => if x = -2 then fit p [] else false
  | x :: p, c :: t => if x = -2 then fit p (c :: t) || fit (x :: p) t else one x c && fit p t
termination_by p t => p.length + t.length
theorem fit_nil (t : List Int) : fit [] t = t.isEmpty := by rw [fit]
theorem fit_star_nil (p : List Int) : fit (-2 :: p) [] = fit p [] := by rw [fit]; simp
theorem fit_star_cons (p : List Int) (c : Int) (t : List Int) : fit (-2 :: p) (c :: t) = (fit p (c :: t) || fit (-2 :: p) t) := by rw [fit]; simp
theorem fit_one_nil {x : Int} (h : x ≠ -2) (p : List Int) : fit (x :: p) [] = false := by rw [fit]; simp [h]
theorem fit_one_cons {x : Int} (h : x ≠ -2) (p : List Int) (c : Int) (t : List Int) : fit (x :: p) (c :: t) = (one x c && fit p t) := by rw [fit]; simp [h]
/-- Where a stretch without stars stands at a text's beginning. -/
def seg : List Int → List Int → Bool
  | [], _ => true
  | _ :: _, [] => false
  | x :: s, c :: t => one x c && seg s t
theorem seg_len : ∀ {s t : List Int}, seg s t = true → s.length ≤ t.length
  | [], t, _ => by simp
  | x :: s, [], h => by simp [seg] at h
  | x :: s, c :: t, h => by
    simp only [seg, Bool.and_eq_true] at h
    have := seg_len h.2
    simp only [List.length_cons]
    omega
def noStar (s : List Int) : Prop := ∀ x ∈ s, x ≠ -2
theorem noStar.tail {x : Int} {s : List Int} (h : noStar (x :: s)) : noStar s := fun y hy => h y (by simp [hy])
theorem fit_seg : ∀ (s p t : List Int), noStar s → fit (s ++ p) t = (seg s t && fit p (t.drop s.length))
  | [], p, t, _ => by simp [seg]
  | x :: s, p, [], h => by rw [List.cons_append, fit_one_nil (h x (by simp))]; simp [seg]
  | x :: s, p, c :: t, h => by
    rw [List.cons_append, fit_one_cons (h x (by simp)), fit_seg s p t h.tail]
    simp [seg, Bool.and_assoc]
theorem fit_star (p : List Int) : ∀ t : List Int, fit (-2 :: p) t = true ↔ ∃ j, j ≤ t.length ∧ fit p (t.drop j) = true
  | [] => by
    rw [fit_star_nil]
    exact ⟨fun h => ⟨0, by simp, by simpa using h⟩, fun ⟨j, _, h⟩ => by simpa using h⟩
  | c :: t => by
    rw [fit_star_cons, Bool.or_eq_true, fit_star p t]
    constructor
    · rintro (h | ⟨j, hj, h⟩)
      · exact ⟨0, by simp, by simpa using h⟩
      · exact ⟨j + 1, by simp; omega, by simpa using h⟩
    · rintro ⟨j, hj, h⟩
      cases j with
      | zero => exact Or.inl (by simpa using h)
      | succ j => exact Or.inr ⟨j, by simp at hj; omega, by simpa using h⟩
/-- The first of two stars takes as little as it can. -/
theorem fit_least {s p t : List Int} (hs : noStar s) (h : seg s t = true) : fit (-2 :: (s ++ -2 :: p)) t = fit (-2 :: p) (t.drop s.length) := by
  rw [Bool.eq_iff_iff, fit_star]
  constructor
  · rintro ⟨j, hj, h1⟩
    rw [fit_seg s _ _ hs, Bool.and_eq_true, fit_star] at h1
    obtain ⟨h2, j2, h3, h4⟩ := h1
    rw [List.drop_drop, List.drop_drop] at h4
    rw [List.length_drop, List.length_drop] at h3
    have h5 := seg_len h2
    rw [List.length_drop] at h5
    rw [fit_star]
    refine ⟨j + j2, by rw [List.length_drop]; omega, ?_⟩
    rw [List.drop_drop, show s.length + (j + j2) = j + (s.length + j2) from by omega]
    exact h4
  · intro h1
    refine ⟨0, by simp, ?_⟩
    rw [List.drop_zero, fit_seg s _ _ hs, h, Bool.true_and]
    exact h1
theorem fit_last {s p t : List Int} (hs : noStar s) (h : seg s t = true) (hl : t.length = s.length) : fit (-2 :: (s ++ p)) t = fit p [] := by
  rw [Bool.eq_iff_iff, fit_star]
  constructor
  · rintro ⟨j, hj, h1⟩
    rw [fit_seg s _ _ hs, Bool.and_eq_true] at h1
    have h5 := seg_len h1.1
    rw [List.length_drop] at h5
    obtain rfl | hj0 : j = 0 ∨ s.length = 0 := by omega
    · rw [List.drop_zero, List.drop_of_length_le (by omega)] at h1
      exact h1.2
    · have h6 := h1.2
      rw [List.drop_of_length_le (by rw [List.length_drop]; omega)] at h6
      exact h6
  · intro h1
    refine ⟨0, by simp, ?_⟩
    rw [List.drop_zero, fit_seg s _ _ hs, h, Bool.true_and, List.drop_of_length_le (by omega)]
    exact h1
theorem seg_snoc : ∀ (s : List Int) (x : Int) (t : List Int), seg (s ++ [x]) t = (seg s t && (match t.drop s.length with | [] => false | c :: _ => one x c))
  | [], x, [] => by simp [seg]
  | [], x, c :: t => by simp [seg]
  | y :: s, x, [] => by simp [seg]
  | y :: s, x, c :: t => by simp [seg, seg_snoc s x t, Bool.and_assoc]
theorem seg_take : ∀ (s t : List Int) (m : Nat), seg s (t.take m) = (decide (s.length ≤ m) && seg s t)
  | [], t, m => by simp [seg]
  | x :: s, [], m => by simp [seg]
  | x :: s, c :: t, 0 => by simp [seg]
  | x :: s, c :: t, m + 1 => by
    simp only [List.take_succ_cons, seg, seg_take s t m, List.length_cons]
    cases one x c <;> simp

/-- Each stretch as early as can be. -/
def gr : List (List Int) → List Int → Bool
  | [], _ => true
  | s :: r, [] => if seg s [] then gr r [] else false
  | s :: r, c :: u => if seg s (c :: u) then gr r ((c :: u).drop s.length) else gr (s :: r) u
termination_by l u => (l.length, u.length)
theorem gr_yes {s u : List Int} (r : List (List Int)) (h : seg s u = true) : gr (s :: r) u = gr r (u.drop s.length) := by
  cases u with
  | nil => rw [gr, if_pos h]; simp
  | cons c u => rw [gr, if_pos h]
theorem gr_no {s u : List Int} {c : Int} (r : List (List Int)) (h : seg s (c :: u) = false) : gr (s :: r) (c :: u) = gr (s :: r) u := by
  rw [gr, if_neg (by simp [h])]
theorem gr_nil {s : List Int} (r : List (List Int)) (h : seg s [] = false) : gr (s :: r) [] = false := by
  rw [gr, if_neg (by simp [h])]
theorem gr_short {s : List Int} (r : List (List Int)) : ∀ {u : List Int}, u.length < s.length → gr (s :: r) u = false
  | [], h => gr_nil r (by cases hh : seg s [] with | false => rfl | true => have := seg_len hh; omega)
  | c :: u, h => by
    rw [gr_no r (by cases hh : seg s (c :: u) with | false => rfl | true => have := seg_len hh; omega)]
    exact gr_short r (by simp at h; omega)
def starJoin (l : List (List Int)) : List Int := l.flatMap fun s => -2 :: s
theorem starJoin_cons (s : List Int) (l : List (List Int)) : starJoin (s :: l) = -2 :: (s ++ starJoin l) := by simp [starJoin]
theorem starJoin_head (l : List (List Int)) (tl : List Int) : ∃ p, starJoin (l ++ [tl]) = -2 :: p := by
  cases l with
  | nil => exact ⟨_, starJoin_cons _ _⟩
  | cons s l => exact ⟨_, starJoin_cons _ _⟩
def tailOK (tl t : List Int) : Bool := decide (tl.length ≤ t.length) && seg tl (t.drop (t.length - tl.length))
theorem fit_greedy : ∀ (mid : List (List Int)) (tl t : List Int), (∀ s ∈ mid, noStar s) → noStar tl →
    fit (starJoin (mid ++ [tl])) t = (tailOK tl t && gr mid (t.take (t.length - tl.length)))
  | [], tl, t, _, htl => by
    rw [List.nil_append, starJoin_cons, show starJoin [] = [] from rfl, gr, Bool.and_true, Bool.eq_iff_iff, fit_star, tailOK, Bool.and_eq_true, decide_eq_true_eq]
    constructor
    · rintro ⟨j, hj, h⟩
      rw [fit_seg tl _ _ htl, Bool.and_eq_true, fit_nil, List.isEmpty_iff, List.drop_drop, List.drop_eq_nil_iff] at h
      have h1 := seg_len h.1
      rw [List.length_drop] at h1
      obtain rfl : j = t.length - tl.length := by omega
      exact ⟨by omega, h.1⟩
    · rintro ⟨h1, h2⟩
      refine ⟨t.length - tl.length, by omega, ?_⟩
      rw [fit_seg tl _ _ htl, h2, Bool.true_and, fit_nil, List.isEmpty_iff, List.drop_drop, List.drop_eq_nil_iff]
      omega
  | s :: r, tl, t, hm, htl => by
    have hs := hm s (by simp)
    cases hseg : seg s t with
    | true =>
      obtain ⟨p, hp⟩ := starJoin_head r tl
      have ih := fit_greedy r tl (t.drop s.length) (fun x hx => hm x (by simp [hx])) htl
      rw [List.cons_append, starJoin_cons, hp, fit_least hs hseg, ← hp, ih]
      have hsl := seg_len hseg
      by_cases hle : s.length + tl.length ≤ t.length
      · have hu : seg s (t.take (t.length - tl.length)) = true := by rw [seg_take, hseg, decide_eq_true (by omega)]; rfl
        rw [gr_yes r hu, tailOK, tailOK, List.length_drop, List.drop_drop, decide_eq_true (by omega), decide_eq_true (by omega), show s.length + (t.length - s.length - tl.length) = t.length - tl.length from by omega, List.drop_take, show t.length - s.length - tl.length = t.length - tl.length - s.length from by omega]
      · rw [tailOK, List.length_drop, decide_eq_false (by omega), Bool.false_and, Bool.false_and]
        by_cases h3 : tl.length ≤ t.length
        · rw [gr_short r (by rw [List.length_take]; omega), Bool.and_false]
        · rw [tailOK, decide_eq_false h3]; rfl
    | false =>
      match t, hseg with
      | [], hseg =>
        rw [List.cons_append, starJoin_cons, fit_star_nil, fit_seg s _ _ hs, hseg, List.take_nil, gr_nil r hseg]
        simp
      | c :: t, hseg =>
        have ih := fit_greedy (s :: r) tl t hm htl
        rw [List.cons_append, starJoin_cons] at ih
        rw [List.cons_append, starJoin_cons, fit_star_cons, fit_seg s _ _ hs, hseg, Bool.false_and, Bool.false_or, ih]
        by_cases hle : tl.length ≤ t.length
        · have hu : seg s (c :: t.take (t.length - tl.length)) = false := by
            have := seg_take s (c :: t) (t.length - tl.length + 1)
            rw [hseg, Bool.and_false, List.take_succ_cons] at this
            exact this
          rw [List.length_cons, show t.length + 1 - tl.length = t.length - tl.length + 1 from by omega, List.take_succ_cons, gr_no r hu, tailOK, tailOK, List.length_cons, decide_eq_true hle, decide_eq_true (by omega), show t.length + 1 - tl.length = t.length - tl.length + 1 from by omega, List.drop_succ_cons]
        · rw [List.length_cons, tailOK, tailOK, decide_eq_false hle]
          by_cases hle2 : tl.length ≤ t.length + 1
          · rw [show t.length + 1 - tl.length = 0 from by omega, List.take_zero, gr_nil r]
            · simp
            · cases hh : seg s [] with
              | false => rfl
              | true =>
                exfalso
                have := seg_len hh
                simp at this
                subst this
                simp [seg] at hseg
          · rw [List.length_cons, decide_eq_false hle2]
            simp
termination_by mid _ t => (mid.length, t.length)
end Go.Proofs.YtfdmahbjofolhamDoor
