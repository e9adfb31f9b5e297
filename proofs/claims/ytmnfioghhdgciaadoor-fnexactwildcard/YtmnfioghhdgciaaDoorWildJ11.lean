import Derived.Test.YtmnfioghhdgciaaDoorWildJ10
namespace Go.Proofs.YtmnfioghhdgciaaDoor
open Go

/-! The parts of a pattern, in plain words. -/
def mapP (x : Int) : Int := if x = 42 then -2 else if x = 63 then -1 else x
def partsL : List Int → List Int
  | [] => []
  | [x] => [mapP x]
  | x :: c :: t => if x = 92 then c :: partsL t else mapP x :: partsL (c :: t)
termination_by l => l.length
theorem partsL_nil : partsL [] = [] := by rw [partsL]
theorem partsL_one (x : Int) : partsL [x] = [mapP x] := by rw [partsL]
theorem partsL_esc (c : Int) (t : List Int) : partsL (92 :: c :: t) = c :: partsL t := by rw [partsL]; simp
theorem partsL_cons {x : Int} {t : List Int} (h : x ≠ 92 ∨ t = []) : partsL (x :: t) = mapP x :: partsL t := by
  cases t with
  | nil => rw [partsL_one, partsL_nil]
  | cons c t =>
    rw [partsL, if_neg]
    intro e
    rcases h with h | h
    · exact h e
    · cases h
/-- What was taken by a backslash stands for itself. -/
def goP : Bool → List Int → List Int
  | false, [] => []
  | true, [] => [92]
  | true, c :: t => c :: goP false t
  | false, x :: t => if x = 92 then goP true t else mapP x :: goP false t
theorem goP_eq : ∀ (n : Nat) (l : List Int), l.length ≤ n → goP false l = partsL l
  | _, [], _ => by rw [partsL_nil]; rfl
  | 0, x :: t, h => by simp at h
  | n + 1, [x], h => by
    rw [partsL_one]
    by_cases e : x = 92
    · subst e; simp [goP, mapP]
    · simp [goP, e]
  | n + 1, x :: c :: t, h => by
    by_cases e : x = 92
    · subst e
      rw [partsL_esc]
      have := goP_eq n t (by simp at h; omega)
      simp [goP, this]
    · rw [partsL_cons (Or.inl e)]
      have := goP_eq n (c :: t) (by simp at h ⊢; omega)
      rw [← this]
      simp [goP, e]
theorem goP_parts (l : List Int) : goP false l = partsL l := goP_eq _ l (Nat.le_refl _)
theorem goP_len : ∀ (b : Bool) (l : List Int), (goP b l).length ≤ l.length + 1
  | false, [] => by simp [goP]
  | true, [] => by simp [goP]
  | true, c :: t => by have := goP_len false t; simp [goP]; omega
  | false, x :: t => by
    by_cases e : x = 92
    · have := goP_len true t; simp [goP, e]; omega
    · have := goP_len false t; simp [goP, e]; omega
theorem partsL_len (l : List Int) : (partsL l).length ≤ l.length := by
  have : ∀ (b : Bool) (l : List Int), (goP b l).length ≤ l.length + (if b then 1 else 0) := by
    intro b l
    induction l generalizing b with
    | nil => cases b <;> simp [goP]
    | cons x t ih =>
      cases b with
      | true => have := ih false; simp [goP] at this ⊢; omega
      | false =>
        by_cases e : x = 92
        · have := ih true; simp [goP, e] at this ⊢; omega
        · have := ih false; simp [goP, e] at this ⊢; omega
  have := this false l
  rw [goP_parts] at this
  simpa using this
/-- The coding of impl: -3 for any characters, -2 for one. -/
def pieceI (x : Int) : Int := if x = -2 then -3 else if x = -1 then -2 else x
def okP (x : Int) : Prop := x = -2 ∨ x = -1 ∨ 0 ≤ x ∧ x ≤ 1114111
theorem mapP_ok {x : Int} (h : 0 ≤ x ∧ x ≤ 1114111) : okP (mapP x) := by
  unfold mapP okP
  split
  · exact Or.inl rfl
  · split
    · exact Or.inr (Or.inl rfl)
    · exact Or.inr (Or.inr h)
/-- With what stands ahead of the first stretch. -/
def ahead (c : List Int) (l : List (List Int)) : List (List Int) := (c ++ l.headD []) :: l.tail
end Go.Proofs.YtmnfioghhdgciaaDoor

namespace Go.Proofs.YtmnfioghhdgciaaDoor
open Go
set_option linter.unusedVariables false

/-! Patterns as sets of places of their parts: what the specification goes by. -/
def cloN (P : List Int) (x : Nat) : Nat → Nat
  | 0 => x
  | k + 1 => if (cloN P x k).testBit k = true ∧ P.getD k 0 = -2 then cloN P x k ||| 2 ^ (k + 1) else cloN P x k
def mvN (P : List Int) (x : Nat) (r : Int) : Nat → Nat
  | 0 => 0
  | k + 1 => if x.testBit k = true then (if P.getD k 0 = -2 then mvN P x r k ||| 2 ^ k else if one (P.getD k 0) r = true then mvN P x r k ||| 2 ^ (k + 1) else mvN P x r k) else mvN P x r k
theorem or_bit (s k j : Nat) : (s ||| 2 ^ k).testBit j = true ↔ s.testBit j = true ∨ k = j := by
  rw [Nat.testBit_or, Nat.testBit_two_pow, Bool.or_eq_true, decide_eq_true_eq]
theorem cloN_sup {P : List Int} {x j : Nat} (h : x.testBit j = true) : ∀ k, (cloN P x k).testBit j = true
  | 0 => h
  | k + 1 => by
    rw [cloN]
    split
    · exact (or_bit _ _ _).2 (Or.inl (cloN_sup h k))
    · exact cloN_sup h k
theorem cloN_from {P : List Int} {x : Nat} : ∀ {k j : Nat}, (cloN P x k).testBit j = true → ∃ i, i ≤ j ∧ x.testBit i = true ∧ (i < j → j ≤ k) ∧ ∀ m, i ≤ m → m < j → P.getD m 0 = -2
  | 0, j, h => ⟨j, Nat.le_refl _, h, fun h => absurd h (by omega), fun m a b => absurd a (by omega)⟩
  | k + 1, j, h => by
    rw [cloN] at h
    split at h
    · rename_i hc
      rcases (or_bit _ _ _).1 h with h | rfl
      · obtain ⟨i, h1, h2, h3, h4⟩ := cloN_from h
        exact ⟨i, h1, h2, fun a => by have := h3 a; omega, h4⟩
      · obtain ⟨i, h1, h2, h3, h4⟩ := cloN_from hc.1
        refine ⟨i, by omega, h2, fun _ => by omega, fun m a b => ?_⟩
        by_cases e : m = k
        · rw [e]; exact hc.2
        · exact h4 m a (by omega)
    · obtain ⟨i, h1, h2, h3, h4⟩ := cloN_from h
      exact ⟨i, h1, h2, fun a => by have := h3 a; omega, h4⟩
def ClosedP (P : List Int) (x : Nat) : Prop := ∀ i, i < P.length → x.testBit i = true → P.getD i 0 = -2 → x.testBit (i + 1) = true
theorem cloN_closed (P : List Int) (x : Nat) : ClosedP P (cloN P x P.length) := by
  have key : ∀ k i, i < k → (cloN P x k).testBit i = true → P.getD i 0 = -2 → (cloN P x k).testBit (i + 1) = true := by
    intro k
    induction k with
    | zero => intro i h; omega
    | succ k ih =>
      intro i h h1 h2
      rw [cloN] at h1 ⊢
      by_cases hc : (cloN P x k).testBit k = true ∧ P.getD k 0 = -2
      · rw [if_pos hc] at h1 ⊢
        rw [or_bit] at h1 ⊢
        by_cases e : i = k
        · exact Or.inr (by omega)
        · exact Or.inl (ih i (by omega) (h1.resolve_right (by omega)) h2)
      · rw [if_neg hc] at h1 ⊢
        by_cases e : i = k
        · subst e; exact absurd ⟨h1, h2⟩ hc
        · exact ih i (by omega) h1 h2
  exact fun i hi h1 h2 => key P.length i hi h1 h2
theorem mvN_bit {P : List Int} {x : Nat} {r : Int} : ∀ {k j : Nat}, (mvN P x r k).testBit j = true ↔ ∃ i, i < k ∧ x.testBit i = true ∧ ((P.getD i 0 = -2 ∧ j = i) ∨ (P.getD i 0 ≠ -2 ∧ one (P.getD i 0) r = true ∧ j = i + 1))
  | 0, j => by simp [mvN]
  | k + 1, j => by
    have ih := mvN_bit (P := P) (x := x) (r := r) (k := k) (j := j)
    have split1 : (∃ i, i < k + 1 ∧ x.testBit i = true ∧ ((P.getD i 0 = -2 ∧ j = i) ∨ (P.getD i 0 ≠ -2 ∧ one (P.getD i 0) r = true ∧ j = i + 1))) ↔ (mvN P x r k).testBit j = true ∨ (x.testBit k = true ∧ ((P.getD k 0 = -2 ∧ j = k) ∨ (P.getD k 0 ≠ -2 ∧ one (P.getD k 0) r = true ∧ j = k + 1))) := by
      rw [ih]
      constructor
      · rintro ⟨i, h1, h2⟩
        by_cases e : i = k
        · subst e; exact Or.inr h2
        · exact Or.inl ⟨i, by omega, h2⟩
      · rintro (⟨i, h1, h2⟩ | h)
        · exact ⟨i, by omega, h2⟩
        · exact ⟨k, by omega, h⟩
    rw [split1, mvN]
    by_cases h1 : x.testBit k = true
    · rw [if_pos h1]
      by_cases h2 : P.getD k 0 = -2
      · rw [if_pos h2, or_bit]
        simp only [h1, h2, true_and, ne_eq, not_true, false_and, or_false]
        exact or_congr Iff.rfl eq_comm
      · rw [if_neg h2]
        by_cases h3 : one (P.getD k 0) r = true
        · rw [if_pos h3, or_bit]
          simp only [h1, h2, h3, true_and, ne_eq, not_false_eq_true, false_and, false_or]
          exact or_congr Iff.rfl eq_comm
        · rw [if_neg h3]
          refine ⟨Or.inl, fun h => ?_⟩
          rcases h with h | ⟨_, ⟨h, _⟩ | ⟨_, h, _⟩⟩
          · exact h
          · exact absurd h h2
          · exact absurd h h3
    · rw [if_neg h1]
      exact ⟨Or.inl, fun h => h.elim id fun h => absurd h.1 h1⟩
def LanP (P : List Int) (x : Nat) (w : List Int) : Prop := ∃ i, i ≤ P.length ∧ x.testBit i = true ∧ fit (P.drop i) w = true
theorem drop_at {P : List Int} {i : Nat} (h : i < P.length) : P.drop i = P.getD i 0 :: P.drop (i + 1) := by
  rw [List.drop_eq_getElem_cons h, List.getD_eq_getElem?_getD, List.getElem?_eq_getElem h]
  rfl
theorem fit_less (p w : List Int) (h : fit p w = true) : fit (-2 :: p) w = true := (fit_star p w).2 ⟨0, by omega, by simpa using h⟩
theorem fit_stars {P w : List Int} : ∀ (d i : Nat), i + d ≤ P.length → (∀ m, i ≤ m → m < i + d → P.getD m 0 = -2) → fit (P.drop (i + d)) w = true → fit (P.drop i) w = true
  | 0, i, _, _, h => h
  | d + 1, i, hl, hm, h => by
    have h1 := fit_stars d (i + 1) (by omega) (fun m a b => hm m (by omega) (by omega)) (by rw [show i + 1 + d = i + (d + 1) by omega]; exact h)
    rw [drop_at (show i < P.length by omega), hm i (by omega) (by omega)]
    exact fit_less _ _ h1
theorem clo_lan {P : List Int} {x : Nat} {w : List Int} : LanP P (cloN P x P.length) w ↔ LanP P x w := by
  constructor
  · rintro ⟨j, h1, h2, h3⟩
    obtain ⟨i, g1, g2, _, g4⟩ := cloN_from h2
    exact ⟨i, by omega, g2, fit_stars (j - i) i (by omega) (fun m a b => g4 m a (by omega)) (by rw [show i + (j - i) = j by omega]; exact h3)⟩
  · rintro ⟨j, h1, h2, h3⟩
    exact ⟨j, h1, cloN_sup h2 _, h3⟩
theorem mv_lan {P : List Int} {x : Nat} (hx : ClosedP P x) {c : Int} {w : List Int} : LanP P (mvN P x c P.length) w ↔ LanP P x (c :: w) := by
  constructor
  · rintro ⟨j, h1, h2, h3⟩
    obtain ⟨i, g1, g2, g3⟩ := mvN_bit.1 h2
    refine ⟨i, by omega, g2, ?_⟩
    rw [drop_at g1]
    rcases g3 with ⟨g4, rfl⟩ | ⟨g4, g5, rfl⟩
    · rw [drop_at g1, g4] at h3
      rw [g4, fit_star_cons, h3, Bool.or_true]
    · rw [fit_one_cons g4, g5, h3]
      rfl
  · rintro ⟨i, h1, h2, h3⟩
    have key : ∀ d i, P.length ≤ i + d → i ≤ P.length → x.testBit i = true → fit (P.drop i) (c :: w) = true → LanP P (mvN P x c P.length) w := by
      intro d
      induction d with
      | zero =>
        intro i a b _ h
        rw [List.drop_eq_nil_of_le (by omega), fit_nil] at h
        simp at h
      | succ d ih =>
        intro i a b hb h
        by_cases e : i = P.length
        · rw [List.drop_eq_nil_of_le (by omega), fit_nil] at h
          simp at h
        · have hi : i < P.length := by omega
          have h0 := h
          rw [drop_at hi] at h
          by_cases hs : P.getD i 0 = -2
          · rw [hs, fit_star_cons, Bool.or_eq_true] at h
            rcases h with h | h
            · exact ih (i + 1) (by omega) (by omega) (hx i hi hb hs) h
            · exact ⟨i, b, mvN_bit.2 ⟨i, hi, hb, Or.inl ⟨hs, rfl⟩⟩, by rw [drop_at hi, hs]; exact h⟩
          · rw [fit_one_cons hs, Bool.and_eq_true] at h
            exact ⟨i + 1, by omega, mvN_bit.2 ⟨i, hi, hb, Or.inr ⟨hs, h.1, rfl⟩⟩, h.2⟩
    exact key P.length i (by omega) h1 h2 h3
theorem fin_lan {P : List Int} {x : Nat} (hx : ClosedP P x) : x.testBit P.length = true ↔ LanP P x [] := by
  constructor
  · intro h
    exact ⟨P.length, Nat.le_refl _, h, by rw [List.drop_eq_nil_of_le (Nat.le_refl _), fit_nil]; rfl⟩
  · rintro ⟨i, h1, h2, h3⟩
    have key : ∀ d i, P.length ≤ i + d → i ≤ P.length → x.testBit i = true → fit (P.drop i) [] = true → x.testBit P.length = true := by
      intro d
      induction d with
      | zero => intro i a b hb _; rw [show P.length = i by omega]; exact hb
      | succ d ih =>
        intro i a b hb h
        by_cases e : i = P.length
        · rw [← e]; exact hb
        · have hi : i < P.length := by omega
          rw [drop_at hi] at h
          by_cases hs : P.getD i 0 = -2
          · rw [hs, fit_star_nil] at h
            exact ih (i + 1) (by omega) (by omega) (hx i hi hb hs) h
          · rw [fit_one_nil hs] at h
            cases h
    exact key P.length i (by omega) h1 h2 h3
def wsK (P : List Int) (f : Nat → Int) : Kaut Nat := ⟨fun x a => cloN P (mvN P x (f a) P.length) P.length, fun x => x.testBit P.length⟩
theorem ws_acc {P : List Int} {f : Nat → Int} : ∀ (w : List Nat) (x : Nat), ClosedP P x → ((wsK P f).acc x w = true ↔ LanP P x (w.map f))
  | [], x, hx => fin_lan hx
  | a :: w, x, hx => by
    show (wsK P f).acc (cloN P (mvN P x (f a) P.length) P.length) w = true ↔ _
    rw [ws_acc w _ (cloN_closed _ _), clo_lan, mv_lan hx]
    rfl
theorem first_lan {P w : List Int} : LanP P 1 w ↔ fit P w = true := by
  constructor
  · rintro ⟨i, h1, h2, h3⟩
    have : (2 ^ 0).testBit i = true := by simpa using h2
    rw [Nat.testBit_two_pow] at this
    have e : 0 = i := by simpa using this
    subst e
    simpa using h3
  · intro h
    exact ⟨0, by omega, rfl, by simpa using h⟩
theorem ws_fit {P : List Int} {f : Nat → Int} (w : List Nat) : (wsK P f).acc (cloN P 1 P.length) w = fit P (w.map f) := by
  rw [Bool.eq_iff_iff, ws_acc w _ (cloN_closed _ _), clo_lan, first_lan]
/-- The numbers are small. -/
theorem cloN_lt {P : List Int} {x k : Nat} (hx : x < 2 ^ (P.length + 1)) (hk : k ≤ P.length) : cloN P x k < 2 ^ (P.length + 1) := by
  refine Nat.lt_pow_two_of_testBit _ fun j hj => ?_
  cases hb : (cloN P x k).testBit j with
  | false => rfl
  | true =>
    obtain ⟨i, h1, h2, h3, _⟩ := cloN_from hb
    have h4 := Nat.ge_two_pow_of_testBit h2
    by_cases hij : i < j
    · have := h3 hij; omega
    · have := Nat.pow_le_pow_right (show 0 < 2 by omega) (show P.length + 1 ≤ i by omega)
      omega
theorem mvN_lt {P : List Int} {x k : Nat} {r : Int} (hk : k ≤ P.length) : mvN P x r k < 2 ^ (P.length + 1) := by
  refine Nat.lt_pow_two_of_testBit _ fun j hj => ?_
  cases hb : (mvN P x r k).testBit j with
  | false => rfl
  | true =>
    obtain ⟨i, h1, _, h3⟩ := mvN_bit.1 hb
    rcases h3 with ⟨_, h⟩ | ⟨_, _, h⟩ <;> omega
/-! The same pattern as steps and loops. -/
def wiK (T : List Int) (L : Nat) (C : Nat → Nat) (g : Nat → Int) : Kaut Nat := ⟨fun x a => stepW T L C x (g a), fun x => x.testBit T.length⟩
section
variable {T : List Int} {L : Nat} {C : Nat → Nat} {g : Nat → Int}
theorem wi_acc (hL : ∀ l, L.testBit l = true → l ≤ T.length) (hC : CovOK T L.testBit C) : ∀ (w : List Nat) (x : Nat), (wiK T L C g).acc x w = true ↔ AccS T L.testBit x (w.map g)
  | [], x => by
    show x.testBit T.length = true ↔ _
    constructor
    · intro h; exact ⟨_, h, (accW_nil _).2 rfl⟩
    · rintro ⟨i, h1, h2⟩
      rw [← (accW_nil _).1 h2]
      exact h1
  | a :: w, x => by
    show (wiK T L C g).acc (stepW T L C x (g a)) w = true ↔ _
    rw [wi_acc hL hC w]
    exact (prn_acc hL hC).trans moveI_acc
theorem wi_first (hL : ∀ l, L.testBit l = true → l ≤ T.length) (hC : CovOK T L.testBit C) (w : List Nat) : (wiK T L C g).acc (prn T L C 1) w = accW T L.testBit 0 (w.map g) := by
  rw [Bool.eq_iff_iff, wi_acc hL hC, prn_acc hL hC]
  constructor
  · rintro ⟨i, h1, h2⟩
    have : (2 ^ 0).testBit i = true := by simpa using h1
    rw [Nat.testBit_two_pow] at this
    have e : 0 = i := by simpa using this
    subst e
    exact h2
  · intro h
    exact ⟨0, rfl, h⟩
theorem words_of {S : Nat} : ∀ (l : List Int), (∀ t ∈ l, ∃ a, a < S ∧ g a = t) → ∃ w : List Nat, (∀ a ∈ w, a < S) ∧ w.map g = l
  | [], _ => ⟨[], by simp, rfl⟩
  | t :: l, h => by
    obtain ⟨a, h1, h2⟩ := h t (by simp)
    obtain ⟨w, h3, h4⟩ := words_of l (fun u hu => h u (by simp [hu]))
    refine ⟨a :: w, fun b hb => ?_, by simp [h2, h4]⟩
    rcases List.mem_cons.1 hb with rfl | hb
    · exact h1
    · exact h3 b hb
theorem wi_differ {S : Nat} (hL : ∀ l, L.testBit l = true → l ≤ T.length) (hC : CovOK T L.testBit C) (hT : ∀ t ∈ T, 0 ≤ t ∨ t = -2) (hg : ∀ t ∈ T, t ≠ -2 → ∃ a, a < S ∧ g a = t) (ho : ∃ a, a < S ∧ g a = -1)
    {x y : Nat} (hx : PlOK T L x) (hy : PlOK T L y) (h : x ≠ y) : (wiK T L C g).lang S x ≠ (wiK T L C g).lang S y := by
  obtain ⟨p, hp, h1⟩ := sets_differ hT hx hy h
  obtain ⟨w, h2, h3⟩ := words_of (g := g) (S := S) (shortW T p) (fun t ht => by
    unfold shortW at ht
    obtain ⟨u, hu, rfl⟩ := List.mem_map.1 ht
    by_cases e : u = -2
    · rw [if_pos e]; exact ho
    · rw [if_neg e]; exact hg u (List.mem_of_mem_drop hu) e)
  intro hl
  have h4 := congrFun hl w
  have ha : w.all (fun a => decide (a < S)) = true := List.all_eq_true.2 fun a ha => decide_eq_true (h2 a ha)
  unfold Kaut.lang at h4
  rw [ha, Bool.true_and, Bool.true_and] at h4
  apply h1
  rw [← h3, ← wi_acc (g := g) hL hC, ← wi_acc (g := g) hL hC, h4]
end
def stW (Q : List Int) : List Int := Q.filter fun x => decide (x ≠ -3)
def lpW : List Int → Nat → Bool
  | [], _ => false
  | x :: Q, i => if x = -3 then decide (i = 0) || lpW Q i else decide (0 < i) && lpW Q (i - 1)
theorem lpW_star {x : Int} (h : x = -3) (Q : List Int) (i : Nat) : lpW (x :: Q) i = (decide (i = 0) || lpW Q i) := by rw [lpW, if_pos h]
theorem lpW_zero {x : Int} (h : x ≠ -3) (Q : List Int) : lpW (x :: Q) 0 = false := by rw [lpW, if_neg h]; rfl
theorem lpW_succ {x : Int} (h : x ≠ -3) (Q : List Int) (i : Nat) : lpW (x :: Q) (i + 1) = lpW Q i := by rw [lpW, if_neg h, decide_eq_true (by omega), Bool.true_and, Nat.add_sub_cancel]
theorem accW_def (T : List Int) (lp : Nat → Bool) (i : Nat) (c : Int) (w : List Int) : accW T lp i (c :: w) = ((decide (i < T.length) && hitA T c i && accW T lp (i + 1) w) || (lp i && accW T lp i w)) := rfl
theorem lpW_le : ∀ {Q : List Int} {i : Nat}, lpW Q i = true → i ≤ (stW Q).length
  | [], i, h => by simp [lpW] at h
  | x :: Q, i, h => by
    by_cases e : x = -3
    · rw [lpW_star e, Bool.or_eq_true, decide_eq_true_eq] at h
      have h1 : (stW (x :: Q)).length = (stW Q).length := by simp [stW, e]
      rcases h with h | h
      · omega
      · have := lpW_le h; omega
    · have h1 : (stW (x :: Q)).length = (stW Q).length + 1 := by simp [stW, e]
      cases i with
      | zero => omega
      | succ i => rw [lpW_succ e] at h; have := lpW_le h; omega
theorem stW_snoc (Q : List Int) (x : Int) : stW (Q ++ [x]) = if x = -3 then stW Q else stW Q ++ [x] := by
  unfold stW
  rw [List.filter_append]
  by_cases e : x = -3 <;> simp [e]
theorem lpW_snoc : ∀ (Q : List Int) (x : Int) (i : Nat), lpW (Q ++ [x]) i = if x = -3 then (lpW Q i || decide (i = (stW Q).length)) else lpW Q i
  | [], x, i => by
    by_cases e : x = -3
    · rw [List.nil_append, lpW_star e, if_pos e]; simp [lpW, stW]
    · rw [List.nil_append, if_neg e]
      cases i with
      | zero => rw [lpW_zero e]; rfl
      | succ i => rw [lpW_succ e]; rfl
  | y :: Q, x, i => by
    have ih := lpW_snoc Q x
    rw [List.cons_append]
    by_cases ey : y = -3
    · rw [lpW_star ey, ih i]
      have h1 : (stW (y :: Q)).length = (stW Q).length := by simp [stW, ey]
      have h2 := lpW_star ey Q i
      rw [h1, h2]
      by_cases e : x = -3
      · rw [if_pos e, if_pos e, Bool.or_assoc]
      · rw [if_neg e, if_neg e]
    · have h1 : (stW (y :: Q)).length = (stW Q).length + 1 := by simp [stW, ey]
      cases i with
      | zero =>
        rw [h1, lpW_zero ey, lpW_zero ey]
        by_cases e : x = -3
        · rw [if_pos e]; simp
        · rw [if_neg e]
      | succ i =>
        rw [h1, lpW_succ ey, lpW_succ ey, ih i]
        by_cases e : x = -3
        · rw [if_pos e, if_pos e]
          congr 1
          exact decide_eq_decide.2 ⟨fun h => by omega, fun h => by omega⟩
        · rw [if_neg e, if_neg e]
def lpN (Q : List Int) : Nat := bset (lpW Q) ((stW Q).length + 1)
theorem lpN_bit (Q : List Int) (i : Nat) : (lpN Q).testBit i = lpW Q i := by
  unfold lpN
  rw [bset_bit]
  cases hb : lpW Q i with
  | false => simp
  | true => have := lpW_le hb; simp; omega
theorem lpN_le {Q : List Int} {l : Nat} (h : (lpN Q).testBit l = true) : l ≤ (stW Q).length := lpW_le (by rwa [lpN_bit] at h)
theorem lpN_star (Q : List Int) : lpN (Q ++ [-3]) = lpN Q ||| 2 ^ (stW Q).length := by
  refine Nat.eq_of_testBit_eq fun i => ?_
  rw [lpN_bit, lpW_snoc, if_pos rfl, Nat.testBit_or, lpN_bit, Nat.testBit_two_pow]
  congr 1
  exact decide_eq_decide.2 eq_comm
theorem lpN_one (Q : List Int) {x : Int} (h : x ≠ -3) : lpN (Q ++ [x]) = lpN Q := by
  refine Nat.eq_of_testBit_eq fun i => ?_
  rw [lpN_bit, lpW_snoc, if_neg h, lpN_bit]
theorem accW_shift {T : List Int} {x : Int} {lp lp' : Nat → Bool} (h : ∀ i, lp' (i + 1) = lp i) : ∀ (w : List Int) (i : Nat), accW (x :: T) lp' (i + 1) w = accW T lp i w
  | [], i => by simp [accW]
  | c :: w, i => by
    rw [accW, accW, accW_shift h w (i + 1), accW_shift h w i, h]
    congr 2
    rw [show hitA (x :: T) c (i + 1) = hitA T c i from by simp [hitA]]
    congr 1
    exact decide_eq_decide.2 (by simp)
theorem accW_congr {T : List Int} {lp lp' : Nat → Bool} {k : Nat} (h : ∀ i, k ≤ i → lp' i = lp i) : ∀ (w : List Int) (i : Nat), k ≤ i → accW T lp' i w = accW T lp i w
  | [], i, _ => rfl
  | c :: w, i, hi => by rw [accW, accW, accW_congr h w (i + 1) (by omega), accW_congr h w i hi, h i hi]
theorem accW_star {T : List Int} {lp lp' : Nat → Bool} (h : ∀ i, lp' i = (decide (i = 0) || lp i)) : ∀ w : List Int, accW T lp' 0 w = true ↔ ∃ j, j ≤ w.length ∧ accW T lp 0 (w.drop j) = true
  | [] => by
    rw [accW_nil]
    exact ⟨fun e => ⟨0, by simp, by rw [List.drop_zero, accW_nil]; exact e⟩, fun ⟨j, _, e⟩ => by simpa [accW] using e⟩
  | c :: w => by
    have hc : accW T lp' (0 + 1) w = accW T lp (0 + 1) w := accW_congr (k := 1) (fun i hi => by rw [h i, decide_eq_false (by omega), Bool.false_or]) w _ (Nat.le_refl _)
    rw [accW_cons, accW_star h w, h 0, hc]
    constructor
    · rintro (h1 | ⟨_, j, h1, h2⟩)
      · exact ⟨0, by simp, by rw [List.drop_zero, accW_cons]; exact Or.inl h1⟩
      · exact ⟨j + 1, by simpa using h1, by simpa using h2⟩
    · rintro ⟨j, h1, h2⟩
      cases j with
      | zero =>
        rw [List.drop_zero, accW_cons] at h2
        rcases h2 with h2 | h2
        · exact Or.inl h2
        · exact Or.inr ⟨by simp, 0, by omega, by simpa using h2.2⟩
      | succ j => exact Or.inr ⟨by simp, j, by simpa using h1, by simpa using h2⟩
/-- Both ways to say a pattern come to the same. -/
theorem acc_fit {f g : Nat → Int} : ∀ (P : List Int) (w : List Nat), (∀ x ∈ P, okP x) → (∀ x ∈ P, ∀ a, 0 ≤ x → (x = f a ↔ x = g a)) → fit P (w.map f) = accW (stW (P.map pieceI)) (lpW (P.map pieceI)) 0 (w.map g)
  | [], w, _, _ => by
    rw [fit_nil]
    cases w with
    | nil => rfl
    | cons a w => simp [accW, stW, lpW]
  | x :: P, w, ho, hs => by
    have ih := fun u => acc_fit P u (fun y hy => ho y (by simp [hy])) (fun y hy => hs y (by simp [hy]))
    have hx := ho x (by simp)
    by_cases e : x = -2
    · subst e
      have e1 : stW ((-2 :: P).map pieceI) = stW (P.map pieceI) := by simp [stW, pieceI]
      rw [e1, Bool.eq_iff_iff, fit_star, accW_star (lp := lpW (P.map pieceI)) (fun i => by exact lpW_star (by simp [pieceI]) _ i)]
      simp only [List.length_map]
      constructor
      · rintro ⟨j, h1, h2⟩
        refine ⟨j, h1, ?_⟩
        rw [← List.map_drop, ← ih, List.map_drop]
        exact h2
      · rintro ⟨j, h1, h2⟩
        refine ⟨j, h1, ?_⟩
        rw [← List.map_drop, ih, List.map_drop]
        exact h2
    · have hp : pieceI x ≠ -3 := by
        unfold pieceI
        rw [if_neg e]
        split
        · omega
        · rcases hx with h | h | h <;> omega
      have e1 : stW ((x :: P).map pieceI) = pieceI x :: stW (P.map pieceI) := by simp [stW, hp]
      have e2 : ∀ i, lpW ((x :: P).map pieceI) (i + 1) = lpW (P.map pieceI) i := fun i => lpW_succ hp _ i
      have e3 : lpW ((x :: P).map pieceI) 0 = false := lpW_zero hp _
      rw [e1]
      cases w with
      | nil =>
        rw [List.map_nil, List.map_nil, fit_one_nil e]
        simp [accW]
      | cons a w =>
        rw [show List.map f (a :: w) = f a :: List.map f w from rfl, show List.map g (a :: w) = g a :: List.map g w from rfl, fit_one_cons e, accW_def, accW_shift e2, ih, e3, Bool.false_and, Bool.or_false]
        congr 1
        have hh : hitA (pieceI x :: stW (P.map pieceI)) (g a) 0 = (decide (pieceI x = g a) || decide (pieceI x = -2)) := by simp [hitA]
        rw [hh, decide_eq_true (show 0 < (pieceI x :: stW (P.map pieceI)).length by simp), Bool.true_and]
        unfold one
        by_cases ea : x = -1
        · subst ea; simp [pieceI]
        · have hx0 : 0 ≤ x := by rcases hx with h | h | h <;> omega
          have hpx : pieceI x = x := by unfold pieceI; rw [if_neg e, if_neg ea]
          have hb : (x == -1) = false := by simpa using ea
          rw [hpx, hb, Bool.false_or, decide_eq_false (show ¬ x = -2 from e), Bool.or_false, Bool.eq_iff_iff, beq_iff_eq, decide_eq_true_eq]
          exact hs x (by simp) a hx0
theorem both_lang {P : List Int} {f g : Nat → Int} {C : Nat → Nat} (hC : CovOK (stW (P.map pieceI)) (lpN (P.map pieceI)).testBit C) (ho : ∀ x ∈ P, okP x) (hs : ∀ x ∈ P, ∀ a, 0 ≤ x → (x = f a ↔ x = g a)) (S : Nat) :
    (wsK P f).lang S (cloN P 1 P.length) = (wiK (stW (P.map pieceI)) (lpN (P.map pieceI)) C g).lang S (prn (stW (P.map pieceI)) (lpN (P.map pieceI)) C 1) := by
  funext w
  unfold Kaut.lang
  rw [ws_fit, wi_first (fun l hl => lpN_le hl) hC, acc_fit P w ho hs, show (lpN (P.map pieceI)).testBit = lpW (P.map pieceI) from funext (lpN_bit _)]
end Go.Proofs.YtmnfioghhdgciaaDoor
