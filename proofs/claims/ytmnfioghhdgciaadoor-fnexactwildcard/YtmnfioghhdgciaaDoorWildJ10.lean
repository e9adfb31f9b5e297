import Derived.Test.YtmnfioghhdgciaaDoorWildJ07
import Derived.Test.YtmnfioghhdgciaaDoorWildJ00
namespace Go.Proofs.YtmnfioghhdgciaaDoor
open Go
set_option linter.unusedVariables false

/-! Patterns as steps from place to place, with places at which any characters may be passed over. -/
def hitA (T : List Int) (c : Int) (i : Nat) : Bool := decide (T.getD i 0 = c) || decide (T.getD i 0 = -2)
def accW (T : List Int) (lp : Nat → Bool) : Nat → List Int → Bool
  | i, [] => decide (i = T.length)
  | i, c :: w => (decide (i < T.length) && hitA T c i && accW T lp (i + 1) w) || (lp i && accW T lp i w)
section
variable {T : List Int} {lp : Nat → Bool}
theorem accW_nil (i : Nat) : accW T lp i [] = true ↔ i = T.length := by simp [accW]
theorem accW_cons (i : Nat) (c : Int) (w : List Int) : accW T lp i (c :: w) = true ↔ (i < T.length ∧ hitA T c i = true ∧ accW T lp (i + 1) w = true) ∨ (lp i = true ∧ accW T lp i w = true) := by
  simp [accW, and_assoc]
theorem accW_len : ∀ {w : List Int} {i : Nat}, accW T lp i w = true → T.length ≤ i + w.length
  | [], i, h => by rw [accW_nil] at h; simp; omega
  | c :: w, i, h => by
    rw [accW_cons] at h
    rcases h with h | h
    · have := accW_len h.2.2; simp; omega
    · have := accW_len h.2; simp; omega
theorem accW_skip {e : Nat} (he : lp e = true) : ∀ (j : Nat) (w : List Int), accW T lp e (w.drop j) = true → accW T lp e w = true
  | 0, w, h => by simpa using h
  | j + 1, [], h => by simpa using h
  | j + 1, c :: w, h => by
    rw [accW_cons]
    exact Or.inr ⟨he, accW_skip he j w (by simpa using h)⟩
theorem accW_last {l : Nat} (hl : lp l = true) (hn : l ≤ T.length) : ∀ {w : List Int} {p : Nat}, p ≤ l → accW T lp p w = true → accW T lp l w = true
  | [], p, hp, h => by rw [accW_nil] at h ⊢; omega
  | c :: w, p, hp, h => by
    by_cases e : p = l
    · exact e ▸ h
    · rw [accW_cons] at h
      rw [accW_cons]
      refine Or.inr ⟨hl, ?_⟩
      rcases h with h | h
      · exact accW_last hl hn (show p + 1 ≤ l by omega) h.2.2
      · exact accW_last hl hn hp h.2
/-- Without loops there is one way. -/
theorem accW_run : ∀ (d : Nat) (p : Nat) (w : List Int), (∀ i, p ≤ i → i < p + d → lp i = false) → p + d ≤ T.length → accW T lp p w = true →
    d ≤ w.length ∧ (∀ i, i < d → hitA T (w.getD i 0) (p + i) = true) ∧ accW T lp (p + d) (w.drop d) = true
  | 0, p, w, _, _, h => ⟨by omega, fun i hi => absurd hi (by omega), by simpa using h⟩
  | d + 1, p, [], hl, hn, h => by rw [accW_nil] at h; omega
  | d + 1, p, c :: w, hl, hn, h => by
    rw [accW_cons] at h
    rcases h with ⟨_, h2, h3⟩ | ⟨h1, _⟩
    · obtain ⟨g1, g2, g3⟩ := accW_run d (p + 1) w (fun i h4 h5 => hl i (by omega) (by omega)) (by omega) h3
      refine ⟨by simp; omega, fun i hi => ?_, ?_⟩
      · cases i with
        | zero => simpa using h2
        | succ i =>
          have := g2 i (by omega)
          rw [show p + (i + 1) = p + 1 + i by omega]
          simpa using this
      · rw [show p + (d + 1) = p + 1 + d by omega]
        simpa using g3
    · rw [hl p (by omega) (by omega)] at h1
      cases h1
theorem accW_back : ∀ (d : Nat) (p : Nat) (w : List Int), p + d ≤ T.length → d ≤ w.length → (∀ i, i < d → hitA T (w.getD i 0) (p + i) = true) → accW T lp (p + d) (w.drop d) = true → accW T lp p w = true
  | 0, p, w, _, _, _, h => by simpa using h
  | d + 1, p, [], hn, hl, _, h => by simp at hl
  | d + 1, p, c :: w, hn, hl, hh, h => by
    rw [accW_cons]
    refine Or.inl ⟨by omega, by simpa using hh 0 (by omega), ?_⟩
    refine accW_back d (p + 1) w (by omega) (by simpa using hl) (fun i hi => ?_) ?_
    · have := hh (i + 1) (by omega)
      rw [show p + 1 + i = p + (i + 1) by omega]
      simpa using this
    · rw [show p + 1 + d = p + (d + 1) by omega]
      simpa using h
/-- What a place further on covers. -/
def Cov (T : List Int) (lp : Nat → Bool) (p q : Nat) : Prop := lp p = false ∧ p < q ∧ ∃ e, q < e ∧ e ≤ T.length ∧ lp e = true ∧ (∀ i, p < i → i < e → lp i = false) ∧ ∀ i, q + i < e → T.getD (q + i) 0 = -2 ∨ T.getD (q + i) 0 = T.getD (p + i) 0
theorem Cov.acc {p q : Nat} (h : Cov T lp p q) {w : List Int} (ha : accW T lp p w = true) : accW T lp q w = true := by
  obtain ⟨h0, h1, e, h2, h3, h4, h5, h6⟩ := h
  obtain ⟨g1, g2, g3⟩ := accW_run (e - p) p w (fun i a b => by
    by_cases ei : i = p
    · exact ei ▸ h0
    · exact h5 i (by omega) (by omega)) (by omega) ha
  rw [show p + (e - p) = e by omega] at g3
  refine accW_back (e - q) q w (by omega) (by omega) (fun i hi => ?_) ?_
  · have k1 := g2 i (by omega)
    rcases h6 i (by omega) with k2 | k2
    · unfold hitA; rw [k2]; simp
    · unfold hitA at k1 ⊢; rw [k2]; exact k1
  · rw [show q + (e - q) = e by omega]
    refine accW_skip h4 (q - p) _ ?_
    rw [List.drop_drop, show e - q + (q - p) = e - p by omega]
    exact g3
/-! Sets of places, a bit each. -/
def AccS (T : List Int) (lp : Nat → Bool) (x : Nat) (w : List Int) : Prop := ∃ i, x.testBit i = true ∧ accW T lp i w = true
def moveI (T : List Int) (L : Nat) (x : Nat) (c : Int) : Nat := ((x &&& bset (hitA T c) T.length) <<< 1) ||| (x &&& L)
theorem moveI_bit {L x : Nat} {c : Int} {i : Nat} : (moveI T L x c).testBit i = true ↔ (∃ j, i = j + 1 ∧ x.testBit j = true ∧ j < T.length ∧ hitA T c j = true) ∨ (x.testBit i = true ∧ L.testBit i = true) := by
  unfold moveI
  rw [Nat.testBit_or, Nat.testBit_shiftLeft, Nat.testBit_and, Nat.testBit_and, bset_bit]
  cases i with
  | zero => simp
  | succ j =>
    simp only [Bool.or_eq_true, Bool.and_eq_true, decide_eq_true_eq, Nat.add_sub_cancel]
    constructor
    · rintro (⟨_, h1, h2, h3⟩ | h)
      · exact Or.inl ⟨j, rfl, h1, h2, h3⟩
      · exact Or.inr h
    · rintro (⟨k, hk, h1, h2, h3⟩ | h)
      · obtain rfl : j = k := by omega
        exact Or.inl ⟨by omega, h1, h2, h3⟩
      · exact Or.inr h
theorem moveI_acc {L x : Nat} {c : Int} {w : List Int} : AccS T L.testBit (moveI T L x c) w ↔ AccS T L.testBit x (c :: w) := by
  constructor
  · rintro ⟨i, h1, h2⟩
    rcases moveI_bit.1 h1 with ⟨j, rfl, h3, h4, h5⟩ | ⟨h3, h4⟩
    · exact ⟨j, h3, (accW_cons _ _ _).2 (Or.inl ⟨h4, h5, h2⟩)⟩
    · exact ⟨i, h3, (accW_cons _ _ _).2 (Or.inr ⟨h4, h2⟩)⟩
  · rintro ⟨i, h1, h2⟩
    rcases (accW_cons _ _ _).1 h2 with ⟨h3, h4, h5⟩ | ⟨h3, h4⟩
    · exact ⟨i + 1, moveI_bit.2 (Or.inl ⟨i, rfl, h1, h3, h4⟩), h5⟩
    · exact ⟨i, moveI_bit.2 (Or.inr ⟨h1, h3⟩), h4⟩
/-- All ahead of the last loop goes. -/
def pr1 (L x : Nat) : Nat := if x &&& L = 0 then x else (x >>> Nat.log2 (x &&& L)) <<< Nat.log2 (x &&& L)
theorem log2_bit {z : Nat} (h : z ≠ 0) : z.testBit (Nat.log2 z) = true := Nat.testBit_log2 h
theorem log2_top {z i : Nat} (h : z.testBit i = true) : i ≤ Nat.log2 z := by
  by_cases h0 : z = 0
  · subst h0; simp at h
  · have h1 := Nat.ge_two_pow_of_testBit h
    exact (Nat.le_log2 h0).2 h1
theorem pr1_bit {L x i : Nat} : (pr1 L x).testBit i = true ↔ x.testBit i = true ∧ ∀ l, x.testBit l = true → L.testBit l = true → l ≤ i := by
  unfold pr1
  by_cases h : x &&& L = 0
  · rw [if_pos h]
    refine ⟨fun hx => ⟨hx, fun l h1 h2 => ?_⟩, fun hx => hx.1⟩
    have : (x &&& L).testBit l = true := by rw [Nat.testBit_and, h1, h2]; rfl
    rw [h] at this
    simp at this
  · rw [if_neg h, Nat.testBit_shiftLeft, Nat.testBit_shiftRight]
    have hb := log2_bit h
    rw [Nat.testBit_and, Bool.and_eq_true] at hb
    have ht : ∀ l, x.testBit l = true → L.testBit l = true → l ≤ Nat.log2 (x &&& L) := fun l h1 h2 => log2_top (by rw [Nat.testBit_and, h1, h2]; rfl)
    generalize Nat.log2 (x &&& L) = m at *
    simp only [Bool.and_eq_true, decide_eq_true_eq]
    constructor
    · rintro ⟨h1, h2⟩
      rw [show m + (i - m) = i by omega] at h2
      exact ⟨h2, fun l h3 h4 => by have := ht l h3 h4; omega⟩
    · rintro ⟨h1, h2⟩
      have h3 := h2 m hb.1 hb.2
      exact ⟨h3, by rw [show m + (i - m) = i by omega]; exact h1⟩
theorem pr1_acc {L x : Nat} (hL : ∀ l, L.testBit l = true → l ≤ T.length) {w : List Int} : AccS T L.testBit (pr1 L x) w ↔ AccS T L.testBit x w := by
  constructor
  · rintro ⟨i, h1, h2⟩
    exact ⟨i, (pr1_bit.1 h1).1, h2⟩
  · rintro ⟨i, h1, h2⟩
    by_cases h : ∀ l, x.testBit l = true → L.testBit l = true → l ≤ i
    · exact ⟨i, pr1_bit.2 ⟨h1, h⟩, h2⟩
    · have hz : x &&& L ≠ 0 := by
        intro e
        apply h
        intro l h3 h4
        have : (x &&& L).testBit l = true := by rw [Nat.testBit_and, h3, h4]; rfl
        rw [e] at this
        simp at this
      have hb := log2_bit hz
      rw [Nat.testBit_and, Bool.and_eq_true] at hb
      have ht : ∀ l, x.testBit l = true → L.testBit l = true → l ≤ Nat.log2 (x &&& L) := fun l h1 h2 => log2_top (by rw [Nat.testBit_and, h1, h2]; rfl)
      refine ⟨Nat.log2 (x &&& L), pr1_bit.2 ⟨hb.1, ht⟩, accW_last hb.2 (hL _ hb.2) ?_ h2⟩
      refine Nat.le_of_lt (Nat.lt_of_not_le fun h5 => h fun l h3 h4 => Nat.le_trans (ht l h3 h4) h5)
/-- One place less. -/
def del (s k : Nat) : Nat := s ^^^ (s &&& 2 ^ k)
theorem del_bit (s k i : Nat) : (del s k).testBit i = (s.testBit i && decide (i ≠ k)) := by
  unfold del
  rw [Nat.testBit_xor, Nat.testBit_and, Nat.testBit_two_pow]
  by_cases e : k = i
  · subst e; cases s.testBit k <;> simp
  · have : ¬ i = k := fun h => e h.symm
    cases s.testBit i <;> simp [e, this]
/-- Those that one further on covers go. -/
def pr2 (C : Nat → Nat) (x : Nat) : Nat → Nat
  | 0 => x
  | k + 1 => if pr2 C x k &&& C k = 0 then pr2 C x k else del (pr2 C x k) k
theorem pr2_sub (C : Nat → Nat) (x : Nat) : ∀ {k i : Nat}, (pr2 C x k).testBit i = true → x.testBit i = true
  | 0, _, h => h
  | k + 1, i, h => by
    rw [pr2] at h
    split at h
    · exact pr2_sub C x h
    · rw [del_bit, Bool.and_eq_true] at h
      exact pr2_sub C x h.1
theorem pr2_mono (C : Nat → Nat) (x : Nat) {j : Nat} : ∀ {k i : Nat}, j ≤ k → (pr2 C x k).testBit i = true → (pr2 C x j).testBit i = true
  | 0, i, hj, h => by rw [show j = 0 by omega]; exact h
  | k + 1, i, hj, h => by
    by_cases e : j = k + 1
    · rw [e]; exact h
    · refine pr2_mono C x (k := k) (by omega) ?_
      rw [pr2] at h
      split at h
      · exact h
      · rw [del_bit, Bool.and_eq_true] at h
        exact h.1
theorem pr2_high (C : Nat → Nat) (x : Nat) : ∀ {k i : Nat}, k ≤ i → (pr2 C x k).testBit i = x.testBit i
  | 0, _, _ => rfl
  | k + 1, i, h => by
    rw [pr2]
    split
    · exact pr2_high C x (by omega)
    · rw [del_bit, pr2_high C x (by omega), decide_eq_true (by omega), Bool.and_true]
def CovOK (T : List Int) (lp : Nat → Bool) (C : Nat → Nat) : Prop := ∀ p, p < T.length → ∀ q, (C p).testBit q = true ↔ Cov T lp p q
theorem pr2_free {C : Nat → Nat} (hC : CovOK T lp C) {x p q : Nat} (hp : p < T.length) (h1 : (pr2 C x T.length).testBit p = true) (h2 : (pr2 C x T.length).testBit q = true) : ¬ Cov T lp p q := by
  intro hc
  have h3 := pr2_mono C x (j := p + 1) (by omega) h1
  have h4 := pr2_mono C x (j := p) (by omega) h2
  rw [pr2] at h3
  split at h3
  · rename_i e
    have : (pr2 C x p &&& C p).testBit q = true := by rw [Nat.testBit_and, h4, (hC p hp q).2 hc]; rfl
    rw [e] at this
    simp at this
  · rw [del_bit] at h3
    simp at h3
theorem pr2_gone {C : Nat → Nat} (hC : CovOK T lp C) {x : Nat} : ∀ {k i : Nat}, k ≤ T.length → x.testBit i = true → (pr2 C x k).testBit i = false → ∃ q, x.testBit q = true ∧ Cov T lp i q
  | 0, i, _, h1, h2 => by rw [pr2, h1] at h2; cases h2
  | k + 1, i, hk, h1, h2 => by
    rw [pr2] at h2
    split at h2
    · exact pr2_gone hC (by omega) h1 h2
    · rename_i e
      rw [del_bit] at h2
      by_cases ei : i = k
      · subst ei
        obtain ⟨q, hq⟩ : ∃ q, (pr2 C x i &&& C i).testBit q = true := ⟨_, log2_bit e⟩
        rw [Nat.testBit_and, Bool.and_eq_true] at hq
        exact ⟨q, pr2_sub C x hq.1, (hC i (by omega) q).1 hq.2⟩
      · rw [decide_eq_true ei, Bool.and_true] at h2
        exact pr2_gone hC (by omega) h1 h2
theorem pr2_acc {C : Nat → Nat} (hC : CovOK T lp C) {x : Nat} {w : List Int} : AccS T lp (pr2 C x T.length) w ↔ AccS T lp x w := by
  constructor
  · rintro ⟨i, h1, h2⟩
    exact ⟨i, pr2_sub C x h1, h2⟩
  · rintro ⟨i, h1, h2⟩
    have key : ∀ (d i : Nat), T.length ≤ i + d → x.testBit i = true → accW T lp i w = true → AccS T lp (pr2 C x T.length) w := by
      intro d
      induction d with
      | zero => intro i hi h1 h2; exact ⟨i, by rw [pr2_high C x (by omega)]; exact h1, h2⟩
      | succ d ih =>
        intro i hi h1 h2
        cases hb : (pr2 C x T.length).testBit i with
        | true => exact ⟨i, hb, h2⟩
        | false =>
          obtain ⟨q, hq, hc⟩ := pr2_gone hC (Nat.le_refl _) h1 hb
          exact ih q (by have := hc.2.1; omega) hq (hc.acc h2)
    exact key T.length i (by omega) h1 h2
def prn (T : List Int) (L : Nat) (C : Nat → Nat) (x : Nat) : Nat := pr2 C (pr1 L x) T.length
def stepW (T : List Int) (L : Nat) (C : Nat → Nat) (x : Nat) (c : Int) : Nat := prn T L C (moveI T L x c)
theorem prn_acc {L : Nat} {C : Nat → Nat} (hL : ∀ l, L.testBit l = true → l ≤ T.length) (hC : CovOK T L.testBit C) {x : Nat} {w : List Int} : AccS T L.testBit (prn T L C x) w ↔ AccS T L.testBit x w := (pr2_acc hC).trans (pr1_acc hL)
/-- What the sets that are met keep to. -/
structure PlOK (T : List Int) (L : Nat) (x : Nat) : Prop where
  le : ∀ i, x.testBit i = true → i ≤ T.length
  free : ∀ p q, x.testBit p = true → x.testBit q = true → ¬ Cov T L.testBit p q
  top : ∀ i l, x.testBit i = true → x.testBit l = true → L.testBit l = true → l ≤ i
  seg : ∀ q l, x.testBit q = true → l ≤ q → L.testBit l = true → (∀ i, l < i → i ≤ q → L.testBit i = false) → x.testBit l = true
theorem prn_ok {L : Nat} {C : Nat → Nat} (hC : CovOK T L.testBit C) {x : Nat} (hle : ∀ i, x.testBit i = true → i ≤ T.length)
    (hseg : ∀ q l, x.testBit q = true → l ≤ q → L.testBit l = true → (∀ i, l < i → i ≤ q → L.testBit i = false) → x.testBit l = true) : PlOK T L (prn T L C x) := by
  have sub : ∀ {i}, (prn T L C x).testBit i = true → x.testBit i = true ∧ ∀ l, x.testBit l = true → L.testBit l = true → l ≤ i := fun h => pr1_bit.1 (pr2_sub C _ h)
  refine ⟨fun i h => hle i (sub h).1, fun p q h1 h2 hc => ?_, fun i l h1 h2 h3 => (sub h1).2 l (sub h2).1 h3, fun q l h1 h2 h3 h4 => ?_⟩
  · obtain ⟨e, h5, h6, _⟩ := hc.2.2
    exact pr2_free hC (by have := hc.2.1; omega) h1 h2 hc
  · have h5 := hseg q l (sub h1).1 h2 h3 h4
    have h6 : (pr1 L x).testBit l = true := pr1_bit.2 ⟨h5, fun m hm1 hm2 => by
      have h7 := (sub h1).2 m hm1 hm2
      by_cases h8 : l < m
      · have := h4 m h8 h7
        rw [hm2] at this
        cases this
      · omega⟩
    cases hb : (prn T L C x).testBit l with
    | true => rfl
    | false =>
      obtain ⟨r, _, hc⟩ := pr2_gone hC (Nat.le_refl _) h6 hb
      have := hc.1
      rw [h3] at this
      cases this
theorem PlOK.step {L : Nat} {C : Nat → Nat} (hC : CovOK T L.testBit C) (hL : ∀ l, L.testBit l = true → l ≤ T.length) {x : Nat} (h : PlOK T L x) (c : Int) : PlOK T L (stepW T L C x c) := by
  refine prn_ok hC (fun i hi => ?_) (fun q l h1 h2 h3 h4 => ?_)
  · rcases moveI_bit.1 hi with ⟨j, rfl, _, h1, _⟩ | ⟨_, h1⟩
    · omega
    · exact hL i h1
  · by_cases e : l = q
    · exact e ▸ h1
    · rcases moveI_bit.1 h1 with ⟨j, rfl, h5, h6, _⟩ | ⟨_, h5⟩
      · exact moveI_bit.2 (Or.inr ⟨h.seg j l h5 (by omega) h3 (fun i a b => h4 i a (by omega)), h3⟩)
      · have := h4 q (by omega) (Nat.le_refl _)
        rw [h5] at this
        cases this
theorem PlOK.first {L : Nat} {C : Nat → Nat} (hC : CovOK T L.testBit C) : PlOK T L (prn T L C 1) := by
  have h1 : ∀ i, (1 : Nat).testBit i = true → i = 0 := by
    intro i hi
    have : (2 ^ 0).testBit i = true := by simpa using hi
    rw [Nat.testBit_two_pow] at this
    exact (by simpa using this : 0 = i).symm
  refine prn_ok hC (fun i hi => by rw [h1 i hi]; omega) (fun q l h2 h3 h4 h5 => ?_)
  have := h1 q h2
  rw [show l = 0 by omega]
  rfl
theorem PlOK.lt {L x : Nat} (h : PlOK T L x) (hn : T.length ≤ 30) : x < 2147483648 := by
  rw [show (2147483648 : Nat) = 2 ^ 31 from rfl]
  refine Nat.lt_pow_two_of_testBit x fun i hi => ?_
  cases hb : x.testBit i with
  | false => rfl
  | true => have := h.le i hb; omega
/-- The shortest text from a place. -/
def shortW (T : List Int) (p : Nat) : List Int := (T.drop p).map fun t => if t = -2 then -1 else t
theorem shortW_len (T : List Int) (p : Nat) : (shortW T p).length = T.length - p := by simp [shortW]
theorem shortW_at {p i : Nat} (h : p + i < T.length) : (shortW T p).getD i 0 = if T.getD (p + i) 0 = -2 then -1 else T.getD (p + i) 0 := by
  unfold shortW
  rw [List.getD_eq_getElem?_getD, List.getElem?_map, List.getElem?_drop, List.getElem?_eq_getElem h, List.getD_eq_getElem?_getD, List.getElem?_eq_getElem h]
  rfl
theorem shortW_acc {p : Nat} (hp : p ≤ T.length) : accW T lp p (shortW T p) = true := by
  refine accW_back (T.length - p) p _ (by omega) (by rw [shortW_len]; omega) (fun i hi => ?_) ?_
  · rw [shortW_at (by omega)]
    unfold hitA
    by_cases e : T.getD (p + i) 0 = -2
    · rw [e]; simp
    · rw [if_neg e]; simp
  · rw [List.drop_eq_nil_of_le (by rw [shortW_len]; omega), accW_nil]
    omega
theorem top_diff : ∀ (n : Nat) {x y : Nat}, x ≠ y → (∀ i, n ≤ i → x.testBit i = y.testBit i) → ∃ p, x.testBit p ≠ y.testBit p ∧ ∀ i, p < i → x.testBit i = y.testBit i
  | 0, x, y, h, he => absurd (Nat.eq_of_testBit_eq fun i => he i (by omega)) h
  | n + 1, x, y, h, he => by
    by_cases e : x.testBit n = y.testBit n
    · exact top_diff n h fun i hi => by
        by_cases ei : i = n
        · rw [ei]; exact e
        · exact he i (by omega)
    · exact ⟨n, e, fun i hi => he i (by omega)⟩
theorem short_only {L x y p : Nat} (hT : ∀ t ∈ T, 0 ≤ t ∨ t = -2) (hx : PlOK T L x) (hy : PlOK T L y) (h1 : x.testBit p = true) (h2 : y.testBit p = false) (h3 : ∀ i, p < i → x.testBit i = y.testBit i) : ¬ AccS T L.testBit y (shortW T p) := by
  rintro ⟨q, hq, ha⟩
  have hp := hx.le p h1
  have h4 := accW_len ha
  rw [shortW_len] at h4
  have hqn := hy.le q hq
  have hne : q ≠ p := by rintro rfl; rw [h2] at hq; cases hq
  have hqx : x.testBit q = true := by rw [h3 q (by omega)]; exact hq
  have hlast : ∀ i, p < i → i ≤ q → L.testBit i = false := by
    have key : ∀ d i, q ≤ i + d → p < i → i ≤ q → L.testBit i = false := by
      intro d
      induction d with
      | zero =>
        intro i h5 h6 h7
        cases hb : L.testBit i with
        | false => rfl
        | true =>
          have h8 : x.testBit i = true := by rw [show i = q by omega]; exact hqx
          have := hx.top p i h1 h8 hb
          omega
      | succ d ih =>
        intro i h5 h6 h7
        cases hb : L.testBit i with
        | false => rfl
        | true =>
          have h8 := hx.seg q i hqx h7 hb (fun j a b => ih j (by omega) (by omega) b)
          have := hx.top p i h1 h8 hb
          omega
    exact fun i a b => key (q - i) i (by omega) a b
  by_cases hl : ∃ e, q < e ∧ e ≤ T.length ∧ L.testBit e = true
  · obtain ⟨e, g1, g2, g3, g4⟩ : ∃ e, q < e ∧ e ≤ T.length ∧ L.testBit e = true ∧ ∀ i, q < i → i < e → L.testBit i = false := by
      obtain ⟨e, g1, g2, g3⟩ := hl
      have key : ∀ d e, e ≤ q + d → q < e → e ≤ T.length → L.testBit e = true → ∃ e, q < e ∧ e ≤ T.length ∧ L.testBit e = true ∧ ∀ i, q < i → i < e → L.testBit i = false := by
        intro d
        induction d with
        | zero => intro e a b; omega
        | succ d ih =>
          intro e a b c g
          by_cases hh : ∃ i, q < i ∧ i < e ∧ L.testBit i = true
          · obtain ⟨i, k1, k2, k3⟩ := hh
            exact ih i (by omega) k1 (by omega) k3
          · refine ⟨e, b, c, g, fun i k1 k2 => ?_⟩
            cases hb : L.testBit i with
            | false => rfl
            | true => exact absurd ⟨i, k1, k2, hb⟩ hh
      exact key (e - q) e (by omega) g1 g2 g3
    obtain ⟨k1, k2, _⟩ := accW_run (e - q) q _ (fun i a b => by
      by_cases ei : i = q
      · rw [ei]; exact hlast q (by omega) (Nat.le_refl _)
      · exact g4 i (by omega) (by omega)) (by omega) ha
    cases hlp : L.testBit p with
    | true =>
      have := hy.seg q p hq (by omega) hlp hlast
      rw [h2] at this
      cases this
    | false =>
      refine hx.free p q h1 hqx ⟨hlp, by omega, e, g1, g2, g3, fun i a b => ?_, fun i hi => ?_⟩
      · by_cases hiq : i ≤ q
        · exact hlast i a hiq
        · exact g4 i (by omega) b
      · have k3 := k2 i (by omega)
        rw [shortW_at (by omega)] at k3
        unfold hitA at k3
        rw [Bool.or_eq_true, decide_eq_true_eq, decide_eq_true_eq] at k3
        rcases k3 with k3 | k3
        · by_cases et : T.getD (p + i) 0 = -2
          · rw [if_pos et] at k3
            have hm : T.getD (q + i) 0 ∈ T := by rw [List.getD_eq_getElem?_getD, List.getElem?_eq_getElem (show q + i < T.length by omega)]; exact List.getElem_mem _
            rcases hT _ hm with h | h <;> omega
          · rw [if_neg et] at k3; exact Or.inr k3
        · exact Or.inl k3
  · obtain ⟨k1, _, k3⟩ := accW_run (T.length - q) q _ (fun i a b => by
      by_cases ei : i = q
      · rw [ei]; exact hlast q (by omega) (Nat.le_refl _)
      · cases hb : L.testBit i with
        | false => rfl
        | true => exact absurd ⟨i, by omega, by omega, hb⟩ hl) (by omega) ha
    have hnl : L.testBit T.length = false := by
      cases hb : L.testBit T.length with
      | false => rfl
      | true =>
        by_cases hqe : q = T.length
        · have := hlast q (by omega) (Nat.le_refl _)
          rw [hqe, hb] at this
          cases this
        · exact absurd ⟨T.length, by omega, Nat.le_refl _, hb⟩ hl
    rw [show q + (T.length - q) = T.length by omega] at k3
    have hlen : ((shortW T p).drop (T.length - q)).length = q - p := by rw [List.length_drop, shortW_len]; omega
    generalize (shortW T p).drop (T.length - q) = u at *
    cases u with
    | nil => simp at hlen; omega
    | cons c u =>
      rcases (accW_cons _ _ _).1 k3 with h | h
      · omega
      · rw [hnl] at h; cases h.1
theorem sets_differ {L x y : Nat} (hT : ∀ t ∈ T, 0 ≤ t ∨ t = -2) (hx : PlOK T L x) (hy : PlOK T L y) (h : x ≠ y) : ∃ p, p ≤ T.length ∧ ¬ (AccS T L.testBit x (shortW T p) ↔ AccS T L.testBit y (shortW T p)) := by
  obtain ⟨p, h1, h2⟩ := top_diff (T.length + 1) h fun i hi => by
    cases hb : x.testBit i with
    | true => have := hx.le i hb; omega
    | false =>
      cases hb2 : y.testBit i with
      | true => have := hy.le i hb2; omega
      | false => rfl
  cases hb : x.testBit p with
  | true =>
    have hb2 : y.testBit p = false := by
      cases hb2 : y.testBit p with
      | false => rfl
      | true => rw [hb, hb2] at h1; exact absurd rfl h1
    refine ⟨p, hx.le p hb, fun hh => short_only hT hx hy hb hb2 h2 (hh.1 ⟨p, hb, shortW_acc (hx.le p hb)⟩)⟩
  | false =>
    have hb2 : y.testBit p = true := by
      cases hb2 : y.testBit p with
      | true => rfl
      | false => rw [hb, hb2] at h1; exact absurd rfl h1
    exact ⟨p, hy.le p hb2, fun hh => short_only hT hy hx hb2 hb (fun i hi => (h2 i hi).symm) (hh.2 ⟨p, hb2, shortW_acc (hy.le p hb2)⟩)⟩
end
end Go.Proofs.YtmnfioghhdgciaaDoor

namespace Go.Proofs.YtmnfioghhdgciaaDoor
open Go

/-! What fits a pattern, in plain words: -2 stands for any characters, -1 for one, all else for itself. -/
def one (x c : Int) : Bool := x == -1 || x == c
def fit : List Int → List Int → Bool
  | [], t => t.isEmpty
  | x :: p, [] => if x = -2 then fit p [] else false
  | x :: p, c :: t => if x = -2 then fit p (c :: t) || fit (x :: p) t else one x c && fit p t
termination_by p t => p.length + t.length
theorem fit_nil (t : List Int) : fit [] t = t.isEmpty := by rw [fit]
theorem fit_star_nil (p : List Int) : fit (-2 :: p) [] = fit p [] := by rw [fit]; simp
theorem fit_star_cons (p : List Int) (c : Int) (t : List Int) : fit (-2 :: p) (c :: t) = (fit p (c :: t) || fit (-2 :: p) t) := by rw [fit]; simp
theorem fit_one_nil {x : Int} (h : x ≠ -2) (p : List Int) : fit (x :: p) [] = false := by rw [fit]; simp [h]
theorem fit_one_cons {x : Int} (h : x ≠ -2) (p : List Int) (c : Int) (t : List Int) : fit (x :: p) (c :: t) = (one x c && fit p t) := by rw [fit]; simp [h]
/-- Where a stretch without stars stands at a text's beginning. -/
def seg : List Int → List Int → Bool
  | [], _ => true
  | _ :: _, [] => false
  | x :: s, c :: t => one x c && seg s t
def noStar (s : List Int) : Prop := ∀ x ∈ s, x ≠ -2
theorem noStar.tail {x : Int} {s : List Int} (h : noStar (x :: s)) : noStar s := fun y hy => h y (by simp [hy])
theorem fit_star (p : List Int) : ∀ t : List Int, fit (-2 :: p) t = true ↔ ∃ j, j ≤ t.length ∧ fit p (t.drop j) = true
  | [] => by
    rw [fit_star_nil]
    exact ⟨fun h => ⟨0, by simp, by simpa using h⟩, fun ⟨j, _, h⟩ => by simpa using h⟩
  | c :: t => by
    rw [fit_star_cons, Bool.or_eq_true, fit_star p t]
    constructor
    · rintro (h | ⟨j, hj, h⟩)
      · exact ⟨0, by simp, by simpa using h⟩
      · exact ⟨j + 1, by simp; omega, by simpa using h⟩
    · rintro ⟨j, hj, h⟩
      cases j with
      | zero => exact Or.inl (by simpa using h)
      | succ j => exact Or.inr ⟨j, by simp at hj; omega, by simpa using h⟩
/-- Each stretch as early as can be. -/
def gr : List (List Int) → List Int → Bool
  | [], _ => true
  | s :: r, [] => if seg s [] then gr r [] else false
  | s :: r, c :: u => if seg s (c :: u) then gr r ((c :: u).drop s.length) else gr (s :: r) u
termination_by l u => (l.length, u.length)
end Go.Proofs.YtmnfioghhdgciaaDoor
