import Derived.Test.YtefhmbnhhkgifaaDoorReadLogJ36
import Derived.Test.YtefhmbnhhkgifaaDoorReadLogJ32
namespace Go.Proofs.YtefhmbnhhkgifaaDoor
open Go Go.RowKit
set_option linter.unusedVariables false
set_option linter.unusedSimpArgs false
set_option maxRecDepth 100000

/-! How many marks a record takes, and that no log asks for many. -/
def mkN (V : List Vl) : Nat := V.length + (V.map fun v => v.2.1.length + v.2.2.length).sum
theorem mkN_snoc (V : List Vl) (v : Vl) : mkN (V ++ [v]) = mkN V + 1 + v.2.1.length + v.2.2.length := by
  simp [mkN]; omega
theorem kAt_take (V : List Vl) (k : Nat) : ∀ j, j ≤ V.length → kAt (lensV V) k j = k + mkN (V.take j)
  | 0, _ => by simp [kAt, mkN]
  | j + 1, h => by
    have ih := kAt_take V k j (by omega)
    have e : V.take (j + 1) = V.take j ++ [V.getD j vl0] := by
      rw [List.take_succ_eq_append_getElem (by omega)]
      simp [List.getD_eq_getElem?_getD, show j < V.length by omega]
    simp only [kAt]
    rw [ih, e, mkN_snoc, lensV_at V j (by omega)]
    omega
theorem lensV_len (V : List Vl) : (lensV V).length = V.length := by simp [lensV]
theorem kAt_all (V : List Vl) (k : Nat) : kAt (lensV V) k (lensV V).length = k + mkN V := by
  rw [lensV_len, kAt_take V k V.length (Nat.le_refl _), List.take_length]
theorem flat_ge {X : Type} (f : X → List UInt8) (g : X → Nat) (hg : ∀ x, g x ≤ (f x).length) : ∀ l : List X, (l.map g).sum ≤ (l.flatMap f).length
  | [] => by simp
  | x :: l => by
    have := flat_ge f g hg l
    have := hg x
    simp only [List.map_cons, List.sum_cons, List.flatMap_cons, List.length_append]
    omega
theorem flat_len1 {X : Type} (f : X → List UInt8) (h : ∀ x, 1 ≤ (f x).length) (l : List X) : l.length ≤ (l.flatMap f).length := by
  induction l with
  | nil => simp
  | cons x t ih =>
    have := h x
    simp only [List.flatMap_cons, List.length_append, List.length_cons]
    omega
theorem vlB_ge (v : Vl) : 1 + (v.2.1.length + v.2.2.length) ≤ (vlB v).length := by
  have h1 := putL_pos v.1.length
  have h2 := flat_len1 txB (fun t => by have := putL_pos t.length; rw [txB, List.length_append]; omega) v.2.1
  have h3 := flat_len1 nuB (fun z => putL_pos _) v.2.2
  simp only [vlB, txB, List.length_append] at *
  omega
theorem mkN_le (did : List UInt8) (V : List Vl) : mkN V ≤ (dcB (did, V)).length := by
  have h := flat_ge vlB (fun v => 1 + (v.2.1.length + v.2.2.length)) vlB_ge V
  have e : (V.map fun v => 1 + (v.2.1.length + v.2.2.length)).sum = mkN V := by
    unfold mkN
    induction V with
    | nil => rfl
    | cons v t ih => simp only [List.map_cons, List.sum_cons, List.length_cons] at *; have := flat_ge vlB (fun v => 1 + (v.2.1.length + v.2.2.length)) vlB_ge t; have := ih this; omega
  rw [e] at h
  simp only [dcB, List.length_append]
  omega
theorem nextR_mk {r r' : List UInt8} {q : Nat} {x : Rc} (h : nextR r q = some (x, r')) : mkN x.2.2.2.2 + 4 + r'.length ≤ r.length := by
  unfold nextR at h
  cases h1 : rdN 1048576 r with
  | none => rw [h1] at h; simp at h
  | some p =>
    obtain ⟨n, r1⟩ := p
    rw [h1] at h; simp only at h
    have hl := rdN_len h1
    split at h
    · rename_i hc
      cases hp : partR (r1.take n) with
      | none => rw [hp] at h; simp at h
      | some y =>
        rw [hp] at h
        simp only at h
        split at h
        · simp only [Option.some.injEq, Prod.mk.injEq] at h
          obtain ⟨rfl, rfl⟩ := h
          obtain ⟨h3, h4⟩ := partR_part hp
          have h5 := congrArg List.length h3
          rw [List.length_take] at h5
          rw [List.length_drop]
          obtain ⟨kd, sq, id, did, V⟩ := y
          have h6 : mkN V ≤ (rcPart (kd, sq, id, (did, V))).length := by
            by_cases hk : kd = 1
            · have := mkN_le did V
              simp only [rcPart, if_pos hk, List.length_cons, List.length_append]
              omega
            · simp only [rcOK, if_neg hk, Bool.and_eq_true, decide_eq_true_eq] at h4
              have : V = [] := List.length_eq_zero_iff.1 h4.2.2
              subst this
              simp [mkN]
          dsimp only
          omega
        · simp at h
    · simp at h
/-- The number at which record i's marks begin. -/
def kL (L : List Rc) (k : Nat) : Nat → Nat
  | 0 => k
  | i + 1 => kL L k i + 4 + mkN (L.getD i rc0).2.2.2.2
theorem kL_app (L M : List Rc) (k : Nat) : ∀ i, i ≤ L.length → kL (L ++ M) k i = kL L k i
  | 0, _ => rfl
  | i + 1, h => by
    have := kL_app L M k i (by omega)
    simp only [kL]
    rw [this]
    simp [List.getD_eq_getElem?_getD, List.getElem?_append_left (show i < L.length by omega)]
theorem kL_bound {bs : List UInt8} (k : Nat) : ∀ (n : Nat) {L : List Rc} {r : List UInt8}, runK bs n = some (L, r) → kL L k L.length + r.length ≤ k + bs.length
  | 0, L, r, h => by simp only [runK, Option.some.injEq, Prod.mk.injEq] at h; obtain ⟨rfl, rfl⟩ := h; simp [kL]
  | n + 1, L, r, h => by
    simp only [runK] at h
    cases h1 : runK bs n with
    | none => rw [h1] at h; simp at h
    | some p =>
      obtain ⟨L', r'⟩ := p
      rw [h1] at h; simp only at h
      have a := kL_bound k n h1
      cases h2 : nextR r' (L'.length + 1) with
      | none => rw [h2] at h; simp at h
      | some q =>
        obtain ⟨x, r2⟩ := q
        rw [h2] at h
        simp only [Option.some.injEq, Prod.mk.injEq] at h
        obtain ⟨rfl, rfl⟩ := h
        have b := nextR_mk h2
        rw [List.length_append, List.length_singleton]
        simp only [kL]
        rw [kL_app L' [x] k L'.length (Nat.le_refl _)]
        have e : (L' ++ [x]).getD L'.length rc0 = x := by simp [List.getD_eq_getElem?_getD]
        rw [e]
        omega
theorem kL_mono (L : List Rc) (k : Nat) : ∀ i j, i ≤ j → kL L k i ≤ kL L k j
  | i, 0, h => by obtain rfl : i = 0 := by omega
                  exact Nat.le_refl _
  | i, j + 1, h => by
    by_cases e : i = j + 1
    · subst e; exact Nat.le_refl _
    · have := kL_mono L k i j (by omega)
      simp only [kL]
      omega
theorem part_small {p : List UInt8} {x : Rc} (h : partR p = some x) : x.2.2.2.2.length ≤ 4096 ∧ ∀ v ∈ x.2.2.2.2, smallV v := by
  have h4 := (partR_part h).2
  obtain ⟨kd, sq, id, did, V⟩ := x
  by_cases hk : kd = 1
  · simp only [rcOK, if_pos hk, Bool.and_eq_true] at h4
    have := dcOK_parts h4.2.2
    exact ⟨this.1.2, fun v hv => (vlOK_parts (this.2 v hv)).1⟩
  · simp only [rcOK, if_neg hk, Bool.and_eq_true, decide_eq_true_eq] at h4
    have : V = [] := List.length_eq_zero_iff.1 h4.2.2
    subst this
    exact ⟨by simp, fun v hv => by simp at hv⟩
theorem next_small {r r' : List UInt8} {q : Nat} {x : Rc} (h : nextR r q = some (x, r')) : x.2.2.2.2.length ≤ 4096 ∧ ∀ v ∈ x.2.2.2.2, smallV v := by
  unfold nextR at h
  cases h1 : rdN 1048576 r with
  | none => rw [h1] at h; simp at h
  | some p =>
    obtain ⟨n, r1⟩ := p
    rw [h1] at h; simp only at h
    split at h
    · cases hp : partR (r1.take n) with
      | none => rw [hp] at h; simp at h
      | some y =>
        rw [hp] at h
        simp only at h
        split at h
        · simp only [Option.some.injEq, Prod.mk.injEq] at h
          obtain ⟨rfl, rfl⟩ := h
          exact part_small hp
        · simp at h
    · simp at h
theorem runK_small {bs : List UInt8} : ∀ (n : Nat) {L : List Rc} {r : List UInt8}, runK bs n = some (L, r) → ∀ x ∈ L, x.2.2.2.2.length ≤ 4096 ∧ ∀ v ∈ x.2.2.2.2, smallV v
  | 0, L, r, h => by simp only [runK, Option.some.injEq, Prod.mk.injEq] at h; obtain ⟨rfl, rfl⟩ := h; simp
  | n + 1, L, r, h => by
    simp only [runK] at h
    cases h1 : runK bs n with
    | none => rw [h1] at h; simp at h
    | some p =>
      obtain ⟨L', r'⟩ := p
      rw [h1] at h; simp only at h
      have a := runK_small n h1
      cases h2 : nextR r' (L'.length + 1) with
      | none => rw [h2] at h; simp at h
      | some q =>
        obtain ⟨x, r2⟩ := q
        rw [h2] at h
        simp only [Option.some.injEq, Prod.mk.injEq] at h
        obtain ⟨rfl, rfl⟩ := h
        intro y hy
        rcases List.mem_append.1 hy with hy | hy
        · exact a y hy
        · simp only [List.mem_singleton] at hy
          subst hy
          exact next_small h2
end Go.Proofs.YtefhmbnhhkgifaaDoor
