import Derived.Test.YtanolccfmpbjgalDictOKJ09
namespace Go.Proofs.Ytanolccfmpbjgal
open Go
set_option linter.unusedVariables false

/-! The way of a text through a dictionary, in plain words. -/
/-- What stands behind the bytes p. -/
def subs : Tx → List Tx → List Tx
  | [], L => L
  | b :: p, L => subs p (subT b.toNat L)
/-- How many texts come ahead of t. -/
def rk (t : Tx) (L : List Tx) : Nat := L.countP fun s => ltT s t
theorem rk_nil (L : List Tx) : rk [] L = 0 := by
  unfold rk
  rw [List.countP_eq_zero]
  intro s _
  cases s <;> simp [ltT]
theorem rk_cons (b : UInt8) (r : Tx) : ∀ L : List Tx, rk (b :: r) L = aheadT b.toNat L + rk r (subT b.toNat L)
  | [] => rfl
  | s :: L => by
    have ih := rk_cons b r L
    unfold rk aheadT subT at ih ⊢
    rw [List.countP_cons, List.countP_cons, List.filterMap_cons, ih]
    cases s with
    | nil => simp [ltT, isAhead, tailIf]; omega
    | cons c q =>
      rcases Nat.lt_trichotomy c.toNat b.toNat with h | h | h
      · have h2 : ¬ c.toNat = b.toNat := by omega
        simp [ltT, isAhead, tailIf, h, h2]; omega
      · have h1 : c = b := UInt8.toNat_inj.1 h
        subst h1
        simp only [ltT, isAhead, tailIf, Nat.lt_irrefl, decide_false, Bool.false_or, beq_self_eq_true, Bool.true_and, if_true, List.countP_cons]
        simp; omega
      · have h2 : ¬ c.toNat = b.toNat := by omega
        have h3 : ¬ c = b := fun e => h2 (by rw [e])
        have h4 : ¬ c.toNat < b.toNat := by omega
        simp [ltT, isAhead, tailIf, h2, h3, h4]
theorem subs_snoc (b : UInt8) : ∀ (p : Tx) (L : List Tx), subs (p ++ [b]) L = subT b.toNat (subs p L)
  | [], L => rfl
  | a :: p, L => by rw [List.cons_append, subs, subs, subs_snoc b p]
theorem rk_snoc (b : UInt8) : ∀ (p : Tx) (L : List Tx), rk (p ++ [b]) L = rk p L + aheadT b.toNat (subs p L)
  | [], L => by rw [List.nil_append, rk_cons, rk_nil, rk_nil, subs]; omega
  | a :: p, L => by rw [List.cons_append, rk_cons, rk_snoc b p, rk_cons, subs]; omega
theorem subs_mem : ∀ {p : Tx} {L : List Tx} {t : Tx}, t ∈ subs p L ↔ p ++ t ∈ L
  | [], L, t => Iff.rfl
  | a :: p, L, t => by
    rw [subs, subs_mem, subT_mem, List.cons_append]
    constructor
    · rintro ⟨c, hc, h⟩
      rw [UInt8.toNat_inj.1 hc] at h
      exact h
    · exact fun h => ⟨a, rfl, h⟩
theorem subs_rise : ∀ {p : Tx} {L : List Tx}, RiseT L → RiseT (subs p L)
  | [], L, h => h
  | a :: p, L, h => by show RiseT (subs p (subT a.toNat L)); exact subs_rise (subT_rise h)
theorem subs_nil : ∀ (p : Tx), subs p [] = []
  | [] => rfl
  | a :: p => subs_nil p
theorem subs_append : ∀ (p q : Tx) (L : List Tx), subs (p ++ q) L = subs q (subs p L)
  | [], q, L => rfl
  | a :: p, q, L => by rw [List.cons_append, subs, subs, subs_append p q]
/-- In a rising list the place of a text is the number of those ahead of it. -/
theorem rise_rk : ∀ {L : List Tx} {t : Tx}, RiseT L → t ∈ L → L.idxOf t = rk t L
  | [], t, _, h => by simp at h
  | s :: L, t, hr, h => by
    have hr' := List.pairwise_cons.1 hr
    unfold rk
    rw [List.idxOf_cons, List.countP_cons]
    by_cases e : s = t
    · subst e
      rw [beq_self_eq_true, cond_true, ltT_irr]
      have : L.countP (fun x => ltT x s) = 0 := by
        rw [List.countP_eq_zero]
        intro x hx hlt
        have h1 := hr'.1 x hx
        have := ltT_trans h1 hlt
        rw [ltT_irr] at this
        cases this
      rw [this]; rfl
    · have ht : t ∈ L := by
        rcases List.mem_cons.1 h with h | h
        · exact absurd h.symm e
        · exact h
      have e2 : (s == t) = false := beq_false_of_ne e
      rw [e2, cond_false, rise_rk hr'.2 ht, hr'.1 t ht]
      rfl
theorem idx_find : ∀ {L : List Tx} {t : Tx} {i : Nat}, i < L.length → L.getD i [] = t → (∀ j, j < i → L.getD j [] ≠ t) → L.idxOf t = i
  | [], t, i, hi, _, _ => by simp at hi
  | s :: L, t, 0, _, he, _ => by
    simp at he
    subst he
    simp
  | s :: L, t, i + 1, hi, he, hn => by
    have h0 : s ≠ t := by have := hn 0 (by omega); simpa using this
    have e2 : (s == t) = false := beq_false_of_ne h0
    rw [List.idxOf_cons, e2, cond_false, idx_find (L := L) (t := t) (i := i) (by simpa using hi) (by simpa using he) (fun j hj => by have := hn (j + 1) (by omega); simpa using this)]
theorem find_not {L : List Tx} {t : Tx} (hn : ∀ j, j < L.length → L.getD j [] ≠ t) : t ∉ L := fun h => by
  obtain ⟨j, hj, rfl⟩ := List.getElem_of_mem h
  exact hn j hj (getD_at hj)
/-! A state of a dictionary. -/
section
variable {ts : List Tx} {ord : List (List Tx)}
theorem dict_at (hb : IsBfs nextT ts ord) {L : List Tx} (hL : L ∈ ord) : (ord.map (stOf ord)).getD (ord.idxOf L) st0 = stOf ord L := by
  rw [List.getD_eq_getElem?_getD, List.getElem?_map, idxOf_at hL]; rfl
theorem dict_next (hb : IsBfs nextT ts ord) {L : List Tx} (hL : L ∈ ord) {n : Nat} (hn : n ∈ labelsT L) : subT n L ∈ ord := hb.closed L hL _ (List.mem_map.2 ⟨n, hn, rfl⟩)
theorem dict_root (hb : IsBfs nextT ts ord) : ts ∈ ord ∧ ord.idxOf ts = 0 := by
  have h := hb.head
  refine ⟨List.mem_of_getElem? h, idxOf_of hb.nodup h⟩
/-- The arcs of a set: the k-th one. -/
theorem stOf_at {L : List Tx} {k : Nat} {n : Nat} (h : (labelsT L)[k]? = some n) : (stOf ord L).2[k]? = some ((n : Int), ((ord.idxOf (subT n L) : Nat) : Int), ((aheadT n L : Nat) : Int)) := by
  simp [stOf, h]
end
end Go.Proofs.Ytanolccfmpbjgal
