import Derived.Test.YtanolccfmpbjgalDfGK
namespace Go.Proofs.Ytanolccfmpbjgal
open Go
set_option linter.unusedVariables false

/-! The way of a number through a dictionary, in plain words. -/
theorem rk_append : ∀ (p q : Tx) (L : List Tx), rk (p ++ q) L = rk p L + rk q (subs p L)
  | [], q, L => by rw [List.nil_append, rk_nil, subs]; omega
  | a :: p, q, L => by rw [List.cons_append, rk_cons, rk_append p q, rk_cons, subs]; omega
theorem ahead_mono {n n' : Nat} (h : n ≤ n') (L : List Tx) : aheadT n L ≤ aheadT n' L := by
  refine List.countP_mono_left fun s _ hs => ?_
  cases s with
  | nil => rfl
  | cons c r =>
    simp only [isAhead, decide_eq_true_eq] at hs ⊢
    omega
theorem ahead_add {n n' : Nat} (h : n < n') : ∀ L : List Tx, aheadT n L + (subT n L).length ≤ aheadT n' L
  | [] => Nat.le_refl _
  | s :: L => by
    have ih := ahead_add h L
    unfold aheadT subT at ih ⊢
    rw [List.countP_cons, List.countP_cons, List.filterMap_cons]
    cases s with
    | nil => simp [isAhead, tailIf]; omega
    | cons c r =>
      by_cases h1 : c.toNat = n
      · have h2 : c.toNat < n' := by omega
        have h3 : ¬ c.toNat < n := by omega
        simp only [tailIf, if_pos h1, isAhead, h2, h3, decide_true, decide_false, if_true, List.length_cons]
        simp; omega
      · simp only [tailIf, if_neg h1, isAhead]
        by_cases h2 : c.toNat < n
        · have h3 : c.toNat < n' := by omega
          simp [h2, h3]; omega
        · simp [h2]; omega
theorem sub_pos {L : List Tx} {n : Nat} (h : n ∈ labelsT L) : 1 ≤ (subT n L).length := by
  have := (labelsT_mem.1 h).2
  exact List.length_pos_iff.2 this
theorem stOf_ahead (ord : List (List Tx)) (L : List Tx) : (stOf ord L).2.Pairwise fun a b => a.2.2 < b.2.2 := by
  unfold stOf
  rw [List.pairwise_map]
  refine (labelsT_lt L).imp_of_mem fun {a b} ha hb h => ?_
  have h1 := ahead_add h L
  have h2 := sub_pos ha
  show ((aheadT a L : Nat) : Int) < ((aheadT b L : Nat) : Int)
  omega
theorem rise_lt {L : List Tx} {q : Tx} (hr : RiseT L) (hq : q ∈ L) : rk q L < L.length := by
  rw [← rise_rk hr hq]
  exact List.idxOf_lt_length_of_mem hq
theorem rk_pos {L : List Tx} {q : Tx} (h0 : [] ∈ L) (hq : q ≠ []) : 0 < rk q L := by
  unfold rk
  rw [List.countP_pos_iff]
  refine ⟨[], h0, ?_⟩
  cases q with
  | nil => exact absurd rfl hq
  | cons b r => rfl
/-- Which arc leads on to a text. -/
theorem seek_arc {ord : List (List Tx)} {L : List Tx} {b : UInt8} {q : Tx} (hr : RiseT L) (hm : (b :: q) ∈ L) :
    b.toNat ∈ labelsT L ∧ q ∈ subT b.toNat L ∧ ∃ k, below (fun a => a.2.2) (((rk (b :: q) L : Nat) : Int) + 1) (stOf ord L).2 = k + 1 ∧ (stOf ord L).2[k]? = some ((b.toNat : Int), ((ord.idxOf (subT b.toNat L) : Nat) : Int), ((aheadT b.toNat L : Nat) : Int)) := by
  have hq : q ∈ subT b.toNat L := subT_mem.2 ⟨b, rfl, hm⟩
  have hl : b.toNat ∈ labelsT L := labelsT_mem.2 ⟨UInt8.toNat_lt b, fun e => by rw [e] at hq; simp at hq⟩
  refine ⟨hl, hq, ?_⟩
  obtain ⟨k, hk, hkb⟩ := List.getElem_of_mem hl
  have hk' : (labelsT L)[k]? = some b.toNat := by rw [List.getElem?_eq_getElem hk, hkb]
  have hlen : (stOf ord L).2.length = (labelsT L).length := by simp [stOf]
  have hrk := rk_cons b q L
  have hlt := rise_lt (subT_rise (n := b.toNat) hr) hq
  have hget : ∀ t (ht : t < (labelsT L).length), ((stOf ord L).2.getD t ar0).2.2 = ((aheadT (labelsT L)[t] L : Nat) : Int) := fun t ht => by
    have := stOf_at (ord := ord) (List.getElem?_eq_getElem ht)
    rw [List.getD_eq_getElem?_getD, this]; rfl
  refine ⟨k, below_edge _ _ _ _ (by omega) (fun t ht => ?_) (fun t ht1 ht2 => ?_), stOf_at hk'⟩
  · have htl : t < (labelsT L).length := by omega
    rw [hget t htl]
    have : (labelsT L)[t] ≤ b.toNat := by
      by_cases e : t = k
      · subst e; omega
      · have := List.pairwise_iff_getElem.1 (labelsT_lt L) t k htl hk (by omega); omega
    have := ahead_mono this L
    omega
  · have htl : t < (labelsT L).length := by omega
    rw [hget t htl]
    have h1 : b.toNat < (labelsT L)[t] := by
      have := List.pairwise_iff_getElem.1 (labelsT_lt L) k t hk htl (by omega); omega
    have := ahead_add h1 L
    omega
end Go.Proofs.Ytanolccfmpbjgal
