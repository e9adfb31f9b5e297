import Derived.Test.YtjndogajdlophaaDcG
import Derived.Test.YtjndogajdlophaaDcF
namespace Go.Proofs.Ytjndogajdlophaa
open Go Go.RowKit
set_option linter.unusedVariables false

/-! spec's count of endings, in plain words: -1 not yet, -2 under way. -/
def valD (D : List Int) (j : Nat) : Int := D.getD j (-1)
def ArcIn (n : Nat) (a : Ar) : Prop := 0 ≤ a.1 ∧ a.1 ≤ 255 ∧ 0 ≤ a.2.1 ∧ a.2.1.toNat < n
def sumD (D : List Int) (l : List Ar) : Int := (l.map fun a => valD D a.2.1.toNat).sum
structure CntOK (S : List St) (D : List Int) (ρ : Nat → Nat) (M : Nat) : Prop where
  len : D.length = S.length
  dom : ∀ i, i < S.length → -2 ≤ valD D i ∧ valD D i ≤ 4097
  few : ∀ i, i < S.length → 0 < valD D i → (arcsAt S i).length ≤ 256
  arcs : ∀ i, i < S.length → 0 < valD D i → ∀ a ∈ arcsAt S i, ArcIn S.length a ∧ 0 < valD D a.2.1.toNat ∧ ρ a.2.1.toNat < ρ i
  num : ∀ i, i < S.length → 0 < valD D i → valD D i = min 4097 ((if finAt S i then 1 else 0) + sumD D (arcsAt S i))
  top : ∀ i, i < S.length → 0 < valD D i → ρ i < M
/-- What is known agrees with the counts of a dictionary. -/
def AgreeD (S : List St) (D : List Int) (e : Nat → Nat) : Prop := ∀ i, i < S.length → 0 ≤ valD D i → valD D i = (e i : Int)
theorem valD_set (D : List Int) (i : Nat) (x : Int) (j : Nat) (hi : i < D.length) : valD (D.set i x) j = if j = i then x else valD D j := by
  unfold valD
  rw [List.getD_eq_getElem?_getD, List.getD_eq_getElem?_getD, List.getElem?_set]
  by_cases h : j = i
  · subst h; simp [hi]
  · rw [if_neg h, if_neg (fun e => h e.symm)]
theorem sumD_congr {D D' : List Int} {l : List Ar} (h : ∀ a ∈ l, valD D a.2.1.toNat = valD D' a.2.1.toNat) : sumD D l = sumD D' l := by
  unfold sumD
  rw [List.map_congr_left h]
theorem sumD_take {D : List Int} {l : List Ar} {k : Nat} {a : Ar} (h : l[k]? = some a) : sumD D (l.take (k + 1)) = sumD D (l.take k) + valD D a.2.1.toNat := by
  obtain ⟨hk, rfl⟩ := List.getElem?_eq_some_iff.1 h
  rw [sumD, List.take_succ_eq_append_getElem hk, List.map_append, List.sum_append]
  simp [sumD]
theorem sumD_nonneg {D : List Int} : ∀ {l : List Ar}, (∀ a ∈ l, 0 < valD D a.2.1.toNat) → 0 ≤ sumD D l
  | [], _ => by simp [sumD]
  | a :: t, h => by
    have h1 := h a (by simp)
    have h2 := sumD_nonneg (fun b hb => h b (List.mem_cons_of_mem _ hb) : ∀ b ∈ t, 0 < valD D b.2.1.toNat)
    unfold sumD at *
    rw [List.map_cons, List.sum_cons]
    omega
/-- A state that is under way, or was told bad, is put down. -/
theorem CntOK.put {S : List St} {D : List Int} {ρ : Nat → Nat} {M i : Nat} (h : CntOK S D ρ M) (hi : i < S.length) (h0 : valD D i ≤ 0) (x : Int) (hx : -2 ≤ x ∧ x ≤ 0) : CntOK S (D.set i x) ρ M := by
  have v := fun j => valD_set D i x j (by rw [h.len]; exact hi)
  have hpos : ∀ j, 0 < valD (D.set i x) j → j ≠ i ∧ 0 < valD D j := fun j hj => by
    rw [v] at hj
    by_cases hji : j = i
    · rw [if_pos hji] at hj; omega
    · rw [if_neg hji] at hj; exact ⟨hji, hj⟩
  have hto : ∀ j, j < S.length → 0 < valD D j → ∀ a ∈ arcsAt S j, valD (D.set i x) a.2.1.toNat = valD D a.2.1.toNat := fun j hj hp a ha => by
    have := (h.arcs j hj hp a ha).2.1
    rw [v, if_neg (fun e => by rw [e] at this; omega)]
  refine ⟨by simpa using h.len, fun j hj => ?_, fun j hj hp => h.few j hj (hpos j hp).2, fun j hj hp a ha => ?_, fun j hj hp => ?_, fun j hj hp => h.top j hj (hpos j hp).2⟩
  · rw [v]; split
    · omega
    · exact h.dom j hj
  · have h1 := h.arcs j hj (hpos j hp).2 a ha
    exact ⟨h1.1, by rw [hto j hj (hpos j hp).2 a ha]; exact h1.2.1, h1.2.2⟩
  · obtain ⟨hji, hp'⟩ := hpos j hp
    rw [v, if_neg hji, h.num j hj hp', sumD_congr (fun a ha => hto j hj hp' a ha)]
/-- A state whose arcs are all counted is counted. -/
theorem CntOK.count {S : List St} {D : List Int} {ρ : Nat → Nat} {M i : Nat} (h : CntOK S D ρ M) (hi : i < S.length) (h0 : valD D i ≤ 0) (hf : (arcsAt S i).length ≤ 256) (ha : ∀ a ∈ arcsAt S i, ArcIn S.length a ∧ 0 < valD D a.2.1.toNat) (x : Int) (hx : x = min 4097 ((if finAt S i then 1 else 0) + sumD D (arcsAt S i))) :
    CntOK S (D.set i x) (fun j => if j = i then M else ρ j) (M + 1) := by
  have v := fun j => valD_set D i x j (by rw [h.len]; exact hi)
  have hx0 : 0 ≤ x := by
    have := sumD_nonneg (fun a haa => (ha a haa).2)
    rw [hx]
    split <;> omega
  have hni : ∀ a ∈ arcsAt S i, a.2.1.toNat ≠ i := fun a haa e => by have := (ha a haa).2; rw [e] at this; omega
  have hto : ∀ j, j < S.length → 0 < valD D j → ∀ a ∈ arcsAt S j, a.2.1.toNat ≠ i := fun j hj hp a haa e => by have := (h.arcs j hj hp a haa).2.1; rw [e] at this; omega
  refine ⟨by simpa using h.len, fun j hj => ?_, fun j hj hp => ?_, fun j hj hp a haa => ?_, fun j hj hp => ?_, fun j hj hp => ?_⟩
  · rw [v]; split
    · refine ⟨by omega, ?_⟩
      rw [hx]; omega
    · exact h.dom j hj
  · by_cases hji : j = i
    · rw [hji]; exact hf
    · rw [v, if_neg hji] at hp; exact h.few j hj hp
  · by_cases hji : j = i
    · subst hji
      have h1 := ha a haa
      rw [v, if_neg (hni a haa)]
      refine ⟨h1.1, h1.2, ?_⟩
      rw [if_neg (hni a haa), if_pos rfl]
      exact h.top _ h1.1.2.2.2 h1.2
    · rw [v, if_neg hji] at hp
      have h1 := h.arcs j hj hp a haa
      rw [v, if_neg (hto j hj hp a haa), if_neg hji, if_neg (hto j hj hp a haa)]
      exact h1
  · by_cases hji : j = i
    · subst hji
      have e1 : sumD (D.set j x) (arcsAt S j) = sumD D (arcsAt S j) := sumD_congr fun a haa => by rw [v, if_neg (hni a haa)]
      rw [e1, v, if_pos rfl]; exact hx
    · rw [v, if_neg hji] at hp ⊢
      have e1 : sumD (D.set i x) (arcsAt S j) = sumD D (arcsAt S j) := sumD_congr fun a haa => by rw [v, if_neg (hto j hj hp a haa)]
      rw [e1]; exact h.num j hj hp
  · by_cases hji : j = i
    · rw [if_pos hji]; omega
    · rw [v, if_neg hji] at hp
      rw [if_neg hji]
      have := h.top j hj hp
      omega
end Go.Proofs.Ytjndogajdlophaa
