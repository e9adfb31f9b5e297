import Derived.Test.YtjndogajdlophaaDcK
import Derived.Test.YtjndogajdlophaaPkM
namespace Go.Proofs.Ytjndogajdlophaa
open Go Go.RowKit
set_option linter.unusedVariables false

/-! The terms of states that were counted. -/
def rkOf (ρ : Nat → Nat) (n i : Nat) : Nat := (List.range n).countP fun j => decide (ρ j < ρ i)
theorem rkOf_le (ρ : Nat → Nat) (n i : Nat) : rkOf ρ n i ≤ n := by
  have := List.countP_le_length (p := fun j => decide (ρ j < ρ i)) (l := List.range n)
  rw [List.length_range] at this
  exact this
theorem countP_lt {p q : Nat → Bool} (h : ∀ x, p x = true → q x = true) : ∀ (l : List Nat) (x : Nat), x ∈ l → p x = false → q x = true → l.countP p < l.countP q
  | [], x, hx, _, _ => by simp at hx
  | a :: t, x, hx, h1, h2 => by
    have hle : ∀ l : List Nat, l.countP p ≤ l.countP q := fun l => List.countP_mono_left fun y _ => h y
    rw [List.countP_cons, List.countP_cons]
    rcases List.mem_cons.1 hx with rfl | hx
    · have := hle t
      simp [h1, h2]
      omega
    · have := countP_lt h t x hx h1 h2
      cases hp : p a with
      | true => simp [h a hp]; omega
      | false => cases hq : q a <;> simp <;> omega
theorem CntOK.rank {S : List St} {D : List Int} {ρ : Nat → Nat} {M : Nat} (h : CntOK S D ρ M) : CntOK S D (rkOf ρ S.length) (S.length + 1) := by
  refine ⟨h.len, h.dom, h.few, fun i hi hp a ha => ?_, h.num, fun i _ _ => by have := rkOf_le ρ S.length i; omega⟩
  obtain ⟨h1, h2, h3⟩ := h.arcs i hi hp a ha
  refine ⟨h1, h2, ?_⟩
  refine countP_lt (fun x hx => ?_) _ a.2.1.toNat (by simpa using h1.2.2.2) (by simp) (by simpa using h3)
  simp at hx ⊢
  omega
section
variable {S : List St} {D : List Int} {ρ : Nat → Nat} {M : Nat}
theorem CntOK.lang (h : CntOK S D ρ M) : ∀ (f f' i : Nat), i < S.length → 0 < valD D i → ρ i < f → ρ i < f' → langF S f i = langF S f' i
  | 0, f', i, _, _, h1, _ => absurd h1 (by omega)
  | f + 1, 0, i, _, _, _, h2 => absurd h2 (by omega)
  | f + 1, f' + 1, i, hi, hp, h1, h2 => by
    rw [langF_succ, langF_succ]
    congr 1
    refine List.map_congr_left fun a ha => ?_
    obtain ⟨h3, h4, h5⟩ := h.arcs i hi hp a ha
    rw [CntOK.lang h f f' a.2.1.toNat h3.2.2.2 h4 (by omega) (by omega)]
theorem sumD_ge : ∀ {l : List Ar}, (∀ a ∈ l, 0 < valD D a.2.1.toNat) → ∀ a ∈ l, valD D a.2.1.toNat ≤ sumD D l
  | [], _, a, ha => by simp at ha
  | b :: t, hl, a, ha => by
    have h1 := sumD_nonneg (D := D) (l := t) (fun x hx => hl x (by simp [hx]))
    have h2 := hl b (by simp)
    simp only [sumD, List.map_cons, List.sum_cons] at h1 ⊢
    rcases List.mem_cons.1 ha with rfl | ha
    · omega
    · have := sumD_ge (l := t) (fun x hx => hl x (by simp [hx])) a ha
      simp only [sumD] at this
      omega
theorem sumD_len : ∀ {l : List Ar} {g : Nat → Nat}, (∀ a ∈ l, valD D a.2.1.toNat = ((g a.2.1.toNat : Nat) : Int)) → sumD D l = (((l.map fun a => g a.2.1.toNat).sum : Nat) : Int)
  | [], g, _ => rfl
  | b :: t, g, hl => by
    have := sumD_len (l := t) (g := g) (fun x hx => hl x (by simp [hx]))
    have h2 := hl b (by simp)
    simp only [sumD, List.map_cons, List.sum_cons] at this ⊢
    rw [this, h2]
    omega
theorem CntOK.count_len (h : CntOK S D ρ M) : ∀ (f i : Nat), i < S.length → 0 < valD D i → valD D i ≤ 4096 → ρ i < f → (((langF S f i).length : Nat) : Int) = valD D i
  | 0, i, _, _, _, h1 => absurd h1 (by omega)
  | f + 1, i, hi, hp, hl, h1 => by
    have hn := h.num i hi hp
    have hpos : ∀ a ∈ arcsAt S i, 0 < valD D a.2.1.toNat := fun a ha => (h.arcs i hi hp a ha).2.1
    have hs := sumD_nonneg (D := D) hpos
    have hv : valD D i = (if finAt S i then 1 else 0) + sumD D (arcsAt S i) := by omega
    have hrec : ∀ a ∈ arcsAt S i, valD D a.2.1.toNat = (((langF S f a.2.1.toNat).length : Nat) : Int) := fun a ha => by
      obtain ⟨h3, h4, h5⟩ := h.arcs i hi hp a ha
      have h6 := sumD_ge (D := D) hpos a ha
      have h7 : (0 : Int) ≤ (if finAt S i then 1 else 0) := by split <;> omega
      exact (CntOK.count_len h f a.2.1.toNat h3.2.2.2 h4 (by omega) (by omega)).symm
    rw [langF_succ, joinT_length, hv, sumD_len (g := fun j => (langF S f j).length) hrec, rowF, List.map_map]
    simp only [Function.comp_def]
    split <;> omega
end
/-- What was told of a state, behind k of its arcs. -/
def toldT (S : List St) (f i k : Nat) : List Tx := joinT (finAt S i) ((rowF S f i).take k)
theorem toldT_all (S : List St) (f i : Nat) : toldT S f i (arcsAt S i).length = langF S (f + 1) i := by
  rw [toldT, langF_succ, List.take_of_length_le (by simp [rowF])]
theorem toldT_zero (S : List St) (f i : Nat) : toldT S f i 0 = if finAt S i then [[]] else [] := by simp [toldT, joinT]
theorem toldT_step (S : List St) (f i : Nat) {k : Nat} (h : k < (arcsAt S i).length) : toldT S f i (k + 1) = toldT S f i k ++ (langF S f ((arcsAt S i).getD k ar0).2.1.toNat).map fun t => UInt8.ofNat ((arcsAt S i).getD k ar0).1.toNat :: t := by
  have hk : (rowF S f i)[k]? = some (((arcsAt S i).getD k ar0).1.toNat, langF S f ((arcsAt S i).getD k ar0).2.1.toNat) := by
    rw [rowF, List.getElem?_map, List.getElem?_eq_getElem h]
    simp [h]
  rw [toldT, toldT, List.take_add_one, hk]
  simp only [joinT, Option.toList_some, List.flatMap_append, List.flatMap_cons, List.flatMap_nil, List.append_nil, List.append_assoc]
theorem toldT_len (S : List St) (f i k : Nat) : (toldT S f i k).length ≤ (langF S (f + 1) i).length := by
  rw [toldT, langF_succ, joinT_length, joinT_length]
  have : ∀ (l : List (Nat × List Tx)) (k : Nat), ((l.take k).map fun p => p.2.length).sum ≤ (l.map fun p => p.2.length).sum := by
    intro l
    induction l with
    | nil => simp
    | cons a t ih =>
      intro k
      cases k with
      | zero => simp
      | succ k => have := ih k; simp only [List.take_succ_cons, List.map_cons, List.sum_cons]; omega
  have := this (rowF S f i) k
  omega
end Go.Proofs.Ytjndogajdlophaa
