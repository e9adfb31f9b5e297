import Derived.Test.YtjndogajdlophaaDcB
namespace Go.Proofs.Ytjndogajdlophaa
open Go
set_option linter.unusedVariables false

/-! Sets of texts, in order; what stands behind a byte. -/
abbrev Tx := List UInt8
def ltT : Tx → Tx → Bool
  | _, [] => false
  | [], _ :: _ => true
  | a :: s, b :: t => decide (a.toNat < b.toNat) || (a == b && ltT s t)
def RiseT (L : List Tx) : Prop := L.Pairwise fun a b => ltT a b = true
theorem ltT_cons (a b : UInt8) (s t : Tx) : ltT (a :: s) (b :: t) = true ↔ a.toNat < b.toNat ∨ (a = b ∧ ltT s t = true) := by
  simp [ltT]
theorem ltT_irr : ∀ s : Tx, ltT s s = false
  | [] => rfl
  | a :: s => by simp [ltT, ltT_irr s]
theorem ltT_trans : ∀ {a b c : Tx}, ltT a b = true → ltT b c = true → ltT a c = true
  | a, b, [], _, h => by cases b <;> simp [ltT] at h
  | [], b, c :: cs, h, _ => rfl
  | a :: as, [], c :: cs, h, _ => by simp [ltT] at h
  | a :: as, b :: bs, c :: cs, h1, h2 => by
    rw [ltT_cons] at *
    rcases h1 with h1 | ⟨rfl, h1⟩
    · rcases h2 with h2 | ⟨rfl, _⟩
      · exact Or.inl (by omega)
      · exact Or.inl h1
    · rcases h2 with h2 | ⟨rfl, h2⟩
      · exact Or.inl h2
      · exact Or.inr ⟨rfl, ltT_trans h1 h2⟩
def finT (L : List Tx) : Bool := L.any List.isEmpty
def tailIf (n : Nat) : Tx → Option Tx
  | [] => none
  | c :: r => if c.toNat = n then some r else none
def subT (n : Nat) (L : List Tx) : List Tx := L.filterMap (tailIf n)
def labelsT (L : List Tx) : List Nat := (List.range 256).filter fun n => !(subT n L).isEmpty
def isAhead (n : Nat) : Tx → Bool
  | [] => true
  | c :: _ => decide (c.toNat < n)
def aheadT (n : Nat) (L : List Tx) : Nat := L.countP (isAhead n)
def nextT (L : List Tx) : List (List Tx) := (labelsT L).map fun n => subT n L
theorem labelsT_lt (L : List Tx) : (labelsT L).Pairwise (· < ·) := List.Pairwise.filter _ (List.pairwise_lt_range)
theorem labelsT_mem {L : List Tx} {n : Nat} : n ∈ labelsT L ↔ n < 256 ∧ subT n L ≠ [] := by
  simp [labelsT, List.mem_filter]
theorem subT_mem {n : Nat} {L : List Tx} {t : Tx} : t ∈ subT n L ↔ ∃ c : UInt8, c.toNat = n ∧ (c :: t) ∈ L := by
  unfold subT
  rw [List.mem_filterMap]
  constructor
  · rintro ⟨x, hx, h⟩
    cases x with
    | nil => simp [tailIf] at h
    | cons c r =>
      simp only [tailIf] at h
      split at h
      · rename_i hc; cases h; exact ⟨c, hc, hx⟩
      · cases h
  · rintro ⟨c, hc, hx⟩
    exact ⟨c :: t, hx, by simp [tailIf, hc]⟩
theorem subT_rise {n : Nat} {L : List Tx} (h : RiseT L) : RiseT (subT n L) := by
  unfold RiseT subT at *
  rw [List.pairwise_filterMap]
  refine h.imp ?_
  intro a b hab x hx y hy
  cases a with
  | nil => simp [tailIf] at hx
  | cons c r =>
    cases b with
    | nil => simp [tailIf] at hy
    | cons d q =>
      simp only [tailIf] at hx hy
      split at hx
      · split at hy
        · rename_i h1 h2
          cases hx; cases hy
          rw [ltT_cons] at hab
          rcases hab with hab | ⟨_, hab⟩
          · omega
          · exact hab
        · cases hy
      · cases hx
theorem subT_len (n : Nat) (L : List Tx) : (subT n L).length ≤ L.length := List.length_filterMap_le _ _
/-- A set is made of what stands behind its bytes. -/
def joinT (f : Bool) (l : List (Nat × List Tx)) : List Tx := (if f then [[]] else []) ++ l.flatMap fun p => p.2.map fun t => UInt8.ofNat p.1 :: t
theorem finT_mem {L : List Tx} : finT L = true ↔ [] ∈ L := by
  simp [finT, List.any_eq_true, List.isEmpty_iff]
theorem rise_ext : ∀ {A B : List Tx}, RiseT A → RiseT B → (∀ t, t ∈ A ↔ t ∈ B) → A = B
  | [], [], _, _, _ => rfl
  | [], b :: B, _, _, h => by have := (h b).2 (by simp); simp at this
  | a :: A, [], _, _, h => by have := (h a).1 (by simp); simp at this
  | a :: A, b :: B, ha, hb, h => by
    unfold RiseT at ha hb
    rw [List.pairwise_cons] at ha hb
    have e : a = b := by
      have h1 := (h a).1 (by simp)
      have h2 := (h b).2 (by simp)
      rcases List.mem_cons.1 h1 with h1 | h1
      · exact h1
      · rcases List.mem_cons.1 h2 with h2 | h2
        · exact h2.symm
        · have := ltT_trans (hb.1 a h1) (ha.1 b h2)
          rw [ltT_irr] at this
          cases this
    subst e
    congr 1
    refine rise_ext ha.2 hb.2 fun t => ?_
    constructor
    · intro ht
      rcases List.mem_cons.1 ((h t).1 (by simp [ht])) with rfl | h'
      · have := ha.1 t ht; rw [ltT_irr] at this; cases this
      · exact h'
    · intro ht
      rcases List.mem_cons.1 ((h t).2 (by simp [ht])) with rfl | h'
      · have := hb.1 t ht; rw [ltT_irr] at this; cases this
      · exact h'
theorem ofNat_toNat {n : Nat} (h : n < 256) : (UInt8.ofNat n).toNat = n := by rw [UInt8.toNat_ofNat']; omega
theorem toNat_ofNat (c : UInt8) : UInt8.ofNat c.toNat = c := by simp
theorem joinT_mem {f : Bool} {l : List (Nat × List Tx)} (hl : ∀ p ∈ l, p.1 < 256) {t : Tx} : t ∈ joinT f l ↔ (f = true ∧ t = []) ∨ ∃ p ∈ l, ∃ c r, c.toNat = p.1 ∧ r ∈ p.2 ∧ t = c :: r := by
  unfold joinT
  rw [List.mem_append, List.mem_flatMap]
  constructor
  · rintro (h | ⟨p, hp, h⟩)
    · cases f with
      | true => exact Or.inl ⟨rfl, by simpa using h⟩
      | false => simp at h
    · obtain ⟨r, hr, rfl⟩ := List.mem_map.1 h
      exact Or.inr ⟨p, hp, _, r, ofNat_toNat (hl p hp), hr, rfl⟩
  · rintro (⟨rfl, rfl⟩ | ⟨p, hp, c, r, hc, hr, rfl⟩)
    · exact Or.inl (by simp)
    · refine Or.inr ⟨p, hp, List.mem_map.2 ⟨r, hr, ?_⟩⟩
      rw [← hc, toNat_ofNat]
theorem joinT_rise {f : Bool} {l : List (Nat × List Tx)} (hl : ∀ p ∈ l, p.1 < 256) (hs : l.Pairwise fun p q => p.1 < q.1) (hr : ∀ p ∈ l, RiseT p.2) : RiseT (joinT f l) := by
  have hbody : RiseT (l.flatMap fun p => p.2.map fun t => UInt8.ofNat p.1 :: t) := by
    induction l with
    | nil => exact List.Pairwise.nil
    | cons p t ih =>
      rw [List.flatMap_cons]
      unfold RiseT
      rw [List.pairwise_append]
      rw [List.pairwise_cons] at hs
      refine ⟨?_, ih (fun q hq => hl q (by simp [hq])) hs.2 (fun q hq => hr q (by simp [hq])), ?_⟩
      · rw [List.pairwise_map]
        exact (hr p (by simp)).imp fun {a b} h => by rw [ltT_cons]; exact Or.inr ⟨rfl, h⟩
      · intro a ha b hb
        obtain ⟨x, _, rfl⟩ := List.mem_map.1 ha
        obtain ⟨q, hq, hb⟩ := List.mem_flatMap.1 hb
        obtain ⟨y, _, rfl⟩ := List.mem_map.1 hb
        rw [ltT_cons, ofNat_toNat (hl p (by simp)), ofNat_toNat (hl q (by simp [hq]))]
        exact Or.inl (hs.1 q hq)
  unfold joinT
  cases f with
  | false => exact hbody
  | true =>
    show RiseT ([] :: _)
    unfold RiseT
    rw [List.pairwise_cons]
    refine ⟨?_, hbody⟩
    intro b hb
    obtain ⟨q, hq, hb⟩ := List.mem_flatMap.1 hb
    obtain ⟨y, _, rfl⟩ := List.mem_map.1 hb
    rfl
theorem joinT_self {L : List Tx} (h : RiseT L) : joinT (finT L) ((labelsT L).map fun n => (n, subT n L)) = L := by
  have hl : ∀ p ∈ (labelsT L).map fun n => (n, subT n L), p.1 < 256 := by
    intro p hp
    obtain ⟨n, hn, rfl⟩ := List.mem_map.1 hp
    exact (labelsT_mem.1 hn).1
  refine rise_ext (joinT_rise hl (by rw [List.pairwise_map]; exact labelsT_lt L) ?_) h fun t => ?_
  · intro p hp
    obtain ⟨n, hn, rfl⟩ := List.mem_map.1 hp
    exact subT_rise h
  · rw [joinT_mem hl, finT_mem]
    constructor
    · rintro (⟨h1, rfl⟩ | ⟨p, hp, c, r, hc, hr, rfl⟩)
      · exact h1
      · obtain ⟨n, hn, rfl⟩ := List.mem_map.1 hp
        obtain ⟨d, hd, hm⟩ := subT_mem.1 hr
        have : c = d := by
          have : c.toNat = d.toNat := hc.trans hd.symm
          exact UInt8.toNat_inj.1 this
        subst this
        exact hm
    · intro ht
      cases t with
      | nil => exact Or.inl ⟨ht, rfl⟩
      | cons c r =>
        have hm : r ∈ subT c.toNat L := subT_mem.2 ⟨c, rfl, ht⟩
        refine Or.inr ⟨(c.toNat, subT c.toNat L), List.mem_map.2 ⟨c.toNat, labelsT_mem.2 ⟨UInt8.toNat_lt c, List.ne_nil_of_mem hm⟩, rfl⟩, c, r, rfl, hm, rfl⟩
end Go.Proofs.Ytjndogajdlophaa
