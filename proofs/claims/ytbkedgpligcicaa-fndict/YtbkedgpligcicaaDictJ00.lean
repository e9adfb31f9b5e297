import Derived.Below
namespace Go.Proofs.Ytbkedgpligcicaa
open Go
set_option linter.unusedVariables false

/-! The order in which things are met, from one on. -/
section
variable {X Y : Type} [DecidableEq X] [DecidableEq Y]
def meet (o : List X) (y : X) : List X := if y ∈ o then o else o ++ [y]
def meets (o : List X) (l : List X) : List X := l.foldl meet o
def bfs (nx : X → List X) : Nat → Nat → List X → List X
  | 0, _, o => o
  | f + 1, i, o => match o[i]? with
    | none => o
    | some x => bfs nx f (i + 1) (meets o (nx x))
theorem meet_mem {o : List X} {y z : X} : z ∈ meet o y ↔ z ∈ o ∨ z = y := by
  unfold meet
  split
  · rename_i h; constructor
    · exact Or.inl
    · rintro (h1 | rfl)
      · exact h1
      · exact h
  · simp
theorem meet_nodup {o : List X} {y : X} (h : o.Nodup) : (meet o y).Nodup := by
  unfold meet
  split
  · exact h
  · rename_i hn
    rw [List.nodup_append]
    refine ⟨h, by simp, ?_⟩
    intro a ha b hb
    have e : b = y := by simpa using hb
    subst e
    intro e2
    subst e2
    exact hn ha
theorem meet_pre (o : List X) (y : X) : ∃ r, meet o y = o ++ r := by
  unfold meet
  split
  · exact ⟨[], by simp⟩
  · exact ⟨[y], rfl⟩
theorem meets_mem {l : List X} : ∀ {o : List X} {z : X}, z ∈ meets o l ↔ z ∈ o ∨ z ∈ l := by
  induction l with
  | nil => intro o z; simp [meets]
  | cons y t ih =>
    intro o z
    show z ∈ meets (meet o y) t ↔ _
    rw [ih, meet_mem, List.mem_cons, or_assoc]
theorem meets_nodup {l : List X} : ∀ {o : List X}, o.Nodup → (meets o l).Nodup := by
  induction l with
  | nil => intro o h; exact h
  | cons y t ih => intro o h; exact ih (meet_nodup h)
theorem meets_pre (l : List X) : ∀ (o : List X), ∃ r, meets o l = o ++ r := by
  induction l with
  | nil => intro o; exact ⟨[], by simp [meets]⟩
  | cons y t ih =>
    intro o
    obtain ⟨r1, h1⟩ := meet_pre o y
    obtain ⟨r2, h2⟩ := ih (meet o y)
    exact ⟨r1 ++ r2, by show meets (meet o y) t = _; rw [h2, h1, List.append_assoc]⟩
theorem meets_snoc (o l : List X) (y : X) : meets o (l ++ [y]) = meet (meets o l) y := by simp [meets]
theorem bfs_pre (nx : X → List X) : ∀ (f i : Nat) (o : List X), ∃ r, bfs nx f i o = o ++ r
  | 0, i, o => ⟨[], by simp [bfs]⟩
  | f + 1, i, o => by
    cases h : o[i]? with
    | none => exact ⟨[], by simp [bfs, h]⟩
    | some x =>
      obtain ⟨r1, h1⟩ := meets_pre (nx x) o
      obtain ⟨r2, h2⟩ := bfs_pre nx f (i + 1) (meets o (nx x))
      exact ⟨r1 ++ r2, by simp only [bfs, h]; rw [h2, h1, List.append_assoc]⟩
theorem bfs_nodup (nx : X → List X) : ∀ (f i : Nat) (o : List X), o.Nodup → (bfs nx f i o).Nodup
  | 0, i, o, h => h
  | f + 1, i, o, h => by
    cases hx : o[i]? with
    | none => simpa [bfs, hx] using h
    | some x => simp only [bfs, hx]; exact bfs_nodup nx f _ _ (meets_nodup h)
/-- Where the way ended, more of it changes nothing. -/
theorem bfs_more (nx : X → List X) : ∀ (f i : Nat) (o : List X), (bfs nx f i o).length ≤ i + f → ∀ k, bfs nx (f + k) i o = bfs nx f i o
  | 0, i, o, h, k => by
    have h' : o.length ≤ i := by simpa [bfs] using h
    cases k with
    | zero => rfl
    | succ k => simp [bfs, List.getElem?_eq_none h']
  | f + 1, i, o, h, k => by
    rw [show f + 1 + k = (f + k) + 1 from by omega]
    cases hx : o[i]? with
    | none => simp [bfs, hx]
    | some x =>
      simp only [bfs, hx] at h ⊢
      exact bfs_more nx f (i + 1) _ (by omega) k
theorem bfs_snoc (nx : X → List X) : ∀ (f i : Nat) (o : List X), bfs nx (f + 1) i o = match (bfs nx f i o)[i + f]? with
    | none => bfs nx f i o
    | some x => meets (bfs nx f i o) (nx x)
  | 0, i, o => by simp only [bfs, Nat.add_zero]
  | f + 1, i, o => by
    cases hx : o[i]? with
    | none =>
      have e1 : bfs nx (f + 1 + 1) i o = o := by rw [bfs, hx]
      have e2 : bfs nx (f + 1) i o = o := by rw [bfs, hx]
      have h3 : o[i + (f + 1)]? = none := by
        have : o.length ≤ i := List.getElem?_eq_none_iff.1 hx
        exact List.getElem?_eq_none (by omega)
      rw [e1, e2, h3]
    | some x =>
      have e1 : bfs nx (f + 1 + 1) i o = bfs nx (f + 1) (i + 1) (meets o (nx x)) := by rw [bfs, hx]
      have e2 : bfs nx (f + 1) i o = bfs nx f (i + 1) (meets o (nx x)) := by rw [bfs, hx]
      rw [e1, e2, bfs_snoc nx f (i + 1), show i + 1 + f = i + (f + 1) from by omega]
theorem bfs_step {nx : X → List X} {r x : X} {o : List X} {i : Nat} (h : bfs nx i 0 [r] = o) (hx : o[i]? = some x) : bfs nx (i + 1) 0 [r] = meets o (nx x) := by
  rw [bfs_snoc, h, Nat.zero_add, hx]
/-- The order that one comes to. -/
def IsBfs (nx : X → List X) (r : X) (o : List X) : Prop := ∃ f, bfs nx f 0 [r] = o ∧ o.length ≤ f
theorem IsBfs.uniq {nx : X → List X} {r : X} {o o' : List X} (h : IsBfs nx r o) (h' : IsBfs nx r o') : o = o' := by
  obtain ⟨f, h1, h2⟩ := h
  obtain ⟨g, h3, h4⟩ := h'
  have e1 := bfs_more nx f 0 [r] (by rw [h1]; omega) g
  have e2 := bfs_more nx g 0 [r] (by rw [h3]; omega) f
  rw [← h1, ← h3, ← e1, ← e2, Nat.add_comm]
theorem IsBfs.head {nx : X → List X} {r : X} {o : List X} (h : IsBfs nx r o) : o[0]? = some r := by
  obtain ⟨f, h1, _⟩ := h
  obtain ⟨q, hq⟩ := bfs_pre nx f 0 [r]
  rw [← h1, hq]; rfl
theorem IsBfs.nodup {nx : X → List X} {r : X} {o : List X} (h : IsBfs nx r o) : o.Nodup := by
  obtain ⟨f, h1, _⟩ := h
  rw [← h1]; exact bfs_nodup nx f 0 _ (by simp)
/-- Whatever is met is met by what was met. -/
theorem bfs_all (nx : X → List X) (P : X → Prop) (hP : ∀ x, P x → ∀ y ∈ nx x, P y) : ∀ (f i : Nat) (o : List X), (∀ x ∈ o, P x) → ∀ x ∈ bfs nx f i o, P x
  | 0, i, o, h => h
  | f + 1, i, o, h => by
    cases hx : o[i]? with
    | none => simpa [bfs, hx] using h
    | some x =>
      simp only [bfs, hx]
      refine bfs_all nx P hP f _ _ ?_
      intro z hz
      rcases meets_mem.1 hz with h1 | h1
      · exact h z h1
      · exact hP x (h x (List.mem_of_getElem? hx)) z h1
theorem IsBfs.all {nx : X → List X} {r : X} {o : List X} (h : IsBfs nx r o) (P : X → Prop) (hr : P r) (hP : ∀ x, P x → ∀ y ∈ nx x, P y) : ∀ x ∈ o, P x := by
  obtain ⟨f, h1, _⟩ := h
  rw [← h1]
  exact bfs_all nx P hP f 0 [r] (by simpa using hr)
/-- Nothing is left to be met. -/
theorem bfs_closed (nx : X → List X) : ∀ (f i : Nat) (o : List X), (bfs nx f i o).length ≤ i + f → (∀ j x, j < i → o[j]? = some x → ∀ y ∈ nx x, y ∈ o) → ∀ x ∈ bfs nx f i o, ∀ y ∈ nx x, y ∈ bfs nx f i o
  | 0, i, o, h, hc => by
    intro x hx y hy
    have h' : o.length ≤ i := by simpa [bfs] using h
    obtain ⟨j, hj⟩ := List.mem_iff_getElem?.1 (show x ∈ o from hx)
    have hjl : j < o.length := (List.getElem?_eq_some_iff.1 hj).1
    exact hc j x (by omega) hj y hy
  | f + 1, i, o, h, hc => by
    cases hx : o[i]? with
    | none =>
      simp only [bfs, hx]
      intro x hxm y hy
      obtain ⟨j, hj⟩ := List.mem_iff_getElem?.1 hxm
      have hjl : j < o.length := (List.getElem?_eq_some_iff.1 hj).1
      have : o.length ≤ i := List.getElem?_eq_none_iff.1 hx
      exact hc j x (by omega) hj y hy
    | some x =>
      simp only [bfs, hx] at h ⊢
      refine bfs_closed nx f (i + 1) _ (by omega) ?_
      intro j z hj hz y hy
      obtain ⟨r, hr⟩ := meets_pre (nx x) o
      have hil : i < o.length := (List.getElem?_eq_some_iff.1 hx).1
      have hz' : o[j]? = some z := by rw [hr, List.getElem?_append_left (by omega)] at hz; exact hz
      by_cases hji : j = i
      · subst hji
        rw [hx] at hz'
        cases hz'
        exact meets_mem.2 (Or.inr hy)
      · exact meets_mem.2 (Or.inl (hc j z (by omega) hz' y hy))
theorem IsBfs.closed {nx : X → List X} {r : X} {o : List X} (h : IsBfs nx r o) : ∀ x ∈ o, ∀ y ∈ nx x, y ∈ o := by
  obtain ⟨f, h1, h2⟩ := h
  have := bfs_closed nx f 0 [r] (by rw [h1]; omega) (fun j x hj => absurd hj (by omega))
  rw [h1] at this
  exact this

/-! A second naming of the same things. -/
theorem meets_map (φ : X → Y) (P : X → Prop) (inj : ∀ x y, P x → P y → φ x = φ y → x = y) (l : List X) : ∀ (o : List X), (∀ x ∈ o, P x) → (∀ x ∈ l, P x) → meets (o.map φ) (l.map φ) = (meets o l).map φ := by
  induction l with
  | nil => intro o _ _; rfl
  | cons y t ih =>
    intro o ho hl
    have hy := hl y (by simp)
    have e : meet (o.map φ) (φ y) = (meet o y).map φ := by
      unfold meet
      by_cases h : y ∈ o
      · rw [if_pos h, if_pos (List.mem_map_of_mem h)]
      · have h' : φ y ∉ o.map φ := by
          intro hc
          obtain ⟨x, hx, he⟩ := List.mem_map.1 hc
          have := inj x y (ho x hx) hy he
          subst this
          exact h hx
        rw [if_neg h, if_neg h']; simp
    show meets (meet (o.map φ) (φ y)) (t.map φ) = _
    rw [e, ih (meet o y) (fun x hx => (meet_mem.1 hx).elim (ho x) (fun h => h ▸ hy)) (fun x hx => hl x (by simp [hx]))]
    rfl
theorem bfs_map (nx : X → List X) (ny : Y → List Y) (φ : X → Y) (P : X → Prop) (inj : ∀ x y, P x → P y → φ x = φ y → x = y) (hP : ∀ x, P x → ∀ y ∈ nx x, P y) (hn : ∀ x, P x → ny (φ x) = (nx x).map φ) :
    ∀ (f i : Nat) (o : List X), (∀ x ∈ o, P x) → bfs ny f i (o.map φ) = (bfs nx f i o).map φ
  | 0, i, o, h => rfl
  | f + 1, i, o, h => by
    cases hx : o[i]? with
    | none => simp [bfs, hx]
    | some x =>
      have hpx := h x (List.mem_of_getElem? hx)
      have e : (o.map φ)[i]? = some (φ x) := by simp [hx]
      simp only [bfs, hx, e]
      rw [hn x hpx, meets_map φ P inj _ o h (hP x hpx)]
      exact bfs_map nx ny φ P inj hP hn f (i + 1) _ (fun z hz => (meets_mem.1 hz).elim (h z) (hP x hpx z))
theorem IsBfs.map {nx : X → List X} {r : X} {o : List X} (h : IsBfs nx r o) (ny : Y → List Y) (φ : X → Y) (P : X → Prop) (hr : P r) (inj : ∀ x y, P x → P y → φ x = φ y → x = y) (hP : ∀ x, P x → ∀ y ∈ nx x, P y) (hn : ∀ x, P x → ny (φ x) = (nx x).map φ) :
    IsBfs ny (φ r) (o.map φ) := by
  obtain ⟨f, h1, h2⟩ := h
  refine ⟨f, ?_, by simpa using h2⟩
  rw [← h1, ← bfs_map nx ny φ P inj hP hn f 0 [r] (by simpa using hr)]
  rfl
end
end Go.Proofs.Ytbkedgpligcicaa

namespace Go.Proofs.Ytbkedgpligcicaa
open Go
set_option linter.unusedVariables false

/-! Sets of texts, in order; what stands behind a byte. -/
abbrev Tx := List UInt8
def ltT : Tx → Tx → Bool
  | _, [] => false
  | [], _ :: _ => true
  | a :: s, b :: t => decide (a.toNat < b.toNat) || (a == b && ltT s t)
def RiseT (L : List Tx) : Prop := L.Pairwise fun a b => ltT a b = true
theorem ltT_cons (a b : UInt8) (s t : Tx) : ltT (a :: s) (b :: t) = true ↔ a.toNat < b.toNat ∨ (a = b ∧ ltT s t = true) := by
  simp [ltT]
theorem ltT_irr : ∀ s : Tx, ltT s s = false
  | [] => rfl
  | a :: s => by simp [ltT, ltT_irr s]
theorem ltT_trans : ∀ {a b c : Tx}, ltT a b = true → ltT b c = true → ltT a c = true
  | a, b, [], _, h => by cases b <;> simp [ltT] at h
  | [], b, c :: cs, h, _ => rfl
  | a :: aq, [], c :: cs, h, _ => by simp [ltT] at h
  | a :: aq, b :: bs, c :: cs, h1, h2 => by
    rw [ltT_cons] at *
    rcases h1 with h1 | ⟨rfl, h1⟩
    · rcases h2 with h2 | ⟨rfl, _⟩
      · exact Or.inl (by omega)
      · exact Or.inl h1
    · rcases h2 with h2 | ⟨rfl, h2⟩
      · exact Or.inl h2
      · exact Or.inr ⟨rfl, ltT_trans h1 h2⟩
def finT (L : List Tx) : Bool := L.any List.isEmpty
def tailIf (n : Nat) : Tx → Option Tx
  | [] => none
  | c :: r => if c.toNat = n then some r else none
def subT (n : Nat) (L : List Tx) : List Tx := L.filterMap (tailIf n)
def labelsT (L : List Tx) : List Nat := (List.range 256).filter fun n => !(subT n L).isEmpty
def isAhead (n : Nat) : Tx → Bool
  | [] => true
  | c :: _ => decide (c.toNat < n)
def aheadT (n : Nat) (L : List Tx) : Nat := L.countP (isAhead n)
def nextT (L : List Tx) : List (List Tx) := (labelsT L).map fun n => subT n L
theorem labelsT_lt (L : List Tx) : (labelsT L).Pairwise (· < ·) := List.Pairwise.filter _ (List.pairwise_lt_range)
theorem labelsT_mem {L : List Tx} {n : Nat} : n ∈ labelsT L ↔ n < 256 ∧ subT n L ≠ [] := by
  simp [labelsT, List.mem_filter]
theorem subT_mem {n : Nat} {L : List Tx} {t : Tx} : t ∈ subT n L ↔ ∃ c : UInt8, c.toNat = n ∧ (c :: t) ∈ L := by
  unfold subT
  rw [List.mem_filterMap]
  constructor
  · rintro ⟨x, hx, h⟩
    cases x with
    | nil => simp [tailIf] at h
    | cons c r =>
      simp only [tailIf] at h
      split at h
      · rename_i hc; cases h; exact ⟨c, hc, hx⟩
      · cases h
  · rintro ⟨c, hc, hx⟩
    exact ⟨c :: t, hx, by simp [tailIf, hc]⟩
theorem subT_rise {n : Nat} {L : List Tx} (h : RiseT L) : RiseT (subT n L) := by
  unfold RiseT subT at *
  rw [List.pairwise_filterMap]
  refine h.imp ?_
  intro a b hab x hx y hy
  cases a with
  | nil => simp [tailIf] at hx
  | cons c r =>
    cases b with
    | nil => simp [tailIf] at hy
    | cons d q =>
      simp only [tailIf] at hx hy
      split at hx
      · split at hy
        · rename_i h1 h2
          cases hx; cases hy
          rw [ltT_cons] at hab
          rcases hab with hab | ⟨_, hab⟩
          · omega
          · exact hab
        · cases hy
      · cases hx
theorem subT_len (n : Nat) (L : List Tx) : (subT n L).length ≤ L.length := List.length_filterMap_le _ _
/-- A set is made of what stands behind its bytes. -/
def joinT (f : Bool) (l : List (Nat × List Tx)) : List Tx := (if f then [[]] else []) ++ l.flatMap fun p => p.2.map fun t => UInt8.ofNat p.1 :: t
theorem finT_mem {L : List Tx} : finT L = true ↔ [] ∈ L := by
  simp [finT, List.any_eq_true, List.isEmpty_iff]
theorem rise_ext : ∀ {A B : List Tx}, RiseT A → RiseT B → (∀ t, t ∈ A ↔ t ∈ B) → A = B
  | [], [], _, _, _ => rfl
  | [], b :: B, _, _, h => by have := (h b).2 (by simp); simp at this
  | a :: A, [], _, _, h => by have := (h a).1 (by simp); simp at this
  | a :: A, b :: B, ha, hb, h => by
    unfold RiseT at ha hb
    rw [List.pairwise_cons] at ha hb
    have e : a = b := by
      have h1 := (h a).1 (by simp)
      have h2 := (h b).2 (by simp)
      rcases List.mem_cons.1 h1 with h1 | h1
      · exact h1
      · rcases List.mem_cons.1 h2 with h2 | h2
        · exact h2.symm
        · have := ltT_trans (hb.1 a h1) (ha.1 b h2)
          rw [ltT_irr] at this
          cases this
    subst e
    congr 1
    refine rise_ext ha.2 hb.2 fun t => ?_
    constructor
    · intro ht
      rcases List.mem_cons.1 ((h t).1 (by simp [ht])) with rfl | h'
      · have := ha.1 t ht; rw [ltT_irr] at this; cases this
      · exact h'
    · intro ht
      rcases List.mem_cons.1 ((h t).2 (by simp [ht])) with rfl | h'
      · have := hb.1 t ht; rw [ltT_irr] at this; cases this
      · exact h'
theorem ofNat_toNat {n : Nat} (h : n < 256) : (UInt8.ofNat n).toNat = n := by rw [UInt8.toNat_ofNat']; omega
theorem toNat_ofNat (c : UInt8) : UInt8.ofNat c.toNat = c := by simp
theorem joinT_mem {f : Bool} {l : List (Nat × List Tx)} (hl : ∀ p ∈ l, p.1 < 256) {t : Tx} : t ∈ joinT f l ↔ (f = true ∧ t = []) ∨ ∃ p ∈ l, ∃ c r, c.toNat = p.1 ∧ r ∈ p.2 ∧ t = c :: r := by
  unfold joinT
  rw [List.mem_append, List.mem_flatMap]
  constructor
  · rintro (h | ⟨p, hp, h⟩)
    · cases f with
      | true => exact Or.inl ⟨rfl, by simpa using h⟩
      | false => simp at h
    · obtain ⟨r, hr, rfl⟩ := List.mem_map.1 h
      exact Or.inr ⟨p, hp, _, r, ofNat_toNat (hl p hp), hr, rfl⟩
  · rintro (⟨rfl, rfl⟩ | ⟨p, hp, c, r, hc, hr, rfl⟩)
    · exact Or.inl (by simp)
    · refine Or.inr ⟨p, hp, List.mem_map.2 ⟨r, hr, ?_⟩⟩
      rw [← hc, toNat_ofNat]
theorem joinT_rise {f : Bool} {l : List (Nat × List Tx)} (hl : ∀ p ∈ l, p.1 < 256) (hs : l.Pairwise fun p q => p.1 < q.1) (hr : ∀ p ∈ l, RiseT p.2) : RiseT (joinT f l) := by
  have hbody : RiseT (l.flatMap fun p => p.2.map fun t => UInt8.ofNat p.1 :: t) := by
    induction l with
    | nil => exact List.Pairwise.nil
    | cons p t ih =>
      rw [List.flatMap_cons]
      unfold RiseT
      rw [List.pairwise_append]
      rw [List.pairwise_cons] at hs
      refine ⟨?_, ih (fun q hq => hl q (by simp [hq])) hs.2 (fun q hq => hr q (by simp [hq])), ?_⟩
      · rw [List.pairwise_map]
        exact (hr p (by simp)).imp fun {a b} h => by rw [ltT_cons]; exact Or.inr ⟨rfl, h⟩
      · intro a ha b hb
        obtain ⟨x, _, rfl⟩ := List.mem_map.1 ha
        obtain ⟨q, hq, hb⟩ := List.mem_flatMap.1 hb
        obtain ⟨y, _, rfl⟩ := List.mem_map.1 hb
        rw [ltT_cons, ofNat_toNat (hl p (by simp)), ofNat_toNat (hl q (by simp [hq]))]
        exact Or.inl (hs.1 q hq)
  unfold joinT
  cases f with
  | false => exact hbody
  | true =>
    show RiseT ([] :: _)
    unfold RiseT
    rw [List.pairwise_cons]
    refine ⟨?_, hbody⟩
    intro b hb
    obtain ⟨q, hq, hb⟩ := List.mem_flatMap.1 hb
    obtain ⟨y, _, rfl⟩ := List.mem_map.1 hb
    rfl
theorem joinT_self {L : List Tx} (h : RiseT L) : joinT (finT L) ((labelsT L).map fun n => (n, subT n L)) = L := by
  have hl : ∀ p ∈ (labelsT L).map fun n => (n, subT n L), p.1 < 256 := by
    intro p hp
    obtain ⟨n, hn, rfl⟩ := List.mem_map.1 hp
    exact (labelsT_mem.1 hn).1
  refine rise_ext (joinT_rise hl (by rw [List.pairwise_map]; exact labelsT_lt L) ?_) h fun t => ?_
  · intro p hp
    obtain ⟨n, hn, rfl⟩ := List.mem_map.1 hp
    exact subT_rise h
  · rw [joinT_mem hl, finT_mem]
    constructor
    · rintro (⟨h1, rfl⟩ | ⟨p, hp, c, r, hc, hr, rfl⟩)
      · exact h1
      · obtain ⟨n, hn, rfl⟩ := List.mem_map.1 hp
        obtain ⟨d, hd, hm⟩ := subT_mem.1 hr
        have : c = d := by
          have : c.toNat = d.toNat := hc.trans hd.symm
          exact UInt8.toNat_inj.1 this
        subst this
        exact hm
    · intro ht
      cases t with
      | nil => exact Or.inl ⟨ht, rfl⟩
      | cons c r =>
        have hm : r ∈ subT c.toNat L := subT_mem.2 ⟨c, rfl, ht⟩
        refine Or.inr ⟨(c.toNat, subT c.toNat L), List.mem_map.2 ⟨c.toNat, labelsT_mem.2 ⟨UInt8.toNat_lt c, List.ne_nil_of_mem hm⟩, rfl⟩, c, r, rfl, hm, rfl⟩
end Go.Proofs.Ytbkedgpligcicaa

namespace Go.Proofs.Ytbkedgpligcicaa
open Go
set_option linter.unusedVariables false

/-! A dictionary in plain words. -/
abbrev Ar := Int × Int × Int
abbrev St := Bool × List Ar
def st0 : St := (false, [])
def stOf (ord : List (List Tx)) (L : List Tx) : St := (finT L, (labelsT L).map fun (n : Nat) => ((n : Int), ((ord.idxOf (subT n L) : Nat) : Int), ((aheadT n L : Nat) : Int)))
def dictOf (ts : List Tx) (ord : List (List Tx)) : Int × List St := ((ts.length : Int), ord.map (stOf ord))
def GoodT (ts : List Tx) : Prop := RiseT ts ∧ ts.length ≤ 4096 ∧ ∀ t ∈ ts, 1 ≤ t.length ∧ t.length ≤ 64
def IsDict (d : Int × List St) (ts : List Tx) : Prop := GoodT ts ∧ ∃ ord, IsBfs nextT ts ord ∧ ord.length ≤ 16384 ∧ d = dictOf ts ord
def langF (S : List St) : Nat → Nat → List Tx
  | 0, _ => []
  | f + 1, i => joinT (S.getD i st0).1 ((S.getD i st0).2.map fun a => (a.1.toNat, langF S f a.2.1.toNat))

theorem idxOf_at {X : Type} [BEq X] [LawfulBEq X] {o : List X} {x : X} (h : x ∈ o) : o[o.idxOf x]? = some x := by
  have hl := List.idxOf_lt_length_of_mem h
  rw [List.getElem?_eq_getElem hl, List.getElem_idxOf hl]
theorem idxOf_of {X : Type} [BEq X] [LawfulBEq X] {o : List X} (hn : o.Nodup) {x : X} {i : Nat} (h : o[i]? = some x) : o.idxOf x = i := by
  have hm := List.mem_of_getElem? h
  have h2 := idxOf_at hm
  have hi : i < o.length := (List.getElem?_eq_some_iff.1 h).1
  exact ((List.getElem?_inj hi hn).1 (h.trans h2.symm)).symm

/-- The states of a set tell just the set. -/
theorem langF_of {ts : List Tx} {ord : List (List Tx)} (hb : IsBfs nextT ts ord) : ∀ (f i : Nat) (L : List Tx), ord[i]? = some L → RiseT L → (∀ t ∈ L, t.length < f) → langF (ord.map (stOf ord)) f i = L
  | 0, i, L, _, _, h => by
    cases L with
    | nil => rfl
    | cons t r => exact absurd (h t (by simp)) (by omega)
  | f + 1, i, L, hi, hr, h => by
    have hg : (ord.map (stOf ord)).getD i st0 = stOf ord L := by rw [List.getD_eq_getElem?_getD, List.getElem?_map, hi]; rfl
    rw [langF, hg]
    show joinT (finT L) _ = L
    have e : (stOf ord L).2.map (fun a => (a.1.toNat, langF (ord.map (stOf ord)) f a.2.1.toNat)) = (labelsT L).map fun n => (n, subT n L) := by
      rw [stOf, List.map_map]
      refine List.map_congr_left fun n hn => ?_
      have hm : subT n L ∈ ord := hb.closed L (List.mem_of_getElem? hi) _ (List.mem_map.2 ⟨n, hn, rfl⟩)
      have ih := langF_of hb f (ord.idxOf (subT n L)) (subT n L) (idxOf_at hm) (subT_rise hr) (fun t ht => by
        obtain ⟨c, _, hc⟩ := subT_mem.1 ht
        have := h _ hc
        simp at this
        omega)
      simp only [Function.comp, Int.toNat_natCast, ih]
    rw [e]
    exact joinT_self hr
theorem IsDict.langIs {d : Int × List St} {ts : List Tx} (h : IsDict d ts) : langF d.2 65 0 = ts := by
  obtain ⟨hg, ord, hb, _, rfl⟩ := h
  exact langF_of hb 65 0 ts hb.head hg.1 fun t ht => by have := (hg.2.2 t ht).2; omega
theorem IsDict.uniq {d : Int × List St} {ts us : List Tx} (h : IsDict d ts) (h' : IsDict d us) : ts = us := h.langIs.symm.trans h'.langIs
theorem IsDict.fun {d e : Int × List St} {ts : List Tx} (h : IsDict d ts) (h' : IsDict e ts) : d = e := by
  obtain ⟨_, o1, h1, _, rfl⟩ := h
  obtain ⟨_, o2, h2, _, rfl⟩ := h'
  rw [h1.uniq h2]

/-! What a join tells. -/
theorem nat_ext : ∀ {A B : List Nat}, A.Pairwise (· < ·) → B.Pairwise (· < ·) → (∀ n, n ∈ A ↔ n ∈ B) → A = B
  | [], [], _, _, _ => rfl
  | [], b :: B, _, _, h => by have := (h b).2 (by simp); simp at this
  | a :: A, [], _, _, h => by have := (h a).1 (by simp); simp at this
  | a :: A, b :: B, ha, hb, h => by
    rw [List.pairwise_cons] at ha hb
    have e : a = b := by
      have h1 := (h a).1 (by simp)
      have h2 := (h b).2 (by simp)
      rcases List.mem_cons.1 h1 with h1 | h1
      · exact h1
      · rcases List.mem_cons.1 h2 with h2 | h2
        · exact h2.symm
        · have := hb.1 a h1; have := ha.1 b h2; omega
    subst e
    congr 1
    refine nat_ext ha.2 hb.2 fun t => ?_
    constructor
    · intro ht
      rcases List.mem_cons.1 ((h t).1 (by simp [ht])) with rfl | h'
      · exact absurd (ha.1 t ht) (by omega)
      · exact h'
    · intro ht
      rcases List.mem_cons.1 ((h t).2 (by simp [ht])) with rfl | h'
      · exact absurd (hb.1 t ht) (by omega)
      · exact h'
section
variable {f : Bool} {l : List (Nat × List Tx)}
theorem finT_join (hl : ∀ p ∈ l, p.1 < 256) : finT (joinT f l) = f := by
  cases f with
  | true => exact finT_mem.2 ((joinT_mem hl).2 (Or.inl ⟨rfl, rfl⟩))
  | false =>
    cases h : finT (joinT false l) with
    | false => rfl
    | true =>
      rcases (joinT_mem hl).1 (finT_mem.1 h) with ⟨h1, _⟩ | ⟨p, _, c, r, _, _, h2⟩
      · cases h1
      · cases h2
theorem subT_join (hl : ∀ p ∈ l, p.1 < 256) (hs : l.Pairwise fun p q => p.1 < q.1) (hr : ∀ p ∈ l, RiseT p.2) {p : Nat × List Tx} (hp : p ∈ l) : subT p.1 (joinT f l) = p.2 := by
  refine rise_ext (subT_rise (joinT_rise hl hs hr)) (hr p hp) fun t => ?_
  rw [subT_mem]
  constructor
  · rintro ⟨c, hc, hm⟩
    rcases (joinT_mem hl).1 hm with ⟨_, h⟩ | ⟨q, hq, c', r, hc', hr', h⟩
    · cases h
    · cases h
      have e : p = q := by
        obtain ⟨i, hi⟩ := List.mem_iff_getElem?.1 hp
        obtain ⟨j, hj⟩ := List.mem_iff_getElem?.1 hq
        have hil := (List.getElem?_eq_some_iff.1 hi).1
        have hjl := (List.getElem?_eq_some_iff.1 hj).1
        have hpi : l[i] = p := (List.getElem?_eq_some_iff.1 hi).2
        have hqj : l[j] = q := (List.getElem?_eq_some_iff.1 hj).2
        have hpw := List.pairwise_iff_getElem.1 hs
        rcases Nat.lt_trichotomy i j with h | h | h
        · have := hpw i j hil hjl h; rw [hpi, hqj] at this; omega
        · subst h; exact hpi.symm.trans hqj
        · have := hpw j i hjl hil h; rw [hpi, hqj] at this; omega
      subst e
      exact hr'
  · intro ht
    exact ⟨UInt8.ofNat p.1, ofNat_toNat (hl p hp), (joinT_mem hl).2 (Or.inr ⟨p, hp, _, t, ofNat_toNat (hl p hp), ht, rfl⟩)⟩
theorem labelsT_join (hl : ∀ p ∈ l, p.1 < 256) (hs : l.Pairwise fun p q => p.1 < q.1) (hr : ∀ p ∈ l, RiseT p.2) (hne : ∀ p ∈ l, p.2 ≠ []) : labelsT (joinT f l) = l.map Prod.fst := by
  refine nat_ext (labelsT_lt _) (by rw [List.pairwise_map]; exact hs) fun n => ?_
  rw [labelsT_mem, List.mem_map]
  constructor
  · rintro ⟨hn, h⟩
    obtain ⟨t, ht⟩ := List.exists_mem_of_ne_nil _ h
    obtain ⟨c, hc, hm⟩ := subT_mem.1 ht
    rcases (joinT_mem hl).1 hm with ⟨_, h⟩ | ⟨q, hq, c', r, hc', hr', h⟩
    · cases h
    · cases h
      exact ⟨q, hq, by omega⟩
  · rintro ⟨p, hp, rfl⟩
    exact ⟨hl p hp, by rw [subT_join hl hs hr hp]; exact hne p hp⟩
theorem nextT_join (hl : ∀ p ∈ l, p.1 < 256) (hs : l.Pairwise fun p q => p.1 < q.1) (hr : ∀ p ∈ l, RiseT p.2) (hne : ∀ p ∈ l, p.2 ≠ []) : nextT (joinT f l) = l.map Prod.snd := by
  rw [nextT, labelsT_join hl hs hr hne, List.map_map]
  exact List.map_congr_left fun p hp => subT_join hl hs hr hp
theorem countP_body (n : Nat) : ∀ (l : List (Nat × List Tx)), (∀ p ∈ l, p.1 < 256) → (l.flatMap fun p => p.2.map fun t => UInt8.ofNat p.1 :: t).countP (isAhead n) = ((l.filter fun p => decide (p.1 < n)).map fun p => p.2.length).sum
  | [], _ => by simp
  | p :: t, h => by
    rw [List.flatMap_cons, List.countP_append, countP_body n t (fun q hq => h q (by simp [hq]))]
    have e : (p.2.map fun t => UInt8.ofNat p.1 :: t).countP (isAhead n) = if p.1 < n then p.2.length else 0 := by
      rw [List.countP_map]
      by_cases hp : p.1 < n
      · rw [if_pos hp, List.countP_eq_length.2]
        intro x _
        simp [Function.comp, isAhead, ofNat_toNat (h p (by simp)), hp]
      · rw [if_neg hp, List.countP_eq_zero.2]
        intro x _
        simp [Function.comp, isAhead, ofNat_toNat (h p (by simp))]
        omega
    rw [e, List.filter_cons]
    by_cases hp : p.1 < n
    · simp [hp]
    · simp [hp]
theorem aheadT_join (hl : ∀ p ∈ l, p.1 < 256) (n : Nat) : aheadT n (joinT f l) = (if f then 1 else 0) + ((l.filter fun p => decide (p.1 < n)).map fun p => p.2.length).sum := by
  rw [aheadT, joinT, List.countP_append, countP_body n l hl]
  cases f <;> simp [isAhead]
theorem joinT_length : (joinT f l).length = (if f then 1 else 0) + (l.map fun p => p.2.length).sum := by
  rw [joinT, List.length_append, List.length_flatMap]
  congr 1
  · cases f <;> rfl
  · congr 1
    exact List.map_congr_left fun p _ => by simp
end
end Go.Proofs.Ytbkedgpligcicaa

namespace Go.Proofs.Ytbkedgpligcicaa
open Go
set_option linter.unusedVariables false

/-! What is looked at in a dictionary that is handed in, and that it is enough. -/
def arcsAt (S : List St) (i : Nat) : List Ar := (S.getD i st0).2
def finAt (S : List St) (i : Nat) : Bool := (S.getD i st0).1
def toAt (S : List St) (i : Nat) : List Nat := (arcsAt S i).map fun a => a.2.1.toNat
def sumE (e : Nat → Nat) (l : List Ar) : Nat := (l.map fun a => e a.2.1.toNat).sum
structure Checks (c : Int) (S : List St) (e g : Nat → Nat) : Prop where
  n2 : S.length ≤ 16384
  n1 : 1 ≤ S.length
  rise : ∀ i, i < S.length → (arcsAt S i).Pairwise fun a b => a.1 < b.1
  lab : ∀ i, i < S.length → ∀ a ∈ arcsAt S i, 0 ≤ a.1 ∧ a.1 ≤ 255
  to : ∀ i, i < S.length → ∀ a ∈ arcsAt S i, 0 ≤ a.2.1 ∧ a.2.1.toNat < S.length
  met : IsBfs (toAt S) 0 (List.range S.length)
  ends : ∀ i, i < S.length → e i = (if finAt S i then 1 else 0) + sumE e (arcsAt S i)
  least : ∀ i, i < S.length → 1 ≤ e i
  most : e 0 ≤ 4096
  long : ∀ i, i < S.length → ∀ a ∈ arcsAt S i, g a.2.1.toNat + 1 ≤ g i
  deep : ∀ i, i < S.length → g i ≤ 64
  diff : ∀ i j, i < S.length → j < S.length → finAt S i = finAt S j → ((arcsAt S i).map fun a => (a.1, a.2.1)) = ((arcsAt S j).map fun a => (a.1, a.2.1)) → i = j
  ahead : ∀ i, i < S.length → ∀ k a, (arcsAt S i)[k]? = some a → a.2.2 = (((if finAt S i then 1 else 0) + sumE e ((arcsAt S i).take k) : Nat) : Int)
  count : c = ((e 0 : Nat) : Int)
  fin0 : finAt S 0 = false

section
variable {c : Int} {S : List St} {e g : Nat → Nat}
def rowF (S : List St) (f i : Nat) : List (Nat × List Tx) := (arcsAt S i).map fun a => (a.1.toNat, langF S f a.2.1.toNat)
theorem langF_succ (S : List St) (f i : Nat) : langF S (f + 1) i = joinT (finAt S i) (rowF S f i) := rfl
theorem rowF_lab (h : Checks c S e g) {f i : Nat} (hi : i < S.length) : (∀ p ∈ rowF S f i, p.1 < 256) ∧ (rowF S f i).Pairwise fun p q => p.1 < q.1 := by
  constructor
  · intro p hp
    obtain ⟨a, ha, rfl⟩ := List.mem_map.1 hp
    have := h.lab i hi a ha
    show a.1.toNat < 256
    omega
  · rw [rowF, List.pairwise_map]
    refine (h.rise i hi).imp_of_mem ?_
    intro a b ha hb hab
    have h1 := h.lab i hi a ha
    have h2 := h.lab i hi b hb
    show a.1.toNat < b.1.toNat
    omega
theorem langF_same (h : Checks c S e g) : ∀ (f f' i : Nat), i < S.length → g i < f → g i < f' → langF S f i = langF S f' i
  | 0, f', i, _, h1, _ => absurd h1 (by omega)
  | f + 1, 0, i, _, _, h2 => absurd h2 (by omega)
  | f + 1, f' + 1, i, hi, h1, h2 => by
    rw [langF_succ, langF_succ]
    congr 1
    refine List.map_congr_left fun a ha => ?_
    have h3 := h.long i hi a ha
    rw [langF_same h f f' a.2.1.toNat (h.to i hi a ha).2 (by omega) (by omega)]
theorem langF_facts (h : Checks c S e g) : ∀ (f i : Nat), i < S.length → g i < f → RiseT (langF S f i) ∧ (langF S f i).length = e i ∧ ∀ t ∈ langF S f i, t.length ≤ g i
  | 0, i, _, h1 => absurd h1 (by omega)
  | f + 1, i, hi, h1 => by
    obtain ⟨hl, hs⟩ := rowF_lab h (f := f) hi
    have hrow : ∀ a ∈ arcsAt S i, RiseT (langF S f a.2.1.toNat) ∧ (langF S f a.2.1.toNat).length = e a.2.1.toNat ∧ ∀ t ∈ langF S f a.2.1.toNat, t.length ≤ g a.2.1.toNat := fun a ha =>
      langF_facts h f a.2.1.toNat (h.to i hi a ha).2 (by have := h.long i hi a ha; omega)
    rw [langF_succ]
    refine ⟨joinT_rise hl hs ?_, ?_, ?_⟩
    · intro p hp
      obtain ⟨a, ha, rfl⟩ := List.mem_map.1 hp
      exact (hrow a ha).1
    · rw [joinT_length, h.ends i hi]
      congr 1
      rw [rowF, List.map_map, sumE]
      congr 1
      exact List.map_congr_left fun a ha => (hrow a ha).2.1
    · intro t ht
      rcases (joinT_mem hl).1 ht with ⟨_, rfl⟩ | ⟨p, hp, c', r, _, hr, rfl⟩
      · exact Nat.zero_le _
      · obtain ⟨a, ha, rfl⟩ := List.mem_map.1 hp
        have h2 := (hrow a ha).2.2 r hr
        have h3 := h.long i hi a ha
        simp only [List.length_cons]
        omega
/-- The endings of a state. -/
def lang (S : List St) (i : Nat) : List Tx := langF S 65 i
theorem lang_join (h : Checks c S e g) {i : Nat} (hi : i < S.length) : lang S i = joinT (finAt S i) ((arcsAt S i).map fun a => (a.1.toNat, lang S a.2.1.toNat)) := by
  have e1 : lang S i = joinT (finAt S i) (rowF S 64 i) := langF_succ S 64 i
  have e2 : rowF S 64 i = (arcsAt S i).map fun a => (a.1.toNat, lang S a.2.1.toNat) := by
    unfold rowF
    apply List.map_congr_left
    intro a ha
    have h3 := h.long i hi a ha
    have h4 := h.deep i hi
    have h5 : langF S 64 a.2.1.toNat = lang S a.2.1.toNat := langF_same h 64 65 a.2.1.toNat (h.to i hi a ha).2 (by omega) (by omega)
    rw [h5]
  rw [e1, e2]
theorem lang_facts (h : Checks c S e g) {i : Nat} (hi : i < S.length) : RiseT (lang S i) ∧ (lang S i).length = e i ∧ (∀ t ∈ lang S i, t.length ≤ g i) ∧ lang S i ≠ [] := by
  obtain ⟨h1, h2, h3⟩ := langF_facts h 65 i hi (by have := h.deep i hi; omega)
  refine ⟨h1, h2, h3, ?_⟩
  intro he
  have := h.least i hi
  rw [lang] at he
  rw [he] at h2
  simp at h2
  omega
def row (S : List St) (i : Nat) : List (Nat × List Tx) := (arcsAt S i).map fun a => (a.1.toNat, lang S a.2.1.toNat)
theorem row_facts (h : Checks c S e g) {i : Nat} (hi : i < S.length) : (∀ p ∈ row S i, p.1 < 256) ∧ ((row S i).Pairwise fun p q => p.1 < q.1) ∧ (∀ p ∈ row S i, RiseT p.2) ∧ ∀ p ∈ row S i, p.2 ≠ [] := by
  obtain ⟨hl, hs⟩ := rowF_lab h (f := 65) hi
  refine ⟨hl, hs, ?_, ?_⟩
  · intro p hp
    obtain ⟨a, ha, rfl⟩ := List.mem_map.1 hp
    exact (lang_facts h (h.to i hi a ha).2).1
  · intro p hp
    obtain ⟨a, ha, rfl⟩ := List.mem_map.1 hp
    exact (lang_facts h (h.to i hi a ha).2).2.2.2
theorem lang_next (h : Checks c S e g) {i : Nat} (hi : i < S.length) : nextT (lang S i) = (toAt S i).map (lang S) := by
  obtain ⟨h1, h2, h3, h4⟩ := row_facts h hi
  rw [lang_join h hi]
  show nextT (joinT _ (row S i)) = _
  rw [nextT_join h1 h2 h3 h4, row, toAt, List.map_map, List.map_map]
  rfl
theorem map_eq_of {A B : Type} (F : Ar → A) (G : Ar → B) : ∀ (l m : List Ar), (∀ a ∈ l, ∀ b ∈ m, F a = F b → G a = G b) → l.map F = m.map F → l.map G = m.map G
  | [], [], _, _ => rfl
  | [], b :: m, _, h => by simp at h
  | a :: l, [], _, h => by simp at h
  | a :: l, b :: m, hh, h => by
    simp only [List.map_cons, List.cons.injEq] at h ⊢
    exact ⟨hh a (by simp) b (by simp) h.1, map_eq_of F G l m (fun x hx y hy => hh x (by simp [hx]) y (by simp [hy])) h.2⟩
theorem row_of_lang (h : Checks c S e g) {i : Nat} (hi : i < S.length) : (labelsT (lang S i)).map (fun n => (n, subT n (lang S i))) = row S i := by
  obtain ⟨h1, h2, h3, h4⟩ := row_facts h hi
  have e1 : lang S i = joinT (finAt S i) (row S i) := lang_join h hi
  rw [e1, labelsT_join h1 h2 h3 h4, List.map_map]
  conv => rhs; rw [← List.map_id (row S i)]
  refine List.map_congr_left fun p hp => ?_
  simp only [Function.comp, subT_join h1 h2 h3 hp, id]
theorem lang_fin (h : Checks c S e g) {i : Nat} (hi : i < S.length) : finT (lang S i) = finAt S i := by
  rw [lang_join h hi]
  exact finT_join (row_facts h hi).1
theorem lang_inj (h : Checks c S e g) : ∀ (m i j : Nat), i < S.length → j < S.length → g i < m → lang S i = lang S j → i = j
  | 0, i, j, _, _, h1, _ => absurd h1 (by omega)
  | m + 1, i, j, hi, hj, h1, he => by
    refine h.diff i j hi hj (by rw [← lang_fin h hi, ← lang_fin h hj, he]) ?_
    have hr : row S i = row S j := by rw [← row_of_lang h hi, ← row_of_lang h hj, he]
    refine map_eq_of (fun a => (a.1.toNat, lang S a.2.1.toNat)) (fun a => (a.1, a.2.1)) _ _ ?_ hr
    intro a ha b hb hab
    simp only [Prod.mk.injEq] at hab ⊢
    have ta := h.to i hi a ha
    have tb := h.to j hj b hb
    have la := h.lab i hi a ha
    have lb := h.lab j hj b hb
    have h3 := h.long i hi a ha
    have := lang_inj h m a.2.1.toNat b.2.1.toNat ta.2 tb.2 (by omega) hab.2
    exact ⟨by omega, by omega⟩
theorem filter_take : ∀ (l : List Ar), l.Pairwise (fun a b => a.1 < b.1) → (∀ a ∈ l, 0 ≤ a.1) → ∀ (k : Nat) (a : Ar), l[k]? = some a → (l.filter fun b => decide (b.1.toNat < a.1.toNat)) = l.take k
  | [], _, _, k, a, h => by simp at h
  | x :: l, hp, h0, 0, a, h => by
    simp at h
    subst h
    rw [List.take_zero, List.filter_eq_nil_iff]
    intro b hb
    rw [List.pairwise_cons] at hp
    rcases List.mem_cons.1 hb with rfl | hb
    · simp
    · have := hp.1 b hb
      have := h0 x (by simp)
      simp
      omega
  | x :: l, hp, h0, k + 1, a, h => by
    rw [List.pairwise_cons] at hp
    have h' : l[k]? = some a := by simpa using h
    have hm := List.mem_of_getElem? h'
    have h1 := hp.1 a hm
    have h2 := h0 x (by simp)
    rw [List.filter_cons, if_pos (by simp; omega), List.take_succ_cons, filter_take l hp.2 (fun b hb => h0 b (by simp [hb])) k a h']
/-- Enough. -/
theorem Checks.dict (h : Checks c S e g) : IsDict (c, S) (lang S 0) := by
  have h0 : 0 < S.length := h.n1
  obtain ⟨f1, f2, f3, f4⟩ := lang_facts h h0
  have hinj : ∀ x y, x < S.length → y < S.length → lang S x = lang S y → x = y := fun x y hx hy he => lang_inj h _ x y hx hy (Nat.lt_succ_self _) he
  have hbfs : IsBfs nextT (lang S 0) ((List.range S.length).map (lang S)) :=
    h.met.map nextT (lang S) (fun i => i < S.length) h0 hinj (fun x hx y hy => by
      obtain ⟨a, ha, rfl⟩ := List.mem_map.1 hy
      exact (h.to x hx a ha).2) (fun x hx => lang_next h hx)
  refine ⟨⟨f1, by rw [f2]; exact h.most, ?_⟩, _, hbfs, by simpa using h.n2, ?_⟩
  · intro t ht
    have h5 := h.deep 0 h0
    have h6 := f3 t ht
    refine ⟨?_, by omega⟩
    cases t with
    | nil =>
      have := finT_mem.2 ht
      rw [lang_fin h h0, h.fin0] at this
      cases this
    | cons => simp
  · unfold dictOf
    refine Prod.ext ?_ ?_
    · show c = _
      rw [f2]; exact h.count
    · show S = _
      apply List.ext_getElem (by simp)
      intro i hi hi'
      have hi2 : i < S.length := hi
      have e1 : S[i] = (finAt S i, arcsAt S i) := by simp [finAt, arcsAt, hi]
      rw [e1, List.getElem_map, List.getElem_map, List.getElem_range]
      unfold stOf
      rw [lang_fin h hi2]
      congr 1
      obtain ⟨r1, r2, r3, r4⟩ := row_facts h hi2
      have e2 : lang S i = joinT (finAt S i) (row S i) := lang_join h hi2
      have hord : ((List.range S.length).map (lang S)).Nodup := hbfs.nodup
      apply List.ext_getElem
      · rw [List.length_map, e2, labelsT_join r1 r2 r3 r4, List.length_map, row, List.length_map]
      · intro k hk hk'
        have hka : (arcsAt S i)[k]? = some (arcsAt S i)[k] := List.getElem?_eq_getElem hk
        generalize hae : (arcsAt S i)[k] = a at *
        have ham : a ∈ arcsAt S i := List.mem_of_getElem? hka
        have hta := h.to i hi2 a ham
        have hla := h.lab i hi2 a ham
        have hlab : (labelsT (lang S i))[k]? = some a.1.toNat := by
          rw [e2, labelsT_join r1 r2 r3 r4, row, List.map_map, List.getElem?_map, hka]; rfl
        have hpm : (a.1.toNat, lang S a.2.1.toNat) ∈ row S i := List.mem_map.2 ⟨a, ham, rfl⟩
        have hsub : subT a.1.toNat (lang S i) = lang S a.2.1.toNat := by rw [e2]; exact subT_join r1 r2 r3 hpm
        have hidx : ((List.range S.length).map (lang S)).idxOf (lang S a.2.1.toNat) = a.2.1.toNat := idxOf_of hord (by simp [hta.2])
        have hah : aheadT a.1.toNat (lang S i) = (if finAt S i then 1 else 0) + sumE e ((arcsAt S i).take k) := by
          rw [e2, aheadT_join r1]
          congr 1
          rw [← filter_take (arcsAt S i) (h.rise i hi2) (fun b hb => (h.lab i hi2 b hb).1) k a hka, row, List.filter_map, List.map_map, sumE]
          congr 1
          refine List.map_congr_left fun b hb => ?_
          have hb' := (List.mem_filter.1 hb).1
          exact (lang_facts h (h.to i hi2 b hb').2).2.1
        have hlk : k < (labelsT (lang S i)).length := (List.getElem?_eq_some_iff.1 hlab).1
        have hlg : (labelsT (lang S i))[k] = a.1.toNat := (List.getElem?_eq_some_iff.1 hlab).2
        rw [List.getElem_map, hlg, hsub, hidx, hah, ← h.ahead i hi2 k a hka]
        refine Prod.ext ?_ (Prod.ext ?_ rfl)
        · show a.1 = _; simp; omega
        · show a.2.1 = _; simp; omega
end
end Go.Proofs.Ytbkedgpligcicaa

namespace Go.Proofs.Ytbkedgpligcicaa
open Go
set_option linter.unusedVariables false

/-! And that nothing is looked at that a dictionary has not. -/
def maxT (L : List Tx) : Nat := L.foldl (fun m t => max m t.length) 0
theorem foldl_max (L : List Tx) : ∀ m, m ≤ L.foldl (fun m t => max m t.length) m ∧ ∀ t ∈ L, t.length ≤ L.foldl (fun m t => max m t.length) m := by
  induction L with
  | nil => intro m; simp
  | cons x r ih =>
    intro m
    obtain ⟨h1, h2⟩ := ih (max m x.length)
    simp only [List.foldl_cons]
    refine ⟨by omega, ?_⟩
    intro t ht
    rcases List.mem_cons.1 ht with rfl | ht
    · omega
    · exact h2 t ht
theorem foldl_max_le (L : List Tx) (k : Nat) (h : ∀ t ∈ L, t.length ≤ k) : ∀ m, m ≤ k → L.foldl (fun m t => max m t.length) m ≤ k := by
  induction L with
  | nil => intro m hm; exact hm
  | cons x r ih =>
    intro m hm
    simp only [List.foldl_cons]
    exact ih (fun t ht => h t (by simp [ht])) _ (by have := h x (by simp); omega)
theorem maxT_ge {L : List Tx} {t : Tx} (h : t ∈ L) : t.length ≤ maxT L := (foldl_max L 0).2 t h
theorem maxT_le {L : List Tx} {k : Nat} (h : ∀ t ∈ L, t.length ≤ k) : maxT L ≤ k := foldl_max_le L k h 0 (Nat.zero_le _)
theorem maxT_sub {L : List Tx} {n : Nat} (h : subT n L ≠ []) : maxT (subT n L) + 1 ≤ maxT L := by
  have h1 : ∀ t ∈ subT n L, t.length ≤ maxT L - 1 := by
    intro t ht
    obtain ⟨c, _, hc⟩ := subT_mem.1 ht
    have := maxT_ge hc
    simp at this
    omega
  have h2 := maxT_le h1
  obtain ⟨t, ht⟩ := List.exists_mem_of_ne_nil _ h
  obtain ⟨c, _, hc⟩ := subT_mem.1 ht
  have := maxT_ge hc
  simp at this
  omega
theorem idxOf_range {X : Type} [BEq X] [LawfulBEq X] (o : List X) (hn : o.Nodup) : o.map (fun x => o.idxOf x) = List.range o.length := by
  apply List.ext_getElem (by simp)
  intro i h1 h2
  rw [List.getElem_map, List.getElem_range]
  exact idxOf_of hn (List.getElem?_eq_getElem (by simpa using h1))
theorem sum_filter_labels (L : List Tx) (n : Nat) : ∀ (l : List Nat), ((l.map fun m => (m, subT m L)).filter fun p => decide (p.1 < n)).map (fun p => p.2.length) = (l.filter fun m => decide (m < n)).map fun m => (subT m L).length
  | [] => rfl
  | m :: t => by
    simp only [List.map_cons, List.filter_cons]
    by_cases h : m < n
    · simp only [h, decide_true, if_true, List.map_cons, sum_filter_labels L n t]
    · simp only [h, decide_false, Bool.false_eq_true, if_false, sum_filter_labels L n t]
theorem filter_lt_take : ∀ (l : List Nat), l.Pairwise (· < ·) → ∀ (k n : Nat), l[k]? = some n → (l.filter fun m => decide (m < n)) = l.take k
  | [], _, k, n, h => by simp at h
  | x :: l, hp, 0, n, h => by
    simp at h
    subst h
    rw [List.take_zero, List.filter_eq_nil_iff]
    intro b hb
    rw [List.pairwise_cons] at hp
    rcases List.mem_cons.1 hb with rfl | hb
    · simp
    · have := hp.1 b hb
      simp
      omega
  | x :: l, hp, k + 1, n, h => by
    rw [List.pairwise_cons] at hp
    have h' : l[k]? = some n := by simpa using h
    have h1 := hp.1 n (List.mem_of_getElem? h')
    rw [List.filter_cons, if_pos (by simp; omega), List.take_succ_cons, filter_lt_take l hp.2 k n h']
/-- What is true of every set on the way. -/
def OnWay (ts L : List Tx) : Prop := RiseT L ∧ L ≠ [] ∧ L.length ≤ ts.length ∧ ∀ t ∈ L, t.length ≤ 64
theorem OnWay.next {ts L : List Tx} (h : OnWay ts L) : ∀ M ∈ nextT L, OnWay ts M := by
  intro M hM
  obtain ⟨n, hn, rfl⟩ := List.mem_map.1 hM
  refine ⟨subT_rise h.1, (labelsT_mem.1 hn).2, Nat.le_trans (subT_len n L) h.2.2.1, ?_⟩
  intro t ht
  obtain ⟨c, _, hc⟩ := subT_mem.1 ht
  have := h.2.2.2 _ hc
  simp at this
  omega
theorem IsDict.checks {c : Int} {S : List St} {ts : List Tx} (h : IsDict (c, S) ts) (hne : ts ≠ []) : Checks c S (fun i => (lang S i).length) (fun i => maxT (lang S i)) := by
  obtain ⟨hg, ord, hb, hlen, hd⟩ := h
  unfold dictOf at hd
  obtain ⟨hc, hS⟩ := Prod.mk.inj hd
  have hway : ∀ L ∈ ord, OnWay ts L := hb.all (OnWay ts) ⟨hg.1, hne, Nat.le_refl _, fun t ht => (hg.2.2 t ht).2⟩ (fun x hx => hx.next)
  have hnd := hb.nodup
  have hn : S.length = ord.length := by rw [hS, List.length_map]
  have hst : ∀ i L, ord[i]? = some L → S.getD i st0 = stOf ord L := by
    intro i L hi
    rw [hS, List.getD_eq_getElem?_getD, List.getElem?_map, hi]; rfl
  have hlang : ∀ i L, ord[i]? = some L → lang S i = L := by
    intro i L hi
    have hw := hway L (List.mem_of_getElem? hi)
    have := langF_of hb 65 i L hi hw.1 (fun t ht => by have := hw.2.2.2 t ht; omega)
    rw [← hS] at this
    exact this
  have hat : ∀ i, i < S.length → ∃ L, ord[i]? = some L := fun i hi => ⟨ord[i]'(by omega), List.getElem?_eq_getElem (by omega)⟩
  have harcs : ∀ i L, ord[i]? = some L → arcsAt S i = (labelsT L).map fun (n : Nat) => ((n : Int), ((ord.idxOf (subT n L) : Nat) : Int), ((aheadT n L : Nat) : Int)) := fun i L hi => by rw [arcsAt, hst i L hi]; rfl
  have hfin : ∀ i L, ord[i]? = some L → finAt S i = finT L := fun i L hi => by rw [finAt, hst i L hi]; rfl
  have hsub : ∀ (i : Nat) (L : List Tx), ord[i]? = some L → ∀ n ∈ labelsT L, subT n L ∈ ord := fun i L hi n hn => hb.closed L (List.mem_of_getElem? hi) _ (List.mem_map.2 ⟨n, hn, rfl⟩)
  have hlsub : ∀ (i : Nat) (L : List Tx), ord[i]? = some L → ∀ n ∈ labelsT L, lang S (ord.idxOf (subT n L)) = subT n L := fun i L hi n hn => hlang _ _ (idxOf_at (hsub i L hi n hn))
  have h0 : ord[0]? = some ts := hb.head
  have hsumE : ∀ (i : Nat) (L : List Tx), ord[i]? = some L → ∀ (l : List Nat), (∀ n ∈ l, n ∈ labelsT L) → sumE (fun i => (lang S i).length) (l.map fun (n : Nat) => ((n : Int), ((ord.idxOf (subT n L) : Nat) : Int), ((aheadT n L : Nat) : Int))) = (l.map fun m => (subT m L).length).sum := by
    intro i L hi l hl
    rw [sumE, List.map_map]
    congr 1
    refine List.map_congr_left fun n hn => ?_
    simp only [Function.comp, Int.toNat_natCast]
    rw [hlsub i L hi n (hl n hn)]
  have hjl : ∀ (i : Nat) (L : List Tx), ord[i]? = some L → (∀ p ∈ (labelsT L).map fun n => (n, subT n L), p.1 < 256) := by
    intro i L hi p hp
    obtain ⟨n, hn, rfl⟩ := List.mem_map.1 hp
    exact (labelsT_mem.1 hn).1
  refine ⟨by omega, ?_, ?_, ?_, ?_, ?_, ?_, ?_, ?_, ?_, ?_, ?_, ?_, ?_, ?_⟩
  · have := (List.getElem?_eq_some_iff.1 h0).1; omega
  · intro i hi
    obtain ⟨L, hL⟩ := hat i hi
    rw [harcs i L hL, List.pairwise_map]
    exact (labelsT_lt L).imp fun {a b} h => by show (a : Int) < (b : Int); omega
  · intro i hi a ha
    obtain ⟨L, hL⟩ := hat i hi
    rw [harcs i L hL] at ha
    obtain ⟨n, hn, rfl⟩ := List.mem_map.1 ha
    have := (labelsT_mem.1 hn).1
    show 0 ≤ (n : Int) ∧ (n : Int) ≤ 255
    omega
  · intro i hi a ha
    obtain ⟨L, hL⟩ := hat i hi
    rw [harcs i L hL] at ha
    obtain ⟨n, hn, rfl⟩ := List.mem_map.1 ha
    have := List.idxOf_lt_length_of_mem (hsub i L hL n hn)
    show 0 ≤ ((ord.idxOf (subT n L) : Nat) : Int) ∧ ((ord.idxOf (subT n L) : Nat) : Int).toNat < S.length
    omega
  · have hm := hb.map (toAt S) (fun L => ord.idxOf L) (fun L => L ∈ ord) (List.mem_of_getElem? h0) (fun x y hx hy he => by
      have h1 := idxOf_at hx
      have h2 := idxOf_at hy
      have he' : ord.idxOf x = ord.idxOf y := he
      rw [he', h2] at h1
      exact (Option.some.inj h1).symm) (fun x hx => hb.closed x hx) (fun L hL => by
      have hi := idxOf_at hL
      show toAt S (ord.idxOf L) = (nextT L).map _
      rw [toAt, harcs _ L hi, nextT, List.map_map, List.map_map]
      rfl)
    rw [idxOf_range ord hnd, idxOf_of hnd h0, ← hn] at hm
    exact hm
  · intro i hi
    obtain ⟨L, hL⟩ := hat i hi
    have hw := hway L (List.mem_of_getElem? hL)
    show (lang S i).length = _
    rw [hlang i L hL, hfin i L hL, harcs i L hL, hsumE i L hL _ (fun n hn => hn)]
    have e1 := congrArg List.length (joinT_self hw.1)
    rw [joinT_length, List.map_map] at e1
    exact e1.symm
  · intro i hi
    obtain ⟨L, hL⟩ := hat i hi
    have hw := hway L (List.mem_of_getElem? hL)
    show 1 ≤ (lang S i).length
    rw [hlang i L hL]
    exact List.length_pos_iff.2 hw.2.1
  · show (lang S 0).length ≤ 4096
    rw [hlang 0 ts h0]; exact hg.2.1
  · intro i hi a ha
    obtain ⟨L, hL⟩ := hat i hi
    rw [harcs i L hL] at ha
    obtain ⟨n, hn, rfl⟩ := List.mem_map.1 ha
    show maxT (lang S ((ord.idxOf (subT n L) : Nat) : Int).toNat) + 1 ≤ maxT (lang S i)
    rw [Int.toNat_natCast, hlsub i L hL n hn, hlang i L hL]
    exact maxT_sub (labelsT_mem.1 hn).2
  · intro i hi
    obtain ⟨L, hL⟩ := hat i hi
    have hw := hway L (List.mem_of_getElem? hL)
    show maxT (lang S i) ≤ 64
    rw [hlang i L hL]
    exact maxT_le hw.2.2.2
  · intro i j hi hj hf ha
    obtain ⟨L, hL⟩ := hat i hi
    obtain ⟨M, hM⟩ := hat j hj
    have hwL := hway L (List.mem_of_getElem? hL)
    have hwM := hway M (List.mem_of_getElem? hM)
    rw [hfin i L hL, hfin j M hM] at hf
    rw [harcs i L hL, harcs j M hM, List.map_map, List.map_map] at ha
    have key : (labelsT L).map (fun n => (n, subT n L)) = (labelsT M).map fun n => (n, subT n M) := by
      have e1 : labelsT L = labelsT M := by
        have := congrArg (List.map fun (p : Int × Int) => p.1.toNat) ha
        rw [List.map_map, List.map_map] at this
        have eL : List.map ((fun (p : Int × Int) => p.1.toNat) ∘ ((fun (a : Ar) => (a.1, a.2.1)) ∘ fun (n : Nat) => ((n : Int), ((ord.idxOf (subT n L) : Nat) : Int), ((aheadT n L : Nat) : Int)))) (labelsT L) = labelsT L := by
          conv => rhs; rw [← List.map_id (labelsT L)]
          exact List.map_congr_left fun n _ => by simp
        have eM : List.map ((fun (p : Int × Int) => p.1.toNat) ∘ ((fun (a : Ar) => (a.1, a.2.1)) ∘ fun (n : Nat) => ((n : Int), ((ord.idxOf (subT n M) : Nat) : Int), ((aheadT n M : Nat) : Int)))) (labelsT M) = labelsT M := by
          conv => rhs; rw [← List.map_id (labelsT M)]
          exact List.map_congr_left fun n _ => by simp
        rw [eL, eM] at this
        exact this
      rw [← e1] at ha ⊢
      refine List.map_congr_left fun n hn => ?_
      have h1 := List.map_inj_left.1 ha n hn
      simp only [Function.comp, Prod.mk.injEq, true_and] at h1
      have h2 : ord.idxOf (subT n L) = ord.idxOf (subT n M) := by omega
      have h3 := idxOf_at (hsub i L hL n hn)
      have h4 := idxOf_at (hsub j M hM n (e1 ▸ hn))
      rw [h2, h4] at h3
      rw [Option.some.inj h3]
    have : L = M := by rw [← joinT_self hwL.1, ← joinT_self hwM.1, hf, key]
    subst this
    exact (List.getElem?_inj (by omega) hnd).1 (hL.trans hM.symm)
  · intro i hi k a ha
    obtain ⟨L, hL⟩ := hat i hi
    have hw := hway L (List.mem_of_getElem? hL)
    rw [harcs i L hL, List.getElem?_map] at ha
    cases hk : (labelsT L)[k]? with
    | none => rw [hk] at ha; cases ha
    | some n =>
      rw [hk] at ha
      obtain rfl := (Option.some.inj ha).symm
      show ((aheadT n L : Nat) : Int) = _
      rw [harcs i L hL, hfin i L hL, ← List.map_take, hsumE i L hL _ (fun m hm => List.mem_of_mem_take hm)]
      congr 1
      have e1 := aheadT_join (f := finT L) (hjl i L hL) n
      rw [joinT_self hw.1, sum_filter_labels, filter_lt_take _ (labelsT_lt L) k n hk] at e1
      exact e1
  · show c = (((lang S 0).length : Nat) : Int)
    rw [hlang 0 ts h0]; exact hc
  · show finAt S 0 = false
    rw [hfin 0 ts h0]
    cases hf : finT ts with
    | false => rfl
    | true => have := (hg.2.2 [] (finT_mem.1 hf)).1; simp at this
/-- No terms. -/
theorem bfs_none : IsBfs nextT ([] : List Tx) [[]] := by
  refine ⟨1, ?_, by simp⟩
  have e : nextT ([] : List Tx) = [] := by
    rw [nextT]
    have : labelsT ([] : List Tx) = [] := by
      rw [labelsT, List.filter_eq_nil_iff]
      intro n _
      simp [subT]
    rw [this]; rfl
  simp [bfs, e, meets]
theorem IsDict.none {d : Int × List St} : IsDict d [] ↔ d = (0, [(false, [])]) := by
  have e : dictOf ([] : List Tx) [[]] = (0, [(false, [])]) := by
    have hl : labelsT ([] : List Tx) = [] := by
      rw [labelsT, List.filter_eq_nil_iff]
      intro n _
      simp [subT]
    simp [dictOf, stOf, hl, finT]
  constructor
  · rintro ⟨_, ord, hb, _, rfl⟩
    rw [hb.uniq bfs_none]; exact e
  · rintro rfl
    exact ⟨⟨List.Pairwise.nil, by simp, by simp⟩, [[]], bfs_none, by simp, e.symm⟩
end Go.Proofs.Ytbkedgpligcicaa
