import Derived.Below
namespace Go.Proofs.YtifgcimmlonagaaDoor
open Go
set_option linter.unusedVariables false

/-! The order in which things are met, from one on. -/
section
variable {X Y : Type} [DecidableEq X] [DecidableEq Y]
def meet (o : List X) (y : X) : List X := if y ∈ o then o else o ++ [y]
def meets (o : List X) (l : List X) : List X := l.foldl meet o
def bfs (nx : X → List X) : Nat → Nat → List X → List X
  | 0, _, o => o
  | f + 1, i, o => match o[i]? with
    | none => o
    | some x => bfs nx f (i + 1) (meets o (nx x))
theorem meet_mem {o : List X} {y z : X} : z ∈ meet o y ↔ z ∈ o ∨ z = y := by
  unfold meet
  split
  · rename_i h; constructor
    · exact Or.inl
    · rintro (h1 | rfl)
      · exact h1
      · exact h
  · simp
theorem meet_nodup {o : List X} {y : X} (h : o.Nodup) : (meet o y).Nodup := by
  unfold meet
  split
  · exact h
  · rename_i hn
    rw [List.nodup_append]
    refine ⟨h, by simp, ?_⟩
    intro a ha b hb
    have e : b = y := by simpa using hb
    subst e
    intro e2
    subst e2
    exact hn ha
theorem meet_pre (o : List X) (y : X) : ∃ r, meet o y = o ++ r := by
  unfold meet
  split
  · exact ⟨[], by simp⟩
  · exact ⟨[y], rfl⟩
theorem meets_mem {l : List X} : ∀ {o : List X} {z : X}, z ∈ meets o l ↔ z ∈ o ∨ z ∈ l := by
  induction l with
  | nil => intro o z; simp [meets]
  | cons y t ih =>
    intro o z
    show z ∈ meets (meet o y) t ↔ _
    rw [ih, meet_mem, List.mem_cons, or_assoc]
theorem meets_nodup {l : List X} : ∀ {o : List X}, o.Nodup → (meets o l).Nodup := by
  induction l with
  | nil => intro o h; exact h
  | cons y t ih => intro o h; exact ih (meet_nodup h)
theorem meets_pre (l : List X) : ∀ (o : List X), ∃ r, meets o l = o ++ r := by
  induction l with
  | nil => intro o; exact ⟨[], by simp [meets]⟩
  | cons y t ih =>
    intro o
    obtain ⟨r1, h1⟩ := meet_pre o y
    obtain ⟨r2, h2⟩ := ih (meet o y)
    exact ⟨r1 ++ r2, by show meets (meet o y) t = _; rw [h2, h1, List.append_assoc]⟩
theorem bfs_pre (nx : X → List X) : ∀ (f i : Nat) (o : List X), ∃ r, bfs nx f i o = o ++ r
  | 0, i, o => ⟨[], by simp [bfs]⟩
  | f + 1, i, o => by
    cases h : o[i]? with
    | none => exact ⟨[], by simp [bfs, h]⟩
    | some x =>
      obtain ⟨r1, h1⟩ := meets_pre (nx x) o
      obtain ⟨r2, h2⟩ := bfs_pre nx f (i + 1) (meets o (nx x))
      exact ⟨r1 ++ r2, by simp only [bfs, h]; rw [h2, h1, List.append_assoc]⟩
theorem bfs_nodup (nx : X → List X) : ∀ (f i : Nat) (o : List X), o.Nodup → (bfs nx f i o).Nodup
  | 0, i, o, h => h
  | f + 1, i, o, h => by
    cases hx : o[i]? with
    | none => simpa [bfs, hx] using h
    | some x => simp only [bfs, hx]; exact bfs_nodup nx f _ _ (meets_nodup h)
/-- The order that one comes to. -/
def IsBfs (nx : X → List X) (r : X) (o : List X) : Prop := ∃ f, bfs nx f 0 [r] = o ∧ o.length ≤ f
theorem IsBfs.head {nx : X → List X} {r : X} {o : List X} (h : IsBfs nx r o) : o[0]? = some r := by
  obtain ⟨f, h1, _⟩ := h
  obtain ⟨q, hq⟩ := bfs_pre nx f 0 [r]
  rw [← h1, hq]; rfl
theorem IsBfs.nodup {nx : X → List X} {r : X} {o : List X} (h : IsBfs nx r o) : o.Nodup := by
  obtain ⟨f, h1, _⟩ := h
  rw [← h1]; exact bfs_nodup nx f 0 _ (by simp)
/-- Whatever is met is met by what was met. -/
theorem bfs_all (nx : X → List X) (P : X → Prop) (hP : ∀ x, P x → ∀ y ∈ nx x, P y) : ∀ (f i : Nat) (o : List X), (∀ x ∈ o, P x) → ∀ x ∈ bfs nx f i o, P x
  | 0, i, o, h => h
  | f + 1, i, o, h => by
    cases hx : o[i]? with
    | none => simpa [bfs, hx] using h
    | some x =>
      simp only [bfs, hx]
      refine bfs_all nx P hP f _ _ ?_
      intro z hz
      rcases meets_mem.1 hz with h1 | h1
      · exact h z h1
      · exact hP x (h x (List.mem_of_getElem? hx)) z h1
theorem IsBfs.all {nx : X → List X} {r : X} {o : List X} (h : IsBfs nx r o) (P : X → Prop) (hr : P r) (hP : ∀ x, P x → ∀ y ∈ nx x, P y) : ∀ x ∈ o, P x := by
  obtain ⟨f, h1, _⟩ := h
  rw [← h1]
  exact bfs_all nx P hP f 0 [r] (by simpa using hr)
/-! A second naming of the same things. -/
theorem meets_map (φ : X → Y) (P : X → Prop) (inj : ∀ x y, P x → P y → φ x = φ y → x = y) (l : List X) : ∀ (o : List X), (∀ x ∈ o, P x) → (∀ x ∈ l, P x) → meets (o.map φ) (l.map φ) = (meets o l).map φ := by
  induction l with
  | nil => intro o _ _; rfl
  | cons y t ih =>
    intro o ho hl
    have hy := hl y (by simp)
    have e : meet (o.map φ) (φ y) = (meet o y).map φ := by
      unfold meet
      by_cases h : y ∈ o
      · rw [if_pos h, if_pos (List.mem_map_of_mem h)]
      · have h' : φ y ∉ o.map φ := by
          intro hc
          obtain ⟨x, hx, he⟩ := List.mem_map.1 hc
          have := inj x y (ho x hx) hy he
          subst this
          exact h hx
        rw [if_neg h, if_neg h']; simp
    show meets (meet (o.map φ) (φ y)) (t.map φ) = _
    rw [e, ih (meet o y) (fun x hx => (meet_mem.1 hx).elim (ho x) (fun h => h ▸ hy)) (fun x hx => hl x (by simp [hx]))]
    rfl
theorem bfs_map (nx : X → List X) (ny : Y → List Y) (φ : X → Y) (P : X → Prop) (inj : ∀ x y, P x → P y → φ x = φ y → x = y) (hP : ∀ x, P x → ∀ y ∈ nx x, P y) (hn : ∀ x, P x → ny (φ x) = (nx x).map φ) :
    ∀ (f i : Nat) (o : List X), (∀ x ∈ o, P x) → bfs ny f i (o.map φ) = (bfs nx f i o).map φ
  | 0, i, o, h => rfl
  | f + 1, i, o, h => by
    cases hx : o[i]? with
    | none => simp [bfs, hx]
    | some x =>
      have hpx := h x (List.mem_of_getElem? hx)
      have e : (o.map φ)[i]? = some (φ x) := by simp [hx]
      simp only [bfs, hx, e]
      rw [hn x hpx, meets_map φ P inj _ o h (hP x hpx)]
      exact bfs_map nx ny φ P inj hP hn f (i + 1) _ (fun z hz => (meets_mem.1 hz).elim (h z) (hP x hpx z))
theorem IsBfs.map {nx : X → List X} {r : X} {o : List X} (h : IsBfs nx r o) (ny : Y → List Y) (φ : X → Y) (P : X → Prop) (hr : P r) (inj : ∀ x y, P x → P y → φ x = φ y → x = y) (hP : ∀ x, P x → ∀ y ∈ nx x, P y) (hn : ∀ x, P x → ny (φ x) = (nx x).map φ) :
    IsBfs ny (φ r) (o.map φ) := by
  obtain ⟨f, h1, h2⟩ := h
  refine ⟨f, ?_, by simpa using h2⟩
  rw [← h1, ← bfs_map nx ny φ P inj hP hn f 0 [r] (by simpa using hr)]
  rfl
end
end Go.Proofs.YtifgcimmlonagaaDoor

namespace Go.Proofs.YtifgcimmlonagaaDoor
open Go
set_option linter.unusedVariables false

/-! Sets of texts, in order; what stands behind a byte. -/
abbrev Tx := List UInt8
def ltT : Tx → Tx → Bool
  | _, [] => false
  | [], _ :: _ => true
  | a :: s, b :: t => decide (a.toNat < b.toNat) || (a == b && ltT s t)
def RiseT (L : List Tx) : Prop := L.Pairwise fun a b => ltT a b = true
theorem ltT_cons (a b : UInt8) (s t : Tx) : ltT (a :: s) (b :: t) = true ↔ a.toNat < b.toNat ∨ (a = b ∧ ltT s t = true) := by
  simp [ltT]
theorem ltT_irr : ∀ s : Tx, ltT s s = false
  | [] => rfl
  | a :: s => by simp [ltT, ltT_irr s]
theorem ltT_trans : ∀ {a b c : Tx}, ltT a b = true → ltT b c = true → ltT a c = true
  | a, b, [], _, h => by cases b <;> simp [ltT] at h
  | [], b, c :: cs, h, _ => rfl
  | a :: aq, [], c :: cs, h, _ => by simp [ltT] at h
  | a :: aq, b :: bs, c :: cs, h1, h2 => by
    rw [ltT_cons] at *
    rcases h1 with h1 | ⟨rfl, h1⟩
    · rcases h2 with h2 | ⟨rfl, _⟩
      · exact Or.inl (by omega)
      · exact Or.inl h1
    · rcases h2 with h2 | ⟨rfl, h2⟩
      · exact Or.inl h2
      · exact Or.inr ⟨rfl, ltT_trans h1 h2⟩
theorem rise_ext : ∀ {A B : List Tx}, RiseT A → RiseT B → (∀ t, t ∈ A ↔ t ∈ B) → A = B
  | [], [], _, _, _ => rfl
  | [], b :: B, _, _, h => by have := (h b).2 (by simp); simp at this
  | a :: A, [], _, _, h => by have := (h a).1 (by simp); simp at this
  | a :: A, b :: B, ha, hb, h => by
    unfold RiseT at ha hb
    rw [List.pairwise_cons] at ha hb
    have e : a = b := by
      have h1 := (h a).1 (by simp)
      have h2 := (h b).2 (by simp)
      rcases List.mem_cons.1 h1 with h1 | h1
      · exact h1
      · rcases List.mem_cons.1 h2 with h2 | h2
        · exact h2.symm
        · have := ltT_trans (hb.1 a h1) (ha.1 b h2)
          rw [ltT_irr] at this
          cases this
    subst e
    congr 1
    refine rise_ext ha.2 hb.2 fun t => ?_
    constructor
    · intro ht
      rcases List.mem_cons.1 ((h t).1 (by simp [ht])) with rfl | h'
      · have := ha.1 t ht; rw [ltT_irr] at this; cases this
      · exact h'
    · intro ht
      rcases List.mem_cons.1 ((h t).2 (by simp [ht])) with rfl | h'
      · have := hb.1 t ht; rw [ltT_irr] at this; cases this
      · exact h'
end Go.Proofs.YtifgcimmlonagaaDoor
