import Derived.Below
namespace Go.Proofs.Ytjndogajdlophaa
open Go
set_option linter.unusedVariables false

/-! The order in which things are met, from one on. -/
section
variable {X Y : Type} [DecidableEq X] [DecidableEq Y]
def meet (o : List X) (y : X) : List X := if y ∈ o then o else o ++ [y]
def meets (o : List X) (l : List X) : List X := l.foldl meet o
def bfs (nx : X → List X) : Nat → Nat → List X → List X
  | 0, _, o => o
  | f + 1, i, o => match o[i]? with
    | none => o
    | some x => bfs nx f (i + 1) (meets o (nx x))
theorem meet_mem {o : List X} {y z : X} : z ∈ meet o y ↔ z ∈ o ∨ z = y := by
  unfold meet
  split
  · rename_i h; constructor
    · exact Or.inl
    · rintro (h1 | rfl)
      · exact h1
      · exact h
  · simp
theorem meet_nodup {o : List X} {y : X} (h : o.Nodup) : (meet o y).Nodup := by
  unfold meet
  split
  · exact h
  · rename_i hn
    rw [List.nodup_append]
    refine ⟨h, by simp, ?_⟩
    intro a ha b hb
    have e : b = y := by simpa using hb
    subst e
    intro e2
    subst e2
    exact hn ha
theorem meet_pre (o : List X) (y : X) : ∃ r, meet o y = o ++ r := by
  unfold meet
  split
  · exact ⟨[], by simp⟩
  · exact ⟨[y], rfl⟩
theorem meets_mem {l : List X} : ∀ {o : List X} {z : X}, z ∈ meets o l ↔ z ∈ o ∨ z ∈ l := by
  induction l with
  | nil => intro o z; simp [meets]
  | cons y t ih =>
    intro o z
    show z ∈ meets (meet o y) t ↔ _
    rw [ih, meet_mem, List.mem_cons, or_assoc]
theorem meets_nodup {l : List X} : ∀ {o : List X}, o.Nodup → (meets o l).Nodup := by
  induction l with
  | nil => intro o h; exact h
  | cons y t ih => intro o h; exact ih (meet_nodup h)
theorem meets_pre (l : List X) : ∀ (o : List X), ∃ r, meets o l = o ++ r := by
  induction l with
  | nil => intro o; exact ⟨[], by simp [meets]⟩
  | cons y t ih =>
    intro o
    obtain ⟨r1, h1⟩ := meet_pre o y
    obtain ⟨r2, h2⟩ := ih (meet o y)
    exact ⟨r1 ++ r2, by show meets (meet o y) t = _; rw [h2, h1, List.append_assoc]⟩
theorem meets_snoc (o l : List X) (y : X) : meets o (l ++ [y]) = meet (meets o l) y := by simp [meets]
theorem bfs_pre (nx : X → List X) : ∀ (f i : Nat) (o : List X), ∃ r, bfs nx f i o = o ++ r
  | 0, i, o => ⟨[], by simp [bfs]⟩
  | f + 1, i, o => by
    cases h : o[i]? with
    | none => exact ⟨[], by simp [bfs, h]⟩
    | some x =>
      obtain ⟨r1, h1⟩ := meets_pre (nx x) o
      obtain ⟨r2, h2⟩ := bfs_pre nx f (i + 1) (meets o (nx x))
      exact ⟨r1 ++ r2, by simp only [bfs, h]; rw [h2, h1, List.append_assoc]⟩
theorem bfs_nodup (nx : X → List X) : ∀ (f i : Nat) (o : List X), o.Nodup → (bfs nx f i o).Nodup
  | 0, i, o, h => h
  | f + 1, i, o, h => by
    cases hx : o[i]? with
    | none => simpa [bfs, hx] using h
    | some x => simp only [bfs, hx]; exact bfs_nodup nx f _ _ (meets_nodup h)
/-- Where the way ended, more of it changes nothing. -/
theorem bfs_more (nx : X → List X) : ∀ (f i : Nat) (o : List X), (bfs nx f i o).length ≤ i + f → ∀ k, bfs nx (f + k) i o = bfs nx f i o
  | 0, i, o, h, k => by
    have h' : o.length ≤ i := by simpa [bfs] using h
    cases k with
    | zero => rfl
    | succ k => simp [bfs, List.getElem?_eq_none h']
  | f + 1, i, o, h, k => by
    rw [show f + 1 + k = (f + k) + 1 from by omega]
    cases hx : o[i]? with
    | none => simp [bfs, hx]
    | some x =>
      simp only [bfs, hx] at h ⊢
      exact bfs_more nx f (i + 1) _ (by omega) k
theorem bfs_snoc (nx : X → List X) : ∀ (f i : Nat) (o : List X), bfs nx (f + 1) i o = match (bfs nx f i o)[i + f]? with
    | none => bfs nx f i o
    | some x => meets (bfs nx f i o) (nx x)
  | 0, i, o => by simp only [bfs, Nat.add_zero]
  | f + 1, i, o => by
    cases hx : o[i]? with
    | none =>
      have e1 : bfs nx (f + 1 + 1) i o = o := by rw [bfs, hx]
      have e2 : bfs nx (f + 1) i o = o := by rw [bfs, hx]
      have h3 : o[i + (f + 1)]? = none := by
        have : o.length ≤ i := List.getElem?_eq_none_iff.1 hx
        exact List.getElem?_eq_none (by omega)
      rw [e1, e2, h3]
    | some x =>
      have e1 : bfs nx (f + 1 + 1) i o = bfs nx (f + 1) (i + 1) (meets o (nx x)) := by rw [bfs, hx]
      have e2 : bfs nx (f + 1) i o = bfs nx f (i + 1) (meets o (nx x)) := by rw [bfs, hx]
      rw [e1, e2, bfs_snoc nx f (i + 1), show i + 1 + f = i + (f + 1) from by omega]
theorem bfs_step {nx : X → List X} {r x : X} {o : List X} {i : Nat} (h : bfs nx i 0 [r] = o) (hx : o[i]? = some x) : bfs nx (i + 1) 0 [r] = meets o (nx x) := by
  rw [bfs_snoc, h, Nat.zero_add, hx]
/-- The order that one comes to. -/
def IsBfs (nx : X → List X) (r : X) (o : List X) : Prop := ∃ f, bfs nx f 0 [r] = o ∧ o.length ≤ f
theorem IsBfs.uniq {nx : X → List X} {r : X} {o o' : List X} (h : IsBfs nx r o) (h' : IsBfs nx r o') : o = o' := by
  obtain ⟨f, h1, h2⟩ := h
  obtain ⟨g, h3, h4⟩ := h'
  have e1 := bfs_more nx f 0 [r] (by rw [h1]; omega) g
  have e2 := bfs_more nx g 0 [r] (by rw [h3]; omega) f
  rw [← h1, ← h3, ← e1, ← e2, Nat.add_comm]
theorem IsBfs.head {nx : X → List X} {r : X} {o : List X} (h : IsBfs nx r o) : o[0]? = some r := by
  obtain ⟨f, h1, _⟩ := h
  obtain ⟨q, hq⟩ := bfs_pre nx f 0 [r]
  rw [← h1, hq]; rfl
theorem IsBfs.nodup {nx : X → List X} {r : X} {o : List X} (h : IsBfs nx r o) : o.Nodup := by
  obtain ⟨f, h1, _⟩ := h
  rw [← h1]; exact bfs_nodup nx f 0 _ (by simp)
/-- Whatever is met is met by what was met. -/
theorem bfs_all (nx : X → List X) (P : X → Prop) (hP : ∀ x, P x → ∀ y ∈ nx x, P y) : ∀ (f i : Nat) (o : List X), (∀ x ∈ o, P x) → ∀ x ∈ bfs nx f i o, P x
  | 0, i, o, h => h
  | f + 1, i, o, h => by
    cases hx : o[i]? with
    | none => simpa [bfs, hx] using h
    | some x =>
      simp only [bfs, hx]
      refine bfs_all nx P hP f _ _ ?_
      intro z hz
      rcases meets_mem.1 hz with h1 | h1
      · exact h z h1
      · exact hP x (h x (List.mem_of_getElem? hx)) z h1
theorem IsBfs.all {nx : X → List X} {r : X} {o : List X} (h : IsBfs nx r o) (P : X → Prop) (hr : P r) (hP : ∀ x, P x → ∀ y ∈ nx x, P y) : ∀ x ∈ o, P x := by
  obtain ⟨f, h1, _⟩ := h
  rw [← h1]
  exact bfs_all nx P hP f 0 [r] (by simpa using hr)
/-- Nothing is left to be met. -/
theorem bfs_closed (nx : X → List X) : ∀ (f i : Nat) (o : List X), (bfs nx f i o).length ≤ i + f → (∀ j x, j < i → o[j]? = some x → ∀ y ∈ nx x, y ∈ o) → ∀ x ∈ bfs nx f i o, ∀ y ∈ nx x, y ∈ bfs nx f i o
  | 0, i, o, h, hc => by
    intro x hx y hy
    have h' : o.length ≤ i := by simpa [bfs] using h
    obtain ⟨j, hj⟩ := List.mem_iff_getElem?.1 (show x ∈ o from hx)
    have hjl : j < o.length := (List.getElem?_eq_some_iff.1 hj).1
    exact hc j x (by omega) hj y hy
  | f + 1, i, o, h, hc => by
    cases hx : o[i]? with
    | none =>
      simp only [bfs, hx]
      intro x hxm y hy
      obtain ⟨j, hj⟩ := List.mem_iff_getElem?.1 hxm
      have hjl : j < o.length := (List.getElem?_eq_some_iff.1 hj).1
      have : o.length ≤ i := List.getElem?_eq_none_iff.1 hx
      exact hc j x (by omega) hj y hy
    | some x =>
      simp only [bfs, hx] at h ⊢
      refine bfs_closed nx f (i + 1) _ (by omega) ?_
      intro j z hj hz y hy
      obtain ⟨r, hr⟩ := meets_pre (nx x) o
      have hil : i < o.length := (List.getElem?_eq_some_iff.1 hx).1
      have hz' : o[j]? = some z := by rw [hr, List.getElem?_append_left (by omega)] at hz; exact hz
      by_cases hji : j = i
      · subst hji
        rw [hx] at hz'
        cases hz'
        exact meets_mem.2 (Or.inr hy)
      · exact meets_mem.2 (Or.inl (hc j z (by omega) hz' y hy))
theorem IsBfs.closed {nx : X → List X} {r : X} {o : List X} (h : IsBfs nx r o) : ∀ x ∈ o, ∀ y ∈ nx x, y ∈ o := by
  obtain ⟨f, h1, h2⟩ := h
  have := bfs_closed nx f 0 [r] (by rw [h1]; omega) (fun j x hj => absurd hj (by omega))
  rw [h1] at this
  exact this

/-! A second naming of the same things. -/
theorem meets_map (φ : X → Y) (P : X → Prop) (inj : ∀ x y, P x → P y → φ x = φ y → x = y) (l : List X) : ∀ (o : List X), (∀ x ∈ o, P x) → (∀ x ∈ l, P x) → meets (o.map φ) (l.map φ) = (meets o l).map φ := by
  induction l with
  | nil => intro o _ _; rfl
  | cons y t ih =>
    intro o ho hl
    have hy := hl y (by simp)
    have e : meet (o.map φ) (φ y) = (meet o y).map φ := by
      unfold meet
      by_cases h : y ∈ o
      · rw [if_pos h, if_pos (List.mem_map_of_mem h)]
      · have h' : φ y ∉ o.map φ := by
          intro hc
          obtain ⟨x, hx, he⟩ := List.mem_map.1 hc
          have := inj x y (ho x hx) hy he
          subst this
          exact h hx
        rw [if_neg h, if_neg h']; simp
    show meets (meet (o.map φ) (φ y)) (t.map φ) = _
    rw [e, ih (meet o y) (fun x hx => (meet_mem.1 hx).elim (ho x) (fun h => h ▸ hy)) (fun x hx => hl x (by simp [hx]))]
    rfl
theorem bfs_map (nx : X → List X) (ny : Y → List Y) (φ : X → Y) (P : X → Prop) (inj : ∀ x y, P x → P y → φ x = φ y → x = y) (hP : ∀ x, P x → ∀ y ∈ nx x, P y) (hn : ∀ x, P x → ny (φ x) = (nx x).map φ) :
    ∀ (f i : Nat) (o : List X), (∀ x ∈ o, P x) → bfs ny f i (o.map φ) = (bfs nx f i o).map φ
  | 0, i, o, h => rfl
  | f + 1, i, o, h => by
    cases hx : o[i]? with
    | none => simp [bfs, hx]
    | some x =>
      have hpx := h x (List.mem_of_getElem? hx)
      have e : (o.map φ)[i]? = some (φ x) := by simp [hx]
      simp only [bfs, hx, e]
      rw [hn x hpx, meets_map φ P inj _ o h (hP x hpx)]
      exact bfs_map nx ny φ P inj hP hn f (i + 1) _ (fun z hz => (meets_mem.1 hz).elim (h z) (hP x hpx z))
theorem IsBfs.map {nx : X → List X} {r : X} {o : List X} (h : IsBfs nx r o) (ny : Y → List Y) (φ : X → Y) (P : X → Prop) (hr : P r) (inj : ∀ x y, P x → P y → φ x = φ y → x = y) (hP : ∀ x, P x → ∀ y ∈ nx x, P y) (hn : ∀ x, P x → ny (φ x) = (nx x).map φ) :
    IsBfs ny (φ r) (o.map φ) := by
  obtain ⟨f, h1, h2⟩ := h
  refine ⟨f, ?_, by simpa using h2⟩
  rw [← h1, ← bfs_map nx ny φ P inj hP hn f 0 [r] (by simpa using hr)]
  rfl
end
end Go.Proofs.Ytjndogajdlophaa
