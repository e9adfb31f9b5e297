import Derived.Below
namespace Go.Proofs.YtmnfioghhdgciaaDoor
open Go
set_option linter.unusedVariables false

/-! The order in which things are met, from one on. -/
section
variable {X Y : Type} [DecidableEq X] [DecidableEq Y]
def meet (o : List X) (y : X) : List X := if y ∈ o then o else o ++ [y]
def meets (o : List X) (l : List X) : List X := l.foldl meet o
def bfs (nx : X → List X) : Nat → Nat → List X → List X
  | 0, _, o => o
  | f + 1, i, o => match o[i]? with
    | none => o
    | some x => bfs nx f (i + 1) (meets o (nx x))
theorem meet_mem {o : List X} {y z : X} : z ∈ meet o y ↔ z ∈ o ∨ z = y := by
  unfold meet
  split
  · rename_i h; constructor
    · exact Or.inl
    · rintro (h1 | rfl)
      · exact h1
      · exact h
  · simp
theorem meet_nodup {o : List X} {y : X} (h : o.Nodup) : (meet o y).Nodup := by
  unfold meet
  split
  · exact h
  · rename_i hn
    rw [List.nodup_append]
    refine ⟨h, by simp, ?_⟩
    intro a ha b hb
    have e : b = y := by simpa using hb
    subst e
    intro e2
    subst e2
    exact hn ha
theorem meet_pre (o : List X) (y : X) : ∃ r, meet o y = o ++ r := by
  unfold meet
  split
  · exact ⟨[], by simp⟩
  · exact ⟨[y], rfl⟩
theorem meets_mem {l : List X} : ∀ {o : List X} {z : X}, z ∈ meets o l ↔ z ∈ o ∨ z ∈ l := by
  induction l with
  | nil => intro o z; simp [meets]
  | cons y t ih =>
    intro o z
    show z ∈ meets (meet o y) t ↔ _
    rw [ih, meet_mem, List.mem_cons, or_assoc]
theorem meets_nodup {l : List X} : ∀ {o : List X}, o.Nodup → (meets o l).Nodup := by
  induction l with
  | nil => intro o h; exact h
  | cons y t ih => intro o h; exact ih (meet_nodup h)
theorem meets_pre (l : List X) : ∀ (o : List X), ∃ r, meets o l = o ++ r := by
  induction l with
  | nil => intro o; exact ⟨[], by simp [meets]⟩
  | cons y t ih =>
    intro o
    obtain ⟨r1, h1⟩ := meet_pre o y
    obtain ⟨r2, h2⟩ := ih (meet o y)
    exact ⟨r1 ++ r2, by show meets (meet o y) t = _; rw [h2, h1, List.append_assoc]⟩
theorem meets_snoc (o l : List X) (y : X) : meets o (l ++ [y]) = meet (meets o l) y := by simp [meets]
theorem bfs_pre (nx : X → List X) : ∀ (f i : Nat) (o : List X), ∃ r, bfs nx f i o = o ++ r
  | 0, i, o => ⟨[], by simp [bfs]⟩
  | f + 1, i, o => by
    cases h : o[i]? with
    | none => exact ⟨[], by simp [bfs, h]⟩
    | some x =>
      obtain ⟨r1, h1⟩ := meets_pre (nx x) o
      obtain ⟨r2, h2⟩ := bfs_pre nx f (i + 1) (meets o (nx x))
      exact ⟨r1 ++ r2, by simp only [bfs, h]; rw [h2, h1, List.append_assoc]⟩
theorem bfs_nodup (nx : X → List X) : ∀ (f i : Nat) (o : List X), o.Nodup → (bfs nx f i o).Nodup
  | 0, i, o, h => h
  | f + 1, i, o, h => by
    cases hx : o[i]? with
    | none => simpa [bfs, hx] using h
    | some x => simp only [bfs, hx]; exact bfs_nodup nx f _ _ (meets_nodup h)
/-- Where the way ended, more of it changes nothing. -/
theorem bfs_more (nx : X → List X) : ∀ (f i : Nat) (o : List X), (bfs nx f i o).length ≤ i + f → ∀ k, bfs nx (f + k) i o = bfs nx f i o
  | 0, i, o, h, k => by
    have h' : o.length ≤ i := by simpa [bfs] using h
    cases k with
    | zero => rfl
    | succ k => simp [bfs, List.getElem?_eq_none h']
  | f + 1, i, o, h, k => by
    rw [show f + 1 + k = (f + k) + 1 from by omega]
    cases hx : o[i]? with
    | none => simp [bfs, hx]
    | some x =>
      simp only [bfs, hx] at h ⊢
      exact bfs_more nx f (i + 1) _ (by omega) k
theorem bfs_snoc (nx : X → List X) : ∀ (f i : Nat) (o : List X), bfs nx (f + 1) i o = match (bfs nx f i o)[i + f]? with
    | none => bfs nx f i o
    | some x => meets (bfs nx f i o) (nx x)
  | 0, i, o => by simp only [bfs, Nat.add_zero]
  | f + 1, i, o => by
    cases hx : o[i]? with
    | none =>
      have e1 : bfs nx (f + 1 + 1) i o = o := by rw [bfs, hx]
      have e2 : bfs nx (f + 1) i o = o := by rw [bfs, hx]
      have h3 : o[i + (f + 1)]? = none := by
        have : o.length ≤ i := List.getElem?_eq_none_iff.1 hx
        exact List.getElem?_eq_none (by omega)
      rw [e1, e2, h3]
    | some x =>
      have e1 : bfs nx (f + 1 + 1) i o = bfs nx (f + 1) (i + 1) (meets o (nx x)) := by rw [bfs, hx]
      have e2 : bfs nx (f + 1) i o = bfs nx f (i + 1) (meets o (nx x)) := by rw [bfs, hx]
      rw [e1, e2, bfs_snoc nx f (i + 1), show i + 1 + f = i + (f + 1) from by omega]
theorem bfs_step {nx : X → List X} {r x : X} {o : List X} {i : Nat} (h : bfs nx i 0 [r] = o) (hx : o[i]? = some x) : bfs nx (i + 1) 0 [r] = meets o (nx x) := by
  rw [bfs_snoc, h, Nat.zero_add, hx]
/-- The order that one comes to. -/
def IsBfs (nx : X → List X) (r : X) (o : List X) : Prop := ∃ f, bfs nx f 0 [r] = o ∧ o.length ≤ f
theorem IsBfs.uniq {nx : X → List X} {r : X} {o o' : List X} (h : IsBfs nx r o) (h' : IsBfs nx r o') : o = o' := by
  obtain ⟨f, h1, h2⟩ := h
  obtain ⟨g, h3, h4⟩ := h'
  have e1 := bfs_more nx f 0 [r] (by rw [h1]; omega) g
  have e2 := bfs_more nx g 0 [r] (by rw [h3]; omega) f
  rw [← h1, ← h3, ← e1, ← e2, Nat.add_comm]
theorem IsBfs.head {nx : X → List X} {r : X} {o : List X} (h : IsBfs nx r o) : o[0]? = some r := by
  obtain ⟨f, h1, _⟩ := h
  obtain ⟨q, hq⟩ := bfs_pre nx f 0 [r]
  rw [← h1, hq]; rfl
theorem IsBfs.nodup {nx : X → List X} {r : X} {o : List X} (h : IsBfs nx r o) : o.Nodup := by
  obtain ⟨f, h1, _⟩ := h
  rw [← h1]; exact bfs_nodup nx f 0 _ (by simp)
/-- Whatever is met is met by what was met. -/
theorem bfs_all (nx : X → List X) (P : X → Prop) (hP : ∀ x, P x → ∀ y ∈ nx x, P y) : ∀ (f i : Nat) (o : List X), (∀ x ∈ o, P x) → ∀ x ∈ bfs nx f i o, P x
  | 0, i, o, h => h
  | f + 1, i, o, h => by
    cases hx : o[i]? with
    | none => simpa [bfs, hx] using h
    | some x =>
      simp only [bfs, hx]
      refine bfs_all nx P hP f _ _ ?_
      intro z hz
      rcases meets_mem.1 hz with h1 | h1
      · exact h z h1
      · exact hP x (h x (List.mem_of_getElem? hx)) z h1
theorem IsBfs.all {nx : X → List X} {r : X} {o : List X} (h : IsBfs nx r o) (P : X → Prop) (hr : P r) (hP : ∀ x, P x → ∀ y ∈ nx x, P y) : ∀ x ∈ o, P x := by
  obtain ⟨f, h1, _⟩ := h
  rw [← h1]
  exact bfs_all nx P hP f 0 [r] (by simpa using hr)
/-- Nothing is left to be met. -/
theorem bfs_closed (nx : X → List X) : ∀ (f i : Nat) (o : List X), (bfs nx f i o).length ≤ i + f → (∀ j x, j < i → o[j]? = some x → ∀ y ∈ nx x, y ∈ o) → ∀ x ∈ bfs nx f i o, ∀ y ∈ nx x, y ∈ bfs nx f i o
  | 0, i, o, h, hc => by
    intro x hx y hy
    have h' : o.length ≤ i := by simpa [bfs] using h
    obtain ⟨j, hj⟩ := List.mem_iff_getElem?.1 (show x ∈ o from hx)
    have hjl : j < o.length := (List.getElem?_eq_some_iff.1 hj).1
    exact hc j x (by omega) hj y hy
  | f + 1, i, o, h, hc => by
    cases hx : o[i]? with
    | none =>
      simp only [bfs, hx]
      intro x hxm y hy
      obtain ⟨j, hj⟩ := List.mem_iff_getElem?.1 hxm
      have hjl : j < o.length := (List.getElem?_eq_some_iff.1 hj).1
      have : o.length ≤ i := List.getElem?_eq_none_iff.1 hx
      exact hc j x (by omega) hj y hy
    | some x =>
      simp only [bfs, hx] at h ⊢
      refine bfs_closed nx f (i + 1) _ (by omega) ?_
      intro j z hj hz y hy
      obtain ⟨r, hr⟩ := meets_pre (nx x) o
      have hil : i < o.length := (List.getElem?_eq_some_iff.1 hx).1
      have hz' : o[j]? = some z := by rw [hr, List.getElem?_append_left (by omega)] at hz; exact hz
      by_cases hji : j = i
      · subst hji
        rw [hx] at hz'
        cases hz'
        exact meets_mem.2 (Or.inr hy)
      · exact meets_mem.2 (Or.inl (hc j z (by omega) hz' y hy))
theorem IsBfs.closed {nx : X → List X} {r : X} {o : List X} (h : IsBfs nx r o) : ∀ x ∈ o, ∀ y ∈ nx x, y ∈ o := by
  obtain ⟨f, h1, h2⟩ := h
  have := bfs_closed nx f 0 [r] (by rw [h1]; omega) (fun j x hj => absurd hj (by omega))
  rw [h1] at this
  exact this
/-! A second naming of the same things. -/
theorem meets_map (φ : X → Y) (P : X → Prop) (inj : ∀ x y, P x → P y → φ x = φ y → x = y) (l : List X) : ∀ (o : List X), (∀ x ∈ o, P x) → (∀ x ∈ l, P x) → meets (o.map φ) (l.map φ) = (meets o l).map φ := by
  induction l with
  | nil => intro o _ _; rfl
  | cons y t ih =>
    intro o ho hl
    have hy := hl y (by simp)
    have e : meet (o.map φ) (φ y) = (meet o y).map φ := by
      unfold meet
      by_cases h : y ∈ o
      · rw [if_pos h, if_pos (List.mem_map_of_mem h)]
      · have h' : φ y ∉ o.map φ := by
          intro hc
          obtain ⟨x, hx, he⟩ := List.mem_map.1 hc
          have := inj x y (ho x hx) hy he
          subst this
          exact h hx
        rw [if_neg h, if_neg h']; simp
    show meets (meet (o.map φ) (φ y)) (t.map φ) = _
    rw [e, ih (meet o y) (fun x hx => (meet_mem.1 hx).elim (ho x) (fun h => h ▸ hy)) (fun x hx => hl x (by simp [hx]))]
    rfl
theorem bfs_map (nx : X → List X) (ny : Y → List Y) (φ : X → Y) (P : X → Prop) (inj : ∀ x y, P x → P y → φ x = φ y → x = y) (hP : ∀ x, P x → ∀ y ∈ nx x, P y) (hn : ∀ x, P x → ny (φ x) = (nx x).map φ) :
    ∀ (f i : Nat) (o : List X), (∀ x ∈ o, P x) → bfs ny f i (o.map φ) = (bfs nx f i o).map φ
  | 0, i, o, h => rfl
  | f + 1, i, o, h => by
    cases hx : o[i]? with
    | none => simp [bfs, hx]
    | some x =>
      have hpx := h x (List.mem_of_getElem? hx)
      have e : (o.map φ)[i]? = some (φ x) := by simp [hx]
      simp only [bfs, hx, e]
      rw [hn x hpx, meets_map φ P inj _ o h (hP x hpx)]
      exact bfs_map nx ny φ P inj hP hn f (i + 1) _ (fun z hz => (meets_mem.1 hz).elim (h z) (hP x hpx z))
theorem IsBfs.map {nx : X → List X} {r : X} {o : List X} (h : IsBfs nx r o) (ny : Y → List Y) (φ : X → Y) (P : X → Prop) (hr : P r) (inj : ∀ x y, P x → P y → φ x = φ y → x = y) (hP : ∀ x, P x → ∀ y ∈ nx x, P y) (hn : ∀ x, P x → ny (φ x) = (nx x).map φ) :
    IsBfs ny (φ r) (o.map φ) := by
  obtain ⟨f, h1, h2⟩ := h
  refine ⟨f, ?_, by simpa using h2⟩
  rw [← h1, ← bfs_map nx ny φ P inj hP hn f 0 [r] (by simpa using hr)]
  rfl
end
end Go.Proofs.YtmnfioghhdgciaaDoor

namespace Go.Proofs.YtmnfioghhdgciaaDoor
open Go
set_option linter.unusedVariables false

/-! How many there can be. -/
theorem nat_nodup_le : ∀ (N : Nat) (l : List Nat), l.Nodup → (∀ x ∈ l, x < N) → l.length ≤ N
  | 0, l, _, h => by
    cases l with
    | nil => simp
    | cons a t => exact absurd (h a (by simp)) (by omega)
  | N + 1, l, hn, h => by
    have h1 := nat_nodup_le N (l.erase N) (hn.erase N) (fun x hx => by
      have h2 := h x (List.mem_of_mem_erase hx)
      have h3 : x ≠ N := by
        rintro rfl
        exact absurd hx (by rw [hn.mem_erase_iff]; simp)
      omega)
    have h4 := List.length_erase (a := N) (l := l)
    by_cases hm : N ∈ l
    · rw [if_pos hm] at h4
      have := List.length_pos_of_mem hm
      omega
    · rw [if_neg hm] at h4
      omega
theorem card_le {X : Type} (l : List X) (hn : l.Nodup) (N : Nat) (dec : Nat → X) (h : ∀ x ∈ l, ∃ c, c < N ∧ dec c = x) : l.length ≤ N := by
  have hx : ∃ f : X → Nat, ∀ x ∈ l, f x < N ∧ dec (f x) = x := by
    refine ⟨fun x => open Classical in if hh : ∃ c, c < N ∧ dec c = x then Classical.choose hh else 0, fun x hx => ?_⟩
    have hh := h x hx
    simp only [dif_pos hh]
    exact Classical.choose_spec hh
  obtain ⟨f, hf⟩ := hx
  have h1 : (l.map f).Nodup := by
    rw [List.Nodup, List.pairwise_map]
    refine List.Pairwise.imp_of_mem ?_ hn
    intro a b ha hb hab e
    exact hab (by rw [← (hf a ha).2, ← (hf b hb).2, e])
  have h2 := nat_nodup_le N (l.map f) h1 (fun y hy => by
    obtain ⟨x, hx, rfl⟩ := List.mem_map.1 hy
    exact (hf x hx).1)
  simpa using h2
theorem sub_len {X : Type} (l o : List X) (hn : l.Nodup) (h : ∀ x ∈ l, x ∈ o) : l.length ≤ o.length := by
  by_cases ho : o = []
  · subst ho
    cases l with
    | nil => simp
    | cons a t => exact absurd (h a (by simp)) (by simp)
  · obtain ⟨d, ho'⟩ := List.exists_mem_of_ne_nil o ho
    refine card_le l hn o.length (fun c => o.getD c d) (fun x hx => ?_)
    obtain ⟨c, hc⟩ := List.mem_iff_getElem?.1 (h x hx)
    exact ⟨c, (List.getElem?_eq_some_iff.1 hc).1, by simp [List.getD, hc]⟩
/-- What takes as many as there are onto as many is one to one. -/
theorem onto_inj (f : Nat → Nat) (c : Nat) (h : ∀ y, y < c → ∃ x, x < c ∧ f x = y) : ∀ i j, i < c → j < c → f i = f j → i = j := by
  have key : ∀ i j, i < j → j < c → f i = f j → False := by
    intro i j hij hj he
    have := card_le (List.range c) List.nodup_range (c - 1) (fun d => f (if d < j then d else d + 1)) (fun y hy => by
      obtain ⟨x, hx, rfl⟩ := h y (List.mem_range.1 hy)
      by_cases h1 : x < j
      · exact ⟨x, by omega, by rw [if_pos h1]⟩
      · by_cases h2 : x = j
        · subst h2
          exact ⟨i, by omega, by rw [if_pos hij, he]⟩
        · refine ⟨x - 1, by omega, ?_⟩
          rw [if_neg (by omega)]
          congr 1
          omega)
    simp at this
    omega
  intro i j hi hj he
  rcases Nat.lt_trichotomy i j with h1 | h1 | h1
  · exact (key i j h1 hj he).elim
  · exact h1
  · exact (key j i h1 hi he.symm).elim
/-! Whole automata over the symbols below S, and what they accept. -/
structure Aut where
  fin : Nat → Bool
  nx : Nat → Nat → Nat
def Aut.acc (A : Aut) : Nat → List Nat → Bool
  | q, [] => A.fin q
  | q, a :: w => A.acc (A.nx q a) w
abbrev Lang := List Nat → Bool
def Aut.lang (A : Aut) (S q : Nat) : Lang := fun w => w.all (fun a => decide (a < S)) && A.acc q w
def toL (L : Lang) (a : Nat) : Lang := fun w => L (a :: w)
theorem lang_fin (A : Aut) (S q : Nat) : A.lang S q [] = A.fin q := by simp [Aut.lang, Aut.acc]
theorem lang_to (A : Aut) {S a : Nat} (q : Nat) (ha : a < S) : toL (A.lang S q) a = A.lang S (A.nx q a) := by
  funext w
  simp [toL, Aut.lang, Aut.acc, ha]
/-- Two automata that go side by side accept the same. -/
theorem bisim (A B : Aut) (S : Nat) (R : Nat → Nat → Prop) (hf : ∀ q r, R q r → A.fin q = B.fin r) (hn : ∀ q r, R q r → ∀ a, a < S → R (A.nx q a) (B.nx r a)) : ∀ q r, R q r → A.lang S q = B.lang S r := by
  intro q r h
  funext w
  induction w generalizing q r with
  | nil => rw [lang_fin, lang_fin, hf q r h]
  | cons a w ih =>
    by_cases ha : a < S
    · have h1 := ih _ _ (hn q r h a ha)
      rw [← lang_to A q ha, ← lang_to B r ha] at h1
      exact h1
    · simp [Aut.lang, ha]
def emptyL : Lang := fun _ => false
/-! The least one, told by any names of what is accepted. -/
structure Sys (X : Type) where
  fin : X → Bool
  gto : X → Nat → X
  dead : X → Bool
abbrev PSt := Bool × List (Int × Int) × Int
section
variable {X Y : Type} [DecidableEq X] [DecidableEq Y]
def ix (o : List X) (x : X) : Nat := o.idxOf x
theorem ix_at {o : List X} {x : X} (h : x ∈ o) : o[ix o x]? = some x := by
  have h1 := List.idxOf_lt_length_iff.2 h
  unfold ix
  rw [List.getElem?_eq_getElem h1, List.getElem_idxOf]
theorem ix_lt {o : List X} {x : X} (h : x ∈ o) : ix o x < o.length := List.idxOf_lt_length_iff.2 h
theorem ix_of {o : List X} (hn : o.Nodup) {x : X} {i : Nat} (h : o[i]? = some x) : ix o x = i := by
  have hx : x ∈ o := List.mem_of_getElem? h
  obtain ⟨h2, h3⟩ := List.getElem?_eq_some_iff.1 h
  obtain ⟨h4, h5⟩ := List.getElem?_eq_some_iff.1 (ix_at hx)
  exact (List.getElem_inj (h₀ := h4) (h₁ := h2) hn).1 (h5.trans h3.symm)
theorem ix_new {o : List X} {x : X} (h : x ∉ o) : ix (o ++ [x]) x = o.length := by
  unfold ix
  rw [List.idxOf_append, if_neg h]
  simp
theorem ix_pre {o r : List X} {x : X} (h : x ∈ o) : ix (o ++ r) x = ix o x := by
  unfold ix
  rw [List.idxOf_append, if_pos h]
def Sys.told (T : Sys X) (m : Nat) (x : X) : List Nat := (List.range m).filter fun k => decide (T.gto x k ≠ T.gto x m)
def Sys.nexts (T : Sys X) (m : Nat) (x : X) : List X := ((T.told m x).map (T.gto x) ++ [T.gto x m]).filter fun y => !T.dead y
def Sys.num (T : Sys X) (o : List X) (y : X) : Int := if T.dead y = true then -1 else (ix o y : Int)
def Sys.state (T : Sys X) (m : Nat) (ls : List Int) (o : List X) (x : X) : PSt :=
  (T.fin x, (T.told m x).map (fun k => (ls.getD k 0, T.num o (T.gto x k))), T.num o (T.gto x m))
def Sys.Least (T : Sys X) (m : Nat) (ls : List Int) (r : X) (D : List PSt) : Prop := ∃ o, IsBfs (T.nexts m) r o ∧ D = o.map (T.state m ls o)
theorem Sys.Least.uniq {T : Sys X} {m : Nat} {ls : List Int} {r : X} {D E : List PSt} (h : T.Least m ls r D) (k : T.Least m ls r E) : D = E := by
  obtain ⟨o, h1, rfl⟩ := h
  obtain ⟨p, k1, rfl⟩ := k
  rw [h1.uniq k1]
theorem idxOf_map (φ : X → Y) (P : X → Prop) (inj : ∀ x y, P x → P y → φ x = φ y → x = y) (y : X) (hy : P y) : ∀ (o : List X), (∀ x ∈ o, P x) → ix (o.map φ) (φ y) = ix o y
  | [], _ => rfl
  | x :: o, h => by
    have ih := idxOf_map φ P inj y hy o (fun z hz => h z (by simp [hz]))
    unfold ix at ih ⊢
    rw [List.map_cons, List.idxOf_cons, List.idxOf_cons, ih]
    by_cases e : x = y
    · subst e; simp
    · have e' : φ x ≠ φ y := fun he => e (inj x y (h x (by simp)) hy he)
      have b1 : (φ x == φ y) = false := by simpa using e'
      have b2 : (x == y) = false := by simpa using e
      rw [b1, b2]
theorem Sys.Least.map {T : Sys X} {U : Sys Y} {m : Nat} {ls : List Int} {r : X} {D : List PSt} (h : T.Least m ls r D) (φ : X → Y) (P : X → Prop) (hr : P r)
    (inj : ∀ x y, P x → P y → φ x = φ y → x = y) (hP : ∀ x, P x → ∀ k, k ≤ m → P (T.gto x k)) (hf : ∀ x, P x → U.fin (φ x) = T.fin x)
    (ht : ∀ x, P x → ∀ k, k ≤ m → φ (T.gto x k) = U.gto (φ x) k) (hd : ∀ x, P x → U.dead (φ x) = T.dead x) : U.Least m ls (φ r) D := by
  obtain ⟨o, h1, rfl⟩ := h
  have told : ∀ x, P x → U.told m (φ x) = T.told m x := by
    intro x hx
    unfold Sys.told
    refine List.filter_congr fun k hk => ?_
    have hk' : k < m := List.mem_range.1 hk
    rw [← ht x hx k (by omega), ← ht x hx m (Nat.le_refl m)]
    have : (φ (T.gto x k) = φ (T.gto x m)) ↔ (T.gto x k = T.gto x m) := ⟨inj _ _ (hP x hx k (by omega)) (hP x hx m (Nat.le_refl m)), fun e => by rw [e]⟩
    simp [this]
  have toldLt : ∀ x, ∀ k ∈ T.told m x, k < m := fun x k hk => List.mem_range.1 (List.mem_filter.1 hk).1
  have nextP : ∀ x, P x → ∀ y ∈ T.nexts m x, P y := by
    intro x hx y hy
    have := (List.mem_filter.1 hy).1
    rcases List.mem_append.1 this with h2 | h2
    · obtain ⟨k, hk, rfl⟩ := List.mem_map.1 h2
      exact hP x hx k (by have := toldLt x k hk; omega)
    · rw [List.mem_singleton.1 h2]; exact hP x hx m (Nat.le_refl m)
  have nexts : ∀ x, P x → U.nexts m (φ x) = (T.nexts m x).map φ := by
    intro x hx
    have e : (U.told m (φ x)).map (U.gto (φ x)) ++ [U.gto (φ x) m] = ((T.told m x).map (T.gto x) ++ [T.gto x m]).map φ := by
      rw [told x hx, List.map_append, List.map_map, ← ht x hx m (Nat.le_refl m)]
      congr 1
      refine List.map_congr_left fun k hk => ?_
      rw [Function.comp_apply, ht x hx k (by have := toldLt x k hk; omega)]
    unfold Sys.nexts
    rw [e, List.filter_map]
    congr 1
    refine List.filter_congr fun y hy => ?_
    have hy' : P y := by
      rcases List.mem_append.1 hy with h2 | h2
      · obtain ⟨k, hk, rfl⟩ := List.mem_map.1 h2
        exact hP x hx k (by have := toldLt x k hk; omega)
      · rw [List.mem_singleton.1 h2]; exact hP x hx m (Nat.le_refl m)
    simp [hd y hy']
  have hall := h1.all P hr nextP
  have num : ∀ y, P y → U.num (o.map φ) (φ y) = T.num o y := by
    intro y hy
    unfold Sys.num
    rw [hd y hy, idxOf_map φ P inj y hy o hall]
  refine ⟨o.map φ, h1.map (U.nexts m) φ P hr inj nextP nexts, ?_⟩
  rw [List.map_map]
  refine List.map_congr_left fun x hx => ?_
  have hx' := hall x hx
  simp only [Function.comp_apply, Sys.state]
  rw [told x hx', hf x hx', ← ht x hx' m (Nat.le_refl m), num _ (hP x hx' m (Nat.le_refl m))]
  congr 2
  refine List.map_congr_left fun k hk => ?_
  have hk' := toldLt x k hk
  rw [← ht x hx' k (by omega), num _ (hP x hx' k (by omega))]
end

noncomputable instance langDec : DecidableEq Lang := fun a b => Classical.propDecidable _
noncomputable def sysL : Sys Lang := ⟨fun L => L [], toL, fun L => decide (L = emptyL)⟩
/-- What is reached stands in the order, but for what accepts nothing. -/
theorem reach_order {m : Nat} {L : Lang} {o : List Lang} (h : IsBfs (sysL.nexts m) L o) : ∀ (w : List Nat), (∀ a ∈ w, a ≤ m) → ∀ K, (K ∈ o ∨ K = emptyL) → (w.foldl toL K ∈ o ∨ w.foldl toL K = emptyL) := by
  intro w
  induction w with
  | nil => intro _ K hK; exact hK
  | cons a w ih =>
    intro hw K hK
    refine ih (fun b hb => hw b (by simp [hb])) (toL K a) ?_
    have ha := hw a (by simp)
    rcases hK with hK | rfl
    · by_cases he : toL K a = emptyL
      · exact Or.inr he
      · refine Or.inl (h.closed K hK _ ?_)
        refine List.mem_filter.2 ⟨?_, by simp [sysL, he]⟩
        by_cases e : toL K a = toL K m
        · rw [e]; exact List.mem_append_right _ (by simp [sysL])
        · refine List.mem_append_left _ (List.mem_map.2 ⟨a, List.mem_filter.2 ⟨List.mem_range.2 ?_, decide_eq_true e⟩, rfl⟩)
          rcases Nat.lt_or_eq_of_le ha with h1 | h1
          · exact h1
          · exact absurd (by rw [h1]) e
    · exact Or.inr rfl
theorem least_many {m : Nat} {ls : List Int} {L : Lang} {D : List PSt} (h : sysL.Least m ls L D) (l : List Lang) (hn : l.Nodup) (hl : ∀ K ∈ l, ∃ w : List Nat, (∀ a ∈ w, a ≤ m) ∧ K = w.foldl toL L) : l.length ≤ D.length + 1 := by
  obtain ⟨o, h1, rfl⟩ := h
  have := sub_len l (o ++ [emptyL]) hn (fun K hK => by
    obtain ⟨w, hw, rfl⟩ := hl K hK
    have h0 : L ∈ o := List.mem_of_getElem? h1.head
    rcases reach_order h1 w hw L (Or.inl h0) with h2 | h2
    · exact List.mem_append_left _ h2
    · exact List.mem_append_right _ (by rw [h2]; simp))
  simpa using this
/-! Classes. -/
def Shut (A : Aut) (S n : Nat) : Prop := ∀ q a, q < n → a < S → A.nx q a < n
def Coarse (A : Aut) (S n : Nat) (κ : Nat → Nat) : Prop := ∀ q r, q < n → r < n → A.lang S q = A.lang S r → κ q = κ r
def Stable (A : Aut) (S n : Nat) (κ : Nat → Nat) : Prop := ∀ q r, q < n → r < n → κ q = κ r → A.fin q = A.fin r ∧ ∀ a, a < S → κ (A.nx q a) = κ (A.nx r a)
def Parts (A : Aut) (S n : Nat) (κ : Nat → Nat) : Prop := ∀ q r, q < n → r < n → (κ q = κ r ↔ A.lang S q = A.lang S r)
theorem Stable.parts {A : Aut} {S n : Nat} {κ : Nat → Nat} (hs : Shut A S n) (h : Stable A S n κ) (hc : Coarse A S n κ) : Parts A S n κ := by
  intro q r hq hr
  refine ⟨fun e => ?_, hc q r hq hr⟩
  refine bisim A A S (fun x y => x < n ∧ y < n ∧ κ x = κ y) (fun x y hh => (h x y hh.1 hh.2.1 hh.2.2).1) (fun x y hh a ha => ⟨hs x a hh.1 ha, hs y a hh.2.1 ha, (h x y hh.1 hh.2.1 hh.2.2).2 a ha⟩) q r ⟨hq, hr, e⟩
theorem Coarse.step {A : Aut} {S n : Nat} {κ : Nat → Nat} (hs : Shut A S n) (h : Coarse A S n κ) {q r : Nat} (hq : q < n) (hr : r < n) (e : A.lang S q = A.lang S r) : A.fin q = A.fin r ∧ ∀ a, a < S → κ (A.nx q a) = κ (A.nx r a) := by
  refine ⟨by rw [← lang_fin A S q, ← lang_fin A S r, e], fun a ha => h _ _ (hs q a hq ha) (hs r a hr ha) ?_⟩
  rw [← lang_to A q ha, ← lang_to A r ha, e]
def sysC (A : Aut) (κ rep : Nat → Nat) (dead : Nat → Bool) : Sys Nat := ⟨fun c => A.fin (rep c), fun c k => κ (A.nx (rep c) k), dead⟩
theorem Parts.least {A : Aut} {m n : Nat} {κ rep : Nat → Nat} {dead : Nat → Bool} {ls : List Int} {D : List PSt} (hs : Shut A (m + 1) n) (h : Parts A (m + 1) n κ) (h0 : 0 < n)
    (hrep : ∀ q, q < n → rep (κ q) < n ∧ κ (rep (κ q)) = κ q) (hdead : ∀ q, q < n → (dead (κ q) = true ↔ A.lang (m + 1) q = emptyL))
    (hD : (sysC A κ rep dead).Least m ls (κ 0) D) : sysL.Least m ls (A.lang (m + 1) 0) D := by
  have hlang : ∀ q, q < n → A.lang (m + 1) (rep (κ q)) = A.lang (m + 1) q := fun q hq => (h _ _ (hrep q hq).1 hq).1 (hrep q hq).2
  rw [← hlang 0 h0]
  refine Sys.Least.map hD (fun c => A.lang (m + 1) (rep c)) (fun c => ∃ q, q < n ∧ c = κ q) ⟨0, h0, rfl⟩ ?_ ?_ ?_ ?_ ?_
  · rintro x y ⟨q, hq, rfl⟩ ⟨r, hr, rfl⟩ e
    rw [hlang q hq, hlang r hr] at e
    exact (h q r hq hr).2 e
  · rintro x ⟨q, hq, rfl⟩ k hk
    exact ⟨A.nx (rep (κ q)) k, hs _ k (hrep q hq).1 (by omega), rfl⟩
  · intro x _
    exact lang_fin A (m + 1) (rep x)
  · rintro x ⟨q, hq, rfl⟩ k hk
    have h1 : A.nx (rep (κ q)) k < n := hs _ k (hrep q hq).1 (by omega)
    show A.lang (m + 1) (rep (κ (A.nx (rep (κ q)) k))) = toL (A.lang (m + 1) (rep (κ q))) k
    rw [lang_to A _ (show k < m + 1 by omega), hlang _ h1]
  · rintro x ⟨q, hq, rfl⟩
    show decide (A.lang (m + 1) (rep (κ q)) = emptyL) = dead (κ q)
    rw [hlang q hq]
    have := hdead q hq
    cases hd : dead (κ q) with
    | true => simpa using this.1 hd
    | false =>
      simp only [decide_eq_false_iff_not]
      intro e
      rw [this.2 e] at hd
      cases hd
/-- A class that accepts nothing leads to itself alone. -/
theorem Parts.dead {A : Aut} {S n : Nat} {κ : Nat → Nat} (hs : Shut A S n) (h : Parts A S n κ) {q : Nat} (hq : q < n) : (A.fin q = false ∧ ∀ a, a < S → κ (A.nx q a) = κ q) ↔ A.lang S q = emptyL := by
  constructor
  · rintro ⟨hf, hn⟩
    have : ∀ w r, r < n → κ r = κ q → A.lang S r w = false := by
      intro w
      induction w with
      | nil =>
        intro r hr e
        have := congrFun ((h r q hr hq).1 e) []
        rw [this, lang_fin, hf]
      | cons a w ih =>
        intro r hr e
        by_cases ha : a < S
        · have e2 := (h r q hr hq).1 e
          have h3 : A.lang S r (a :: w) = A.lang S (A.nx q a) w := by rw [e2, ← lang_to A q ha]; rfl
          rw [h3]
          exact ih _ (hs q a hq ha) (hn a ha)
        · simp [Aut.lang, ha]
    funext w
    exact this w q hq rfl
  · intro e
    refine ⟨by rw [← lang_fin A S q, e]; rfl, fun a ha => (h _ _ (hs q a hq ha) hq).2 ?_⟩
    rw [← lang_to A q ha, e]
    rfl
/-- All that the numbers name is reached: the languages of states. -/
theorem lang_run (A : Aut) {m : Nat} : ∀ (w : List Nat) (q : Nat), (∀ a ∈ w, a ≤ m) → A.lang (m + 1) (w.foldl A.nx q) = w.foldl toL (A.lang (m + 1) q)
  | [], q, _ => rfl
  | a :: w, q, h => by
    rw [List.foldl_cons, List.foldl_cons, lang_run A w _ (fun b hb => h b (by simp [hb])), lang_to A q (show a < m + 1 by have := h a (by simp); omega)]
end Go.Proofs.YtmnfioghhdgciaaDoor
