import Derived.Below
import Derived.Test.YtifgcimmlonagaaDoorSuggestJ01
namespace Go.Proofs.YtifgcimmlonagaaDoor
open Go
set_option linter.unusedVariables false

/-! The order in which things are met, from one on. -/
section
variable {X Y : Type} [DecidableEq X] [DecidableEq Y]
def meet (o : List X) (y : X) : List X := if y ∈ o then o else o ++ [y]
def meets (o : List X) (l : List X) : List X := l.foldl meet o
def bfs (nx : X → List X) : Nat → Nat → List X → List X
  | 0, _, o => o
  | f + 1, i, o => match o[i]? with
    | none => o
    | some x => bfs nx f (i + 1) (meets o (nx x))
theorem meet_mem {o : List X} {y z : X} : z ∈ meet o y ↔ z ∈ o ∨ z = y := by
  unfold meet
  split
  · rename_i h; constructor
    · exact Or.inl
    · rintro (h1 | rfl)
      · exact h1
      · exact h
  · simp
theorem meet_nodup {o : List X} {y : X} (h : o.Nodup) : (meet o y).Nodup := by
  unfold meet
  split
  · exact h
  · rename_i hn
    rw [List.nodup_append]
    refine ⟨h, by simp, ?_⟩
    intro a ha b hb
    have e : b = y := by simpa using hb
    subst e
    intro e2
    subst e2
    exact hn ha
theorem meet_pre (o : List X) (y : X) : ∃ r, meet o y = o ++ r := by
  unfold meet
  split
  · exact ⟨[], by simp⟩
  · exact ⟨[y], rfl⟩
theorem meets_mem {l : List X} : ∀ {o : List X} {z : X}, z ∈ meets o l ↔ z ∈ o ∨ z ∈ l := by
  induction l with
  | nil => intro o z; simp [meets]
  | cons y t ih =>
    intro o z
    show z ∈ meets (meet o y) t ↔ _
    rw [ih, meet_mem, List.mem_cons, or_assoc]
theorem meets_nodup {l : List X} : ∀ {o : List X}, o.Nodup → (meets o l).Nodup := by
  induction l with
  | nil => intro o h; exact h
  | cons y t ih => intro o h; exact ih (meet_nodup h)
theorem meets_pre (l : List X) : ∀ (o : List X), ∃ r, meets o l = o ++ r := by
  induction l with
  | nil => intro o; exact ⟨[], by simp [meets]⟩
  | cons y t ih =>
    intro o
    obtain ⟨r1, h1⟩ := meet_pre o y
    obtain ⟨r2, h2⟩ := ih (meet o y)
    exact ⟨r1 ++ r2, by show meets (meet o y) t = _; rw [h2, h1, List.append_assoc]⟩
theorem bfs_pre (nx : X → List X) : ∀ (f i : Nat) (o : List X), ∃ r, bfs nx f i o = o ++ r
  | 0, i, o => ⟨[], by simp [bfs]⟩
  | f + 1, i, o => by
    cases h : o[i]? with
    | none => exact ⟨[], by simp [bfs, h]⟩
    | some x =>
      obtain ⟨r1, h1⟩ := meets_pre (nx x) o
      obtain ⟨r2, h2⟩ := bfs_pre nx f (i + 1) (meets o (nx x))
      exact ⟨r1 ++ r2, by simp only [bfs, h]; rw [h2, h1, List.append_assoc]⟩
theorem bfs_nodup (nx : X → List X) : ∀ (f i : Nat) (o : List X), o.Nodup → (bfs nx f i o).Nodup
  | 0, i, o, h => h
  | f + 1, i, o, h => by
    cases hx : o[i]? with
    | none => simpa [bfs, hx] using h
    | some x => simp only [bfs, hx]; exact bfs_nodup nx f _ _ (meets_nodup h)
/-- The order that one comes to. -/
def IsBfs (nx : X → List X) (r : X) (o : List X) : Prop := ∃ f, bfs nx f 0 [r] = o ∧ o.length ≤ f
theorem IsBfs.head {nx : X → List X} {r : X} {o : List X} (h : IsBfs nx r o) : o[0]? = some r := by
  obtain ⟨f, h1, _⟩ := h
  obtain ⟨q, hq⟩ := bfs_pre nx f 0 [r]
  rw [← h1, hq]; rfl
theorem IsBfs.nodup {nx : X → List X} {r : X} {o : List X} (h : IsBfs nx r o) : o.Nodup := by
  obtain ⟨f, h1, _⟩ := h
  rw [← h1]; exact bfs_nodup nx f 0 _ (by simp)
/-- Whatever is met is met by what was met. -/
theorem bfs_all (nx : X → List X) (P : X → Prop) (hP : ∀ x, P x → ∀ y ∈ nx x, P y) : ∀ (f i : Nat) (o : List X), (∀ x ∈ o, P x) → ∀ x ∈ bfs nx f i o, P x
  | 0, i, o, h => h
  | f + 1, i, o, h => by
    cases hx : o[i]? with
    | none => simpa [bfs, hx] using h
    | some x =>
      simp only [bfs, hx]
      refine bfs_all nx P hP f _ _ ?_
      intro z hz
      rcases meets_mem.1 hz with h1 | h1
      · exact h z h1
      · exact hP x (h x (List.mem_of_getElem? hx)) z h1
theorem IsBfs.all {nx : X → List X} {r : X} {o : List X} (h : IsBfs nx r o) (P : X → Prop) (hr : P r) (hP : ∀ x, P x → ∀ y ∈ nx x, P y) : ∀ x ∈ o, P x := by
  obtain ⟨f, h1, _⟩ := h
  rw [← h1]
  exact bfs_all nx P hP f 0 [r] (by simpa using hr)
/-! A second naming of the same things. -/
theorem meets_map (φ : X → Y) (P : X → Prop) (inj : ∀ x y, P x → P y → φ x = φ y → x = y) (l : List X) : ∀ (o : List X), (∀ x ∈ o, P x) → (∀ x ∈ l, P x) → meets (o.map φ) (l.map φ) = (meets o l).map φ := by
  induction l with
  | nil => intro o _ _; rfl
  | cons y t ih =>
    intro o ho hl
    have hy := hl y (by simp)
    have e : meet (o.map φ) (φ y) = (meet o y).map φ := by
      unfold meet
      by_cases h : y ∈ o
      · rw [if_pos h, if_pos (List.mem_map_of_mem h)]
      · have h' : φ y ∉ o.map φ := by
          intro hc
          obtain ⟨x, hx, he⟩ := List.mem_map.1 hc
          have := inj x y (ho x hx) hy he
          subst this
          exact h hx
        rw [if_neg h, if_neg h']; simp
    show meets (meet (o.map φ) (φ y)) (t.map φ) = _
    rw [e, ih (meet o y) (fun x hx => (meet_mem.1 hx).elim (ho x) (fun h => h ▸ hy)) (fun x hx => hl x (by simp [hx]))]
    rfl
theorem bfs_map (nx : X → List X) (ny : Y → List Y) (φ : X → Y) (P : X → Prop) (inj : ∀ x y, P x → P y → φ x = φ y → x = y) (hP : ∀ x, P x → ∀ y ∈ nx x, P y) (hn : ∀ x, P x → ny (φ x) = (nx x).map φ) :
    ∀ (f i : Nat) (o : List X), (∀ x ∈ o, P x) → bfs ny f i (o.map φ) = (bfs nx f i o).map φ
  | 0, i, o, h => rfl
  | f + 1, i, o, h => by
    cases hx : o[i]? with
    | none => simp [bfs, hx]
    | some x =>
      have hpx := h x (List.mem_of_getElem? hx)
      have e : (o.map φ)[i]? = some (φ x) := by simp [hx]
      simp only [bfs, hx, e]
      rw [hn x hpx, meets_map φ P inj _ o h (hP x hpx)]
      exact bfs_map nx ny φ P inj hP hn f (i + 1) _ (fun z hz => (meets_mem.1 hz).elim (h z) (hP x hpx z))
theorem IsBfs.map {nx : X → List X} {r : X} {o : List X} (h : IsBfs nx r o) (ny : Y → List Y) (φ : X → Y) (P : X → Prop) (hr : P r) (inj : ∀ x y, P x → P y → φ x = φ y → x = y) (hP : ∀ x, P x → ∀ y ∈ nx x, P y) (hn : ∀ x, P x → ny (φ x) = (nx x).map φ) :
    IsBfs ny (φ r) (o.map φ) := by
  obtain ⟨f, h1, h2⟩ := h
  refine ⟨f, ?_, by simpa using h2⟩
  rw [← h1, ← bfs_map nx ny φ P inj hP hn f 0 [r] (by simpa using hr)]
  rfl
end
end Go.Proofs.YtifgcimmlonagaaDoor

namespace Go.Proofs.YtifgcimmlonagaaDoor
open Go
set_option linter.unusedVariables false

/-! Sets of texts, in order; what stands behind a byte. -/
abbrev Tx := List UInt8
def ltT : Tx → Tx → Bool
  | _, [] => false
  | [], _ :: _ => true
  | a :: s, b :: t => decide (a.toNat < b.toNat) || (a == b && ltT s t)
def RiseT (L : List Tx) : Prop := L.Pairwise fun a b => ltT a b = true
theorem ltT_cons (a b : UInt8) (s t : Tx) : ltT (a :: s) (b :: t) = true ↔ a.toNat < b.toNat ∨ (a = b ∧ ltT s t = true) := by
  simp [ltT]
theorem ltT_irr : ∀ s : Tx, ltT s s = false
  | [] => rfl
  | a :: s => by simp [ltT, ltT_irr s]
theorem ltT_trans : ∀ {a b c : Tx}, ltT a b = true → ltT b c = true → ltT a c = true
  | a, b, [], _, h => by cases b <;> simp [ltT] at h
  | [], b, c :: cs, h, _ => rfl
  | a :: aq, [], c :: cs, h, _ => by simp [ltT] at h
  | a :: aq, b :: bs, c :: cs, h1, h2 => by
    rw [ltT_cons] at *
    rcases h1 with h1 | ⟨rfl, h1⟩
    · rcases h2 with h2 | ⟨rfl, _⟩
      · exact Or.inl (by omega)
      · exact Or.inl h1
    · rcases h2 with h2 | ⟨rfl, h2⟩
      · exact Or.inl h2
      · exact Or.inr ⟨rfl, ltT_trans h1 h2⟩
theorem rise_ext : ∀ {A B : List Tx}, RiseT A → RiseT B → (∀ t, t ∈ A ↔ t ∈ B) → A = B
  | [], [], _, _, _ => rfl
  | [], b :: B, _, _, h => by have := (h b).2 (by simp); simp at this
  | a :: A, [], _, _, h => by have := (h a).1 (by simp); simp at this
  | a :: A, b :: B, ha, hb, h => by
    unfold RiseT at ha hb
    rw [List.pairwise_cons] at ha hb
    have e : a = b := by
      have h1 := (h a).1 (by simp)
      have h2 := (h b).2 (by simp)
      rcases List.mem_cons.1 h1 with h1 | h1
      · exact h1
      · rcases List.mem_cons.1 h2 with h2 | h2
        · exact h2.symm
        · have := ltT_trans (hb.1 a h1) (ha.1 b h2)
          rw [ltT_irr] at this
          cases this
    subst e
    congr 1
    refine rise_ext ha.2 hb.2 fun t => ?_
    constructor
    · intro ht
      rcases List.mem_cons.1 ((h t).1 (by simp [ht])) with rfl | h'
      · have := ha.1 t ht; rw [ltT_irr] at this; cases this
      · exact h'
    · intro ht
      rcases List.mem_cons.1 ((h t).2 (by simp [ht])) with rfl | h'
      · have := hb.1 t ht; rw [ltT_irr] at this; cases this
      · exact h'
end Go.Proofs.YtifgcimmlonagaaDoor

namespace Go.Proofs.YtifgcimmlonagaaDoor
open Go
set_option linter.unusedVariables false

/-! Words with their changes, in order. -/
abbrev NW := Nat × Tx
def nw0 : NW := (0, [])
def gtW (a b : NW) : Bool := decide (b.1 < a.1) || (a.1 == b.1 && ltT b.2 a.2)
theorem ltT_asym (s t : Tx) (h : ltT s t = true) : ltT t s = false := by
  cases e : ltT t s with
  | false => rfl
  | true => have := ltT_trans h e; rw [ltT_irr] at this; cases this
theorem ltT_tri : ∀ s t : Tx, ltT s t = false → ltT t s = false → s = t
  | [], [], _, _ => rfl
  | [], b :: t, h, _ => by simp [ltT] at h
  | a :: s, [], _, h => by simp [ltT] at h
  | a :: s, b :: t, h1, h2 => by
    have n1 : ¬ (a.toNat < b.toNat ∨ (a = b ∧ ltT s t = true)) := fun h => by rw [← ltT_cons] at h; rw [h] at h1; cases h1
    have n2 : ¬ (b.toNat < a.toNat ∨ (b = a ∧ ltT t s = true)) := fun h => by rw [← ltT_cons] at h; rw [h] at h2; cases h2
    have e : a = b := UInt8.toNat_inj.1 (by omega)
    subst e
    have e1 : ltT s t = false := by cases e : ltT s t with
      | false => rfl
      | true => exact absurd (Or.inr ⟨rfl, e⟩) n1
    have e2 : ltT t s = false := by cases e : ltT t s with
      | false => rfl
      | true => exact absurd (Or.inr ⟨rfl, e⟩) n2
    rw [ltT_tri s t e1 e2]
theorem ltT_nt (a b c : Tx) (h1 : ltT b a = false) (h2 : ltT c b = false) : ltT c a = false := by
  cases e : ltT c a with
  | false => rfl
  | true =>
    cases e2 : ltT a b with
    | true => have := ltT_trans e e2; rw [h2] at this; cases this
    | false =>
      have := ltT_tri a b e2 h1
      subst this
      rw [h2] at e
      exact e.symm
theorem gtW_iff (a b : NW) : gtW a b = true ↔ b.1 < a.1 ∨ (a.1 = b.1 ∧ ltT b.2 a.2 = true) := by simp [gtW]
theorem gtW_false (a b : NW) : gtW a b = false ↔ a.1 ≤ b.1 ∧ (a.1 = b.1 → ltT b.2 a.2 = false) := by
  constructor
  · intro h
    have n : ¬ (b.1 < a.1 ∨ (a.1 = b.1 ∧ ltT b.2 a.2 = true)) := fun e => by rw [← gtW_iff, h] at e; cases e
    refine ⟨by omega, fun e => ?_⟩
    cases e2 : ltT b.2 a.2 with
    | false => rfl
    | true => exact absurd (Or.inr ⟨e, e2⟩) n
  · rintro ⟨h1, h2⟩
    cases e : gtW a b with
    | false => rfl
    | true =>
      rcases (gtW_iff a b).1 e with h | ⟨h, h'⟩
      · omega
      · rw [h2 h] at h'; exact h'.symm
theorem gtW_ord : Ord gtW where
  asym := fun a b h => by
    rw [gtW_false]
    rcases (gtW_iff a b).1 h with h | ⟨h, h'⟩
    · exact ⟨by omega, fun e => by omega⟩
    · exact ⟨by omega, fun _ => ltT_asym _ _ h'⟩
  nt := fun a b c h1 h2 => by
    rw [gtW_false] at *
    refine ⟨by omega, fun e => ?_⟩
    exact ltT_nt a.2 b.2 c.2 (h1.2 (by omega)) (h2.2 (by omega))
  anti := fun a b h1 h2 => by
    rw [gtW_false] at *
    have e : a.1 = b.1 := by omega
    exact Prod.ext e (ltT_tri _ _ (h2.2 e.symm) (h1.2 e))
/-- What is near of a row of words. -/
def near (e : Tx → Nat) (L : List Tx) : List NW := (L.map fun t => (e t, t)).filter fun p => decide (p.1 < 3)
theorem near_append (e : Tx → Nat) (A B : List Tx) : near e (A ++ B) = near e A ++ near e B := by simp [near]
theorem near_one (e : Tx → Nat) (t : Tx) : near e [t] = if e t < 3 then [(e t, t)] else [] := by
  by_cases h : e t < 3 <;> simp [near, h]
def dth (e : Tx → Nat) (L : List Tx) (d : Nat) : List NW := (near e L).filter fun p => decide (p.1 = d)
def nearR (e : Tx → Nat) (L : List Tx) : List NW := dth e L 0 ++ (dth e L 1 ++ dth e L 2)
theorem near_fst (e : Tx → Nat) (L : List Tx) : ∀ p ∈ near e L, p.1 < 3 ∧ p.2 ∈ L ∧ p.1 = e p.2 := by
  intro p hp
  rw [near, List.mem_filter, List.mem_map] at hp
  obtain ⟨⟨t, ht, rfl⟩, h⟩ := hp
  exact ⟨by simpa using h, ht, rfl⟩
theorem nearR_perm (e : Tx → Nat) (L : List Tx) : (nearR e L).Perm (near e L) := by
  unfold nearR dth
  have hf := near_fst e L
  generalize near e L = F at *
  have h0 := List.filter_append_perm (fun p : NW => decide (p.1 = 0)) F
  refine List.Perm.trans (List.Perm.append_left _ ?_) h0
  have h1 := List.filter_append_perm (fun p : NW => decide (p.1 = 1)) (F.filter fun p => !decide (p.1 = 0))
  refine List.Perm.trans ?_ h1
  rw [List.filter_filter, List.filter_filter]
  refine List.Perm.append ?_ ?_
  · refine List.Perm.of_eq (List.filter_congr ?_)
    intro p hp
    by_cases h : p.1 = 1 <;> simp [h]
  · refine List.Perm.of_eq (List.filter_congr ?_)
    intro p hp
    have := (hf p hp).1
    by_cases h : p.1 = 2
    · simp [h]
    · by_cases h1 : p.1 = 1
      · simp [h1]
      · have : p.1 = 0 := by omega
        simp [this]
theorem near_rise (e : Tx → Nat) (L : List Tx) (h : RiseT L) : (near e L).Pairwise fun a b => ltT a.2 b.2 = true := by
  unfold near
  refine List.Pairwise.filter _ ?_
  rw [List.pairwise_map]
  exact h
theorem dth_srt (e : Tx → Nat) (L : List Tx) (d : Nat) (h : RiseT L) : Srt gtW (dth e L d) := by
  unfold dth
  have h1 : ((near e L).filter fun p => decide (p.1 = d)).Pairwise fun a b => ltT a.2 b.2 = true := List.Pairwise.filter _ (near_rise e L h)
  have h2 : ∀ p ∈ (near e L).filter fun p => decide (p.1 = d), p.1 = d := fun p hp => by simpa using (List.mem_filter.1 hp).2
  refine List.Pairwise.imp_of_mem ?_ h1
  intro a b ha hb hab
  rw [gtW_false, h2 a ha, h2 b hb]
  exact ⟨Nat.le_refl _, fun _ => ltT_asym _ _ hab⟩
theorem dth_fst (e : Tx → Nat) (L : List Tx) (d : Nat) : ∀ p ∈ dth e L d, p.1 = d := fun p hp => by simpa using (List.mem_filter.1 hp).2
theorem nearR_srt (e : Tx → Nat) (L : List Tx) (h : RiseT L) : Srt gtW (nearR e L) := by
  unfold nearR
  have lt_ok : ∀ a b : NW, a.1 < b.1 → gtW a b = false := fun a b hab => (gtW_false a b).2 ⟨by omega, fun e => by omega⟩
  rw [Srt, List.pairwise_append]
  refine ⟨dth_srt e L 0 h, ?_, fun a ha b hb => ?_⟩
  · rw [List.pairwise_append]
    refine ⟨dth_srt e L 1 h, dth_srt e L 2 h, fun a ha b hb => ?_⟩
    exact lt_ok a b (by rw [dth_fst e L 1 a ha, dth_fst e L 2 b hb]; omega)
  · rcases List.mem_append.1 hb with hb | hb
    · exact lt_ok a b (by rw [dth_fst e L 0 a ha, dth_fst e L 1 b hb]; omega)
    · exact lt_ok a b (by rw [dth_fst e L 0 a ha, dth_fst e L 2 b hb]; omega)
/-- The words of one number of changes. -/
def ofD (e : Tx → Nat) (L : List Tx) (d : Nat) : List Tx := L.filter fun t => decide (e t = d)
theorem dth_words (e : Tx → Nat) (L : List Tx) (d : Nat) (hd : d < 3) : (dth e L d).map Prod.snd = ofD e L d := by
  unfold dth near ofD
  rw [List.filter_filter]
  induction L with
  | nil => rfl
  | cons t L ih =>
    simp only [List.map_cons, List.filter_cons]
    by_cases h : e t = d
    · have h3 : e t < 3 := by omega
      simp only [h, decide_true, Bool.true_and, hd]
      simpa using ih
    · simp only [h, decide_false, Bool.false_and]
      simpa using ih
def toldW (e : Tx → Nat) (L : List Tx) (most : Nat) : List Tx := (ofD e L 0 ++ (ofD e L 1 ++ ofD e L 2)).take most
theorem nearR_words (e : Tx → Nat) (L : List Tx) (most : Nat) : ((nearR e L).take most).map Prod.snd = toldW e L most := by
  unfold toldW nearR
  rw [List.map_take, List.map_append, List.map_append, dth_words e L 0 (by omega), dth_words e L 1 (by omega), dth_words e L 2 (by omega)]
end Go.Proofs.YtifgcimmlonagaaDoor
