import Derived.Test.YtoinajfliogcdaaDoorFuzzyJ00
import Derived.Below
namespace Go.Proofs.YtoinajfliogcdaaDoor
open Go Go.RowKit
set_option linter.unusedVariables false

/-! Many rows of ints, each by a name, no two in one place. -/
abbrev RowMap := Nat → Option (Value × List Int)
def upd (R : RowMap) (i : Nat) (x : Option (Value × List Int)) : RowMap := fun a => if a = i then x else R a
theorem upd_same (R : RowMap) (i : Nat) (x : Option (Value × List Int)) : upd R i x i = x := by simp [upd]
theorem upd_other (R : RowMap) {i a : Nat} (x : Option (Value × List Int)) (h : a ≠ i) : upd R i x a = R a := by simp [upd, h]
structure RowsF (W : World) (base : Nat) (R : RowMap) : Prop where
  own : ∀ a v zs, R a = some (v, zs) → W.ownsRow base 3 1 v zs.length (zI zs)
  apart : ∀ a b v zs u ys, a ≠ b → R a = some (v, zs) → R b = some (u, ys) → v.ownBlock = none ∨ v.ownBlock ≠ u.ownBlock
theorem RowsF.empty (W : World) (base : Nat) : RowsF W base (fun _ => none) := ⟨fun a v zs h => by simp at h, fun a b v zs u ys _ h => by simp at h⟩
theorem RowsF.below {W W' : World} {base : Nat} {R : RowMap} (h : RowsF W base R) (hb : Below W.heap.size W W') : RowsF W' base R := ⟨fun a v zs ha => own_below (h.own a v zs ha) hb, h.apart⟩
theorem RowsF.drop {W : World} {base : Nat} {R : RowMap} (h : RowsF W base R) (P : Nat → Bool) : RowsF W base (fun a => if P a = true then R a else Option.none) := by
  refine ⟨fun a v zs ha => ?_, fun a b v zs u ys hab ha hb => ?_⟩
  · split at ha
    · exact h.own a v zs ha
    · cases ha
  · split at ha
    · split at hb
      · exact h.apart a b v zs u ys hab ha hb
      · cases hb
    · cases ha
theorem RowsF.lt {W : World} {base : Nat} {R : RowMap} (h : RowsF W base R) {a : Nat} {v : Value} {zs : List Int} (ha : R a = some (v, zs)) {b : Nat} (hb : v.ownBlock = some b) : base ≤ b ∧ b < W.heap.size := by
  obtain ⟨h1, cur, h2⟩ := own_blk (h.own a v zs ha) hb
  exact ⟨h1, (Array.getElem?_eq_some_iff.1 h2).1⟩
theorem RowsF.new {W W' : World} {base : Nat} {R : RowMap} (h : RowsF W base R) (hb : Below W.heap.size W W') (hbase : base ≤ W.heap.size) {i : Nat} {v : Value} {zs : List Int} (hv : W'.ownsRow W.heap.size 3 1 v zs.length (zI zs)) : RowsF W' base (upd R i (some (v, zs))) := by
  have h' := h.below hb
  refine ⟨fun a u ys ha => ?_, fun a b u ys x xs hab ha hb' => ?_⟩
  · by_cases e : a = i
    · subst e
      rw [upd_same] at ha
      cases ha
      exact own_mono hv hbase
    · rw [upd_other _ _ e] at ha
      exact h'.own a u ys ha
  · by_cases ea : a = i
    · subst ea
      rw [upd_same] at ha
      cases ha
      rw [upd_other _ _ (Ne.symm hab)] at hb'
      cases hx : x.ownBlock with
      | none =>
        cases hu : v.ownBlock with
        | none => exact Or.inl rfl
        | some k => exact Or.inr (by simp)
      | some k =>
        cases hu : v.ownBlock with
        | none => exact Or.inl rfl
        | some l =>
          have h1 := h.lt hb' hx
          have h2 := own_block hv l hu
          exact Or.inr (by simp; omega)
    · rw [upd_other _ _ ea] at ha
      by_cases eb : b = i
      · subst eb
        rw [upd_same] at hb'
        cases hb'
        cases hu : u.ownBlock with
        | none => exact Or.inl rfl
        | some l =>
          refine Or.inr ?_
          intro e
          have h1 := h.lt ha hu
          have h2 := own_block hv l e.symm
          omega
      · rw [upd_other _ _ eb] at hb'
        exact h.apart a b u ys x xs hab ha hb'
/-- A row that may have been there already (a row of its own, at another name no more). -/
theorem RowsF.rename {W : World} {base : Nat} {R : RowMap} (h : RowsF W base R) {i j : Nat} {x : Value × List Int} (hi : R i = some x) (hij : i ≠ j) : RowsF W base (upd (upd R j (some x)) i Option.none) := by
  refine ⟨fun a u ys ha => ?_, fun a b u ys x' xs hab ha hb => ?_⟩
  · by_cases e : a = i
    · subst e; rw [upd_same] at ha; cases ha
    · rw [upd_other _ _ e] at ha
      by_cases e2 : a = j
      · subst e2; rw [upd_same] at ha; exact h.own i u ys (hi.trans ha)
      · rw [upd_other _ _ e2] at ha; exact h.own a u ys ha
  · have key : ∀ a u ys, upd (upd R j (some x)) i Option.none a = some (u, ys) → ∃ a', R a' = some (u, ys) ∧ a' ≠ j ∨ (a = j ∧ R i = some (u, ys)) := by
      intro a u ys ha
      by_cases e : a = i
      · subst e; rw [upd_same] at ha; cases ha
      · rw [upd_other _ _ e] at ha
        by_cases e2 : a = j
        · subst e2; rw [upd_same] at ha; exact ⟨0, Or.inr ⟨rfl, hi.trans ha⟩⟩
        · rw [upd_other _ _ e2] at ha; exact ⟨a, Or.inl ⟨ha, e2⟩⟩
    by_cases ea : a = i
    · subst ea; rw [upd_same] at ha; cases ha
    by_cases eb : b = i
    · subst eb; rw [upd_same] at hb; cases hb
    rw [upd_other _ _ ea] at ha
    rw [upd_other _ _ eb] at hb
    by_cases ea2 : a = j
    · subst ea2
      rw [upd_same] at ha
      rw [upd_other _ _ (Ne.symm hab)] at hb
      exact h.apart i b u ys x' xs (Ne.symm eb) (hi.trans ha) hb
    · rw [upd_other _ _ ea2] at ha
      by_cases eb2 : b = j
      · subst eb2
        rw [upd_same] at hb
        exact h.apart a i u ys x' xs ea ha (hi.trans hb)
      · rw [upd_other _ _ eb2] at hb
        exact h.apart a b u ys x' xs hab ha hb
theorem RowsF.grow {W W' : World} {base : Nat} {R : RowMap} (h : RowsF W base R) {i : Nat} {v v' : Value} {zs ys : List Int} (hi : R i = some (v, zs)) (hg : W.grownBy W' v.ownBlock) (hv : W'.ownsRow base 3 1 v' ys.length (zI ys)) (hat : ∀ b, v'.ownBlock = some b → v.ownBlock = some b ∨ W.heap.size ≤ b) : RowsF W' base (upd R i (some (v', ys))) := by
  have keep : ∀ a u xs, a ≠ i → R a = some (u, xs) → W'.ownsRow base 3 1 u xs.length (zI xs) := by
    intro a u xs ha hr
    refine (h.own a u xs hr).kept hg ?_
    rcases h.apart a i u xs v zs ha hr hi with h1 | h1
    · exact Or.inl h1
    · exact Or.inr h1
  have far : ∀ a u xs, a ≠ i → R a = some (u, xs) → u.ownBlock = none ∨ u.ownBlock ≠ v'.ownBlock := by
    intro a u xs ha hr
    cases hu : u.ownBlock with
    | none => exact Or.inl rfl
    | some l =>
      refine Or.inr ?_
      intro e
      rcases hat l e.symm with h1 | h1
      · rcases h.apart a i u xs v zs ha hr hi with h2 | h2
        · rw [hu] at h2; cases h2
        · exact h2 (hu.trans h1.symm)
      · have := h.lt hr hu
        omega
  refine ⟨fun a u xs ha => ?_, fun a b u xs x' ws hab ha hb => ?_⟩
  · by_cases e : a = i
    · subst e; rw [upd_same] at ha; cases ha; exact hv
    · rw [upd_other _ _ e] at ha; exact keep a u xs e ha
  · by_cases ea : a = i
    · subst ea
      rw [upd_same] at ha
      cases ha
      rw [upd_other _ _ (Ne.symm hab)] at hb
      rcases far b x' ws (Ne.symm hab) hb with h1 | h1
      · cases hu : v'.ownBlock with
        | none => exact Or.inl rfl
        | some l => exact Or.inr (by rw [h1]; simp)
      · exact Or.inr (Ne.symm h1)
    · rw [upd_other _ _ ea] at ha
      by_cases eb : b = i
      · subst eb
        rw [upd_same] at hb
        cases hb
        exact far a u xs ea ha
      · rw [upd_other _ _ eb] at hb
        exact h.apart a b u xs x' ws hab ha hb
theorem own_setI {W : World} {base g n cap : Nat} {zs : List Int} (h : W.ownsRow base 3 1 (.slice (some ⟨g, 0, none⟩) n cap) n (zI zs)) {k : Nat} (hk : k < n) (x : Int) : (W.setCell ⟨g, k, none⟩ (.int .i64 x)).ownsRow base 3 1 (.slice (some ⟨g, 0, none⟩) n cap) n (zI (zs.set k x)) := by
  have hl : (zI zs).length = n * 1 := h.1
  refine ⟨by simp [zI] at hl ⊢; exact hl, ?_⟩
  rcases h.2 with ⟨h', _⟩ | ⟨g', c', cur, h1, h2, h3, h4, h5, h6, h7⟩
  · simp at h'
  · simp only [Value.slice.injEq, Option.some.injEq, Addr.mk.injEq, and_true, true_and] at h1
    obtain ⟨rfl, rfl⟩ := h1
    refine Or.inr ⟨g, cap, cur.setIfInBounds k (.int .i64 x), rfl, h2, blk_setk h3 k _, h4, h5, by simpa using h6, ?_⟩
    rw [Array.toList_setIfInBounds, List.take_set, h7]
    simp [zI, List.map_set]
theorem RowsF.set {W : World} {base : Nat} {R : RowMap} (h : RowsF W base R) {i g cap : Nat} {zs : List Int} (hi : R i = some (.slice (some ⟨g, 0, none⟩) zs.length cap, zs)) {k : Nat} (hk : k < zs.length) (x : Int) : RowsF (W.setCell ⟨g, k, none⟩ (.int .i64 x)) base (upd R i (some (.slice (some ⟨g, 0, none⟩) zs.length cap, zs.set k x))) := by
  have hown := h.own i _ _ hi
  refine ⟨fun a u xs ha => ?_, fun a b u xs x' ws hab ha hb => ?_⟩
  · by_cases e : a = i
    · subst e
      rw [upd_same] at ha
      cases ha
      rw [List.length_set]
      exact own_setI hown hk x
    · rw [upd_other _ _ e] at ha
      refine own_congr (h.own a u xs ha) (fun b hb => heap_set_other W g k _ b ?_)
      rintro rfl
      rcases h.apart a i u xs _ zs e ha hi with h1 | h1
      · rw [hb] at h1; cases h1
      · exact h1 hb
  · by_cases ea : a = i
    · subst ea
      rw [upd_same] at ha
      cases ha
      rw [upd_other _ _ (Ne.symm hab)] at hb
      exact h.apart a b _ _ x' ws hab hi hb
    · rw [upd_other _ _ ea] at ha
      by_cases eb : b = i
      · subst eb
        rw [upd_same] at hb
        cases hb
        exact h.apart a b u xs _ _ hab ha hi
      · rw [upd_other _ _ eb] at hb
        exact h.apart a b u xs x' ws hab ha hb
/-- What is written elsewhere does not touch them. -/
theorem RowsF.but {W W' : World} {base : Nat} {R : RowMap} {X : Nat → Prop} (h : RowsF W base R) (hb : But X W W') (hx : ∀ b, X b → ∀ cur, W.heap[b]? ≠ some (.cells cur 3)) : RowsF W' base R := by
  refine ⟨fun a v zs ha => own_congr (h.own a v zs ha) (fun b hbk => ?_), h.apart⟩
  obtain ⟨h1, cur, h2⟩ := own_blk (h.own a v zs ha) hbk
  exact hb.block b (Array.getElem?_eq_some_iff.1 h2).1 (fun hX => hx b hX cur h2)
theorem RowsF.hold {W : World} {base : Nat} {R : RowMap} (h : RowsF W base R) {a : Nat} {v : Value} {zs : List Int} (ha : R a = some (v, zs)) : HoldI W v zs := HoldI.own (h.own a v zs ha)
theorem But.grown {X : Nat → Prop} {a b c : World} (h : But X a b) {row : Option Nat} (hg : b.grownBy c row) (hx : ∀ k, row = some k → X k ∨ a.heap.size ≤ k) : But X a c :=
  ⟨hg.os.trans h.os, hg.tape.trans h.tape, hg.output.trans h.output, Nat.le_trans h.size hg.size, fun i hi hn => (hg.block i (Nat.lt_of_lt_of_le hi h.size) (fun e => by
    rcases hx i e.symm with h1 | h1
    · exact hn h1
    · omega)).trans (h.block i hi hn)⟩
end Go.Proofs.YtoinajfliogcdaaDoor

namespace Go.Proofs.YtoinajfliogcdaaDoor
open Go
set_option linter.unusedVariables false

/-! The order in which things are met, from one on. -/
section
variable {X Y : Type} [DecidableEq X] [DecidableEq Y]
def meet (o : List X) (y : X) : List X := if y ∈ o then o else o ++ [y]
def meets (o : List X) (l : List X) : List X := l.foldl meet o
def bfs (nx : X → List X) : Nat → Nat → List X → List X
  | 0, _, o => o
  | f + 1, i, o => match o[i]? with
    | none => o
    | some x => bfs nx f (i + 1) (meets o (nx x))
theorem meet_mem {o : List X} {y z : X} : z ∈ meet o y ↔ z ∈ o ∨ z = y := by
  unfold meet
  split
  · rename_i h; constructor
    · exact Or.inl
    · rintro (h1 | rfl)
      · exact h1
      · exact h
  · simp
theorem meet_nodup {o : List X} {y : X} (h : o.Nodup) : (meet o y).Nodup := by
  unfold meet
  split
  · exact h
  · rename_i hn
    rw [List.nodup_append]
    refine ⟨h, by simp, ?_⟩
    intro a ha b hb
    have e : b = y := by simpa using hb
    subst e
    intro e2
    subst e2
    exact hn ha
theorem meet_pre (o : List X) (y : X) : ∃ r, meet o y = o ++ r := by
  unfold meet
  split
  · exact ⟨[], by simp⟩
  · exact ⟨[y], rfl⟩
theorem meets_mem {l : List X} : ∀ {o : List X} {z : X}, z ∈ meets o l ↔ z ∈ o ∨ z ∈ l := by
  induction l with
  | nil => intro o z; simp [meets]
  | cons y t ih =>
    intro o z
    show z ∈ meets (meet o y) t ↔ _
    rw [ih, meet_mem, List.mem_cons, or_assoc]
theorem meets_nodup {l : List X} : ∀ {o : List X}, o.Nodup → (meets o l).Nodup := by
  induction l with
  | nil => intro o h; exact h
  | cons y t ih => intro o h; exact ih (meet_nodup h)
theorem meets_pre (l : List X) : ∀ (o : List X), ∃ r, meets o l = o ++ r := by
  induction l with
  | nil => intro o; exact ⟨[], by simp [meets]⟩
  | cons y t ih =>
    intro o
    obtain ⟨r1, h1⟩ := meet_pre o y
    obtain ⟨r2, h2⟩ := ih (meet o y)
    exact ⟨r1 ++ r2, by show meets (meet o y) t = _; rw [h2, h1, List.append_assoc]⟩
theorem meets_snoc (o l : List X) (y : X) : meets o (l ++ [y]) = meet (meets o l) y := by simp [meets]
theorem bfs_pre (nx : X → List X) : ∀ (f i : Nat) (o : List X), ∃ r, bfs nx f i o = o ++ r
  | 0, i, o => ⟨[], by simp [bfs]⟩
  | f + 1, i, o => by
    cases h : o[i]? with
    | none => exact ⟨[], by simp [bfs, h]⟩
    | some x =>
      obtain ⟨r1, h1⟩ := meets_pre (nx x) o
      obtain ⟨r2, h2⟩ := bfs_pre nx f (i + 1) (meets o (nx x))
      exact ⟨r1 ++ r2, by simp only [bfs, h]; rw [h2, h1, List.append_assoc]⟩
theorem bfs_nodup (nx : X → List X) : ∀ (f i : Nat) (o : List X), o.Nodup → (bfs nx f i o).Nodup
  | 0, i, o, h => h
  | f + 1, i, o, h => by
    cases hx : o[i]? with
    | none => simpa [bfs, hx] using h
    | some x => simp only [bfs, hx]; exact bfs_nodup nx f _ _ (meets_nodup h)
/-- Where the way ended, more of it changes nothing. -/
theorem bfs_more (nx : X → List X) : ∀ (f i : Nat) (o : List X), (bfs nx f i o).length ≤ i + f → ∀ k, bfs nx (f + k) i o = bfs nx f i o
  | 0, i, o, h, k => by
    have h' : o.length ≤ i := by simpa [bfs] using h
    cases k with
    | zero => rfl
    | succ k => simp [bfs, List.getElem?_eq_none h']
  | f + 1, i, o, h, k => by
    rw [show f + 1 + k = (f + k) + 1 from by omega]
    cases hx : o[i]? with
    | none => simp [bfs, hx]
    | some x =>
      simp only [bfs, hx] at h ⊢
      exact bfs_more nx f (i + 1) _ (by omega) k
theorem bfs_snoc (nx : X → List X) : ∀ (f i : Nat) (o : List X), bfs nx (f + 1) i o = match (bfs nx f i o)[i + f]? with
    | none => bfs nx f i o
    | some x => meets (bfs nx f i o) (nx x)
  | 0, i, o => by simp only [bfs, Nat.add_zero]
  | f + 1, i, o => by
    cases hx : o[i]? with
    | none =>
      have e1 : bfs nx (f + 1 + 1) i o = o := by rw [bfs, hx]
      have e2 : bfs nx (f + 1) i o = o := by rw [bfs, hx]
      have h3 : o[i + (f + 1)]? = none := by
        have : o.length ≤ i := List.getElem?_eq_none_iff.1 hx
        exact List.getElem?_eq_none (by omega)
      rw [e1, e2, h3]
    | some x =>
      have e1 : bfs nx (f + 1 + 1) i o = bfs nx (f + 1) (i + 1) (meets o (nx x)) := by rw [bfs, hx]
      have e2 : bfs nx (f + 1) i o = bfs nx f (i + 1) (meets o (nx x)) := by rw [bfs, hx]
      rw [e1, e2, bfs_snoc nx f (i + 1), show i + 1 + f = i + (f + 1) from by omega]
theorem bfs_step {nx : X → List X} {r x : X} {o : List X} {i : Nat} (h : bfs nx i 0 [r] = o) (hx : o[i]? = some x) : bfs nx (i + 1) 0 [r] = meets o (nx x) := by
  rw [bfs_snoc, h, Nat.zero_add, hx]
/-- The order that one comes to. -/
def IsBfs (nx : X → List X) (r : X) (o : List X) : Prop := ∃ f, bfs nx f 0 [r] = o ∧ o.length ≤ f
theorem IsBfs.uniq {nx : X → List X} {r : X} {o o' : List X} (h : IsBfs nx r o) (h' : IsBfs nx r o') : o = o' := by
  obtain ⟨f, h1, h2⟩ := h
  obtain ⟨g, h3, h4⟩ := h'
  have e1 := bfs_more nx f 0 [r] (by rw [h1]; omega) g
  have e2 := bfs_more nx g 0 [r] (by rw [h3]; omega) f
  rw [← h1, ← h3, ← e1, ← e2, Nat.add_comm]
theorem IsBfs.head {nx : X → List X} {r : X} {o : List X} (h : IsBfs nx r o) : o[0]? = some r := by
  obtain ⟨f, h1, _⟩ := h
  obtain ⟨q, hq⟩ := bfs_pre nx f 0 [r]
  rw [← h1, hq]; rfl
theorem IsBfs.nodup {nx : X → List X} {r : X} {o : List X} (h : IsBfs nx r o) : o.Nodup := by
  obtain ⟨f, h1, _⟩ := h
  rw [← h1]; exact bfs_nodup nx f 0 _ (by simp)
/-- Whatever is met is met by what was met. -/
theorem bfs_all (nx : X → List X) (P : X → Prop) (hP : ∀ x, P x → ∀ y ∈ nx x, P y) : ∀ (f i : Nat) (o : List X), (∀ x ∈ o, P x) → ∀ x ∈ bfs nx f i o, P x
  | 0, i, o, h => h
  | f + 1, i, o, h => by
    cases hx : o[i]? with
    | none => simpa [bfs, hx] using h
    | some x =>
      simp only [bfs, hx]
      refine bfs_all nx P hP f _ _ ?_
      intro z hz
      rcases meets_mem.1 hz with h1 | h1
      · exact h z h1
      · exact hP x (h x (List.mem_of_getElem? hx)) z h1
theorem IsBfs.all {nx : X → List X} {r : X} {o : List X} (h : IsBfs nx r o) (P : X → Prop) (hr : P r) (hP : ∀ x, P x → ∀ y ∈ nx x, P y) : ∀ x ∈ o, P x := by
  obtain ⟨f, h1, _⟩ := h
  rw [← h1]
  exact bfs_all nx P hP f 0 [r] (by simpa using hr)
/-- Nothing is left to be met. -/
theorem bfs_closed (nx : X → List X) : ∀ (f i : Nat) (o : List X), (bfs nx f i o).length ≤ i + f → (∀ j x, j < i → o[j]? = some x → ∀ y ∈ nx x, y ∈ o) → ∀ x ∈ bfs nx f i o, ∀ y ∈ nx x, y ∈ bfs nx f i o
  | 0, i, o, h, hc => by
    intro x hx y hy
    have h' : o.length ≤ i := by simpa [bfs] using h
    obtain ⟨j, hj⟩ := List.mem_iff_getElem?.1 (show x ∈ o from hx)
    have hjl : j < o.length := (List.getElem?_eq_some_iff.1 hj).1
    exact hc j x (by omega) hj y hy
  | f + 1, i, o, h, hc => by
    cases hx : o[i]? with
    | none =>
      simp only [bfs, hx]
      intro x hxm y hy
      obtain ⟨j, hj⟩ := List.mem_iff_getElem?.1 hxm
      have hjl : j < o.length := (List.getElem?_eq_some_iff.1 hj).1
      have : o.length ≤ i := List.getElem?_eq_none_iff.1 hx
      exact hc j x (by omega) hj y hy
    | some x =>
      simp only [bfs, hx] at h ⊢
      refine bfs_closed nx f (i + 1) _ (by omega) ?_
      intro j z hj hz y hy
      obtain ⟨r, hr⟩ := meets_pre (nx x) o
      have hil : i < o.length := (List.getElem?_eq_some_iff.1 hx).1
      have hz' : o[j]? = some z := by rw [hr, List.getElem?_append_left (by omega)] at hz; exact hz
      by_cases hji : j = i
      · subst hji
        rw [hx] at hz'
        cases hz'
        exact meets_mem.2 (Or.inr hy)
      · exact meets_mem.2 (Or.inl (hc j z (by omega) hz' y hy))
theorem IsBfs.closed {nx : X → List X} {r : X} {o : List X} (h : IsBfs nx r o) : ∀ x ∈ o, ∀ y ∈ nx x, y ∈ o := by
  obtain ⟨f, h1, h2⟩ := h
  have := bfs_closed nx f 0 [r] (by rw [h1]; omega) (fun j x hj => absurd hj (by omega))
  rw [h1] at this
  exact this
/-! A second naming of the same things. -/
theorem meets_map (φ : X → Y) (P : X → Prop) (inj : ∀ x y, P x → P y → φ x = φ y → x = y) (l : List X) : ∀ (o : List X), (∀ x ∈ o, P x) → (∀ x ∈ l, P x) → meets (o.map φ) (l.map φ) = (meets o l).map φ := by
  induction l with
  | nil => intro o _ _; rfl
  | cons y t ih =>
    intro o ho hl
    have hy := hl y (by simp)
    have e : meet (o.map φ) (φ y) = (meet o y).map φ := by
      unfold meet
      by_cases h : y ∈ o
      · rw [if_pos h, if_pos (List.mem_map_of_mem h)]
      · have h' : φ y ∉ o.map φ := by
          intro hc
          obtain ⟨x, hx, he⟩ := List.mem_map.1 hc
          have := inj x y (ho x hx) hy he
          subst this
          exact h hx
        rw [if_neg h, if_neg h']; simp
    show meets (meet (o.map φ) (φ y)) (t.map φ) = _
    rw [e, ih (meet o y) (fun x hx => (meet_mem.1 hx).elim (ho x) (fun h => h ▸ hy)) (fun x hx => hl x (by simp [hx]))]
    rfl
theorem bfs_map (nx : X → List X) (ny : Y → List Y) (φ : X → Y) (P : X → Prop) (inj : ∀ x y, P x → P y → φ x = φ y → x = y) (hP : ∀ x, P x → ∀ y ∈ nx x, P y) (hn : ∀ x, P x → ny (φ x) = (nx x).map φ) :
    ∀ (f i : Nat) (o : List X), (∀ x ∈ o, P x) → bfs ny f i (o.map φ) = (bfs nx f i o).map φ
  | 0, i, o, h => rfl
  | f + 1, i, o, h => by
    cases hx : o[i]? with
    | none => simp [bfs, hx]
    | some x =>
      have hpx := h x (List.mem_of_getElem? hx)
      have e : (o.map φ)[i]? = some (φ x) := by simp [hx]
      simp only [bfs, hx, e]
      rw [hn x hpx, meets_map φ P inj _ o h (hP x hpx)]
      exact bfs_map nx ny φ P inj hP hn f (i + 1) _ (fun z hz => (meets_mem.1 hz).elim (h z) (hP x hpx z))
theorem IsBfs.map {nx : X → List X} {r : X} {o : List X} (h : IsBfs nx r o) (ny : Y → List Y) (φ : X → Y) (P : X → Prop) (hr : P r) (inj : ∀ x y, P x → P y → φ x = φ y → x = y) (hP : ∀ x, P x → ∀ y ∈ nx x, P y) (hn : ∀ x, P x → ny (φ x) = (nx x).map φ) :
    IsBfs ny (φ r) (o.map φ) := by
  obtain ⟨f, h1, h2⟩ := h
  refine ⟨f, ?_, by simpa using h2⟩
  rw [← h1, ← bfs_map nx ny φ P inj hP hn f 0 [r] (by simpa using hr)]
  rfl
end
end Go.Proofs.YtoinajfliogcdaaDoor
