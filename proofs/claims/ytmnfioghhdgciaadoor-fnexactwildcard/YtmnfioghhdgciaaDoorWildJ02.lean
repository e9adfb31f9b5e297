import Derived.Test.YtmnfioghhdgciaaDoorWildJ01
import Derived.Test.YtmnfioghhdgciaaDoorWildJ00
import Derived.Maps.AppendAt
namespace Go.Proofs.YtmnfioghhdgciaaDoor
open Go
set_option linter.unusedVariables false

/-! Rounds of parting: the spec's way. -/
def sigOf (A : Aut) (S : Nat) (κ : Nat → Nat) (q : Nat) : List Nat := κ q :: (List.range S).map fun a => κ (A.nx q a)
theorem sigOf_eq {A : Aut} {S : Nat} {κ : Nat → Nat} {q r : Nat} : sigOf A S κ q = sigOf A S κ r ↔ κ q = κ r ∧ ∀ a, a < S → κ (A.nx q a) = κ (A.nx r a) := by
  unfold sigOf
  rw [List.cons_eq_cons]
  refine and_congr_right fun _ => ⟨fun h a ha => ?_, fun h => List.map_congr_left fun a ha => h a (List.mem_range.1 ha)⟩
  have := congrArg (fun l => l[a]?) h
  simpa [ha] using this
/-- The signatures of the first i states, each once, in the order in which they are met. -/
def sigsOf (A : Aut) (S : Nat) (κ : Nat → Nat) (i : Nat) : List (List Nat) := meets [] ((List.range i).map (sigOf A S κ))
theorem sigsOf_succ (A : Aut) (S : Nat) (κ : Nat → Nat) (i : Nat) : sigsOf A S κ (i + 1) = meet (sigsOf A S κ i) (sigOf A S κ i) := by
  unfold sigsOf
  rw [List.range_succ, List.map_append, List.map_cons, List.map_nil, meets_snoc]
theorem sigsOf_nodup (A : Aut) (S : Nat) (κ : Nat → Nat) (i : Nat) : (sigsOf A S κ i).Nodup := meets_nodup (by simp)
theorem sigsOf_mem {A : Aut} {S : Nat} {κ : Nat → Nat} {i : Nat} {s : List Nat} : s ∈ sigsOf A S κ i ↔ ∃ q, q < i ∧ sigOf A S κ q = s := by
  unfold sigsOf
  rw [meets_mem]
  simp
theorem sigsOf_le (A : Aut) (S : Nat) (κ : Nat → Nat) : ∀ i, (sigsOf A S κ i).length ≤ i
  | 0 => by simp [sigsOf, meets]
  | i + 1 => by
    rw [sigsOf_succ]
    have := sigsOf_le A S κ i
    unfold meet
    split
    · omega
    · simp; omega
theorem sigsOf_pre (A : Aut) (S : Nat) (κ : Nat → Nat) {i j : Nat} (h : i ≤ j) : ∃ r, sigsOf A S κ j = sigsOf A S κ i ++ r := by
  obtain ⟨d, rfl⟩ : ∃ d, j = i + d := ⟨j - i, by omega⟩
  clear h
  induction d with
  | zero => exact ⟨[], by simp⟩
  | succ d ih =>
    obtain ⟨r, hr⟩ := ih
    obtain ⟨r2, hr2⟩ := meet_pre (sigsOf A S κ (i + d)) (sigOf A S κ (i + d))
    exact ⟨r ++ r2, by rw [show i + (d + 1) = i + d + 1 from rfl, sigsOf_succ, hr2, hr, List.append_assoc]⟩
/-- What a round makes of κ. -/
def roundOf (A : Aut) (S n : Nat) (κ : Nat → Nat) (q : Nat) : Nat := ix (sigsOf A S κ n) (sigOf A S κ q)
theorem roundOf_lt {A : Aut} {S n : Nat} {κ : Nat → Nat} {q : Nat} (hq : q < n) : roundOf A S n κ q < (sigsOf A S κ n).length :=
  ix_lt (sigsOf_mem.2 ⟨q, hq, rfl⟩)
theorem roundOf_at {A : Aut} {S n : Nat} {κ : Nat → Nat} {q : Nat} (hq : q < n) : (sigsOf A S κ n)[roundOf A S n κ q]? = some (sigOf A S κ q) := ix_at (sigsOf_mem.2 ⟨q, hq, rfl⟩)
theorem roundOf_eq {A : Aut} {S n : Nat} {κ : Nat → Nat} {q r : Nat} (hq : q < n) (hr : r < n) : roundOf A S n κ q = roundOf A S n κ r ↔ sigOf A S κ q = sigOf A S κ r := by
  refine ⟨fun h => ?_, fun h => by unfold roundOf; rw [h]⟩
  have h1 := roundOf_at (A := A) (S := S) (κ := κ) hq
  have h2 := roundOf_at (A := A) (S := S) (κ := κ) hr
  rw [h, h2] at h1
  exact (Option.some.inj h1).symm
theorem roundOf_onto {A : Aut} {S n : Nat} {κ : Nat → Nat} {c : Nat} (hc : c < (sigsOf A S κ n).length) : ∃ q, q < n ∧ roundOf A S n κ q = c := by
  have h1 := List.getElem?_eq_getElem hc
  obtain ⟨q, hq, he⟩ := sigsOf_mem.1 (List.getElem_mem hc)
  refine ⟨q, hq, ?_⟩
  unfold roundOf
  rw [he]
  exact ix_of (sigsOf_nodup A S κ n) h1
/-- Classes 0, 1, .. , c - 1, none of them empty. -/
def Onto (n : Nat) (κ : Nat → Nat) (c : Nat) : Prop := (∀ q, q < n → κ q < c) ∧ ∀ y, y < c → ∃ q, q < n ∧ κ q = y
def FinOf (A : Aut) (n : Nat) (κ : Nat → Nat) : Prop := ∀ q r, q < n → r < n → κ q = κ r → A.fin q = A.fin r
theorem round_onto (A : Aut) (S n : Nat) (κ : Nat → Nat) : Onto n (roundOf A S n κ) (sigsOf A S κ n).length := ⟨fun _ hq => roundOf_lt hq, fun _ hy => roundOf_onto hy⟩
theorem round_coarse {A : Aut} {S n : Nat} {κ : Nat → Nat} (hs : Shut A S n) (h : Coarse A S n κ) : Coarse A S n (roundOf A S n κ) := by
  intro q r hq hr e
  exact (roundOf_eq hq hr).2 (sigOf_eq.2 ⟨h q r hq hr e, (h.step hs hq hr e).2⟩)
theorem round_fin {A : Aut} {S n : Nat} {κ : Nat → Nat} (h : FinOf A n κ) : FinOf A n (roundOf A S n κ) := by
  intro q r hq hr e
  exact h q r hq hr (sigOf_eq.1 ((roundOf_eq hq hr).1 e)).1
theorem onto_round {A : Aut} {S n c : Nat} {κ : Nat → Nat} (h : Onto n κ c) : ∃ f : Nat → Nat, (∀ q, q < n → f (roundOf A S n κ q) = κ q) ∧ ∀ y, y < c → ∃ x, x < (sigsOf A S κ n).length ∧ f x = y := by
  refine ⟨fun x => ((sigsOf A S κ n).getD x []).headD 0, fun q hq => ?_, fun y hy => ?_⟩
  · have := roundOf_at (A := A) (S := S) (κ := κ) hq
    simp [List.getD, this, sigOf]
  · obtain ⟨q, hq, rfl⟩ := h.2 y hy
    refine ⟨roundOf A S n κ q, roundOf_lt hq, ?_⟩
    have := roundOf_at (A := A) (S := S) (κ := κ) hq
    simp [List.getD, this, sigOf]
/-- A round that finds no more classes is the last one. -/
theorem round_stable {A : Aut} {S n c : Nat} {κ : Nat → Nat} (hs : Shut A S n) (ho : Onto n κ c) (hf : FinOf A n κ) (he : (sigsOf A S κ n).length = c) : Stable A S n (roundOf A S n κ) := by
  obtain ⟨f, h1, h2⟩ := onto_round (A := A) (S := S) ho
  rw [he] at h2
  have inj := onto_inj f c h2
  intro q r hq hr e
  refine ⟨round_fin hf q r hq hr e, fun a ha => ?_⟩
  have h3 := (sigOf_eq.1 ((roundOf_eq hq hr).1 e)).2 a ha
  have hqa := hs q a hq ha
  have hra := hs r a hr ha
  refine inj _ _ (by have := roundOf_lt (A := A) (S := S) (κ := κ) hqa; omega) (by have := roundOf_lt (A := A) (S := S) (κ := κ) hra; omega) ?_
  rw [h1 _ hqa, h1 _ hra, h3]
theorem round_more {A : Aut} {S n c : Nat} {κ : Nat → Nat} (ho : Onto n κ c) : c ≤ (sigsOf A S κ n).length := by
  obtain ⟨f, h1, h2⟩ := onto_round (A := A) (S := S) ho
  have := card_le (List.range c) List.nodup_range (sigsOf A S κ n).length f (fun x hx => h2 x (List.mem_range.1 hx))
  simpa using this
theorem fin_coarse (A : Aut) (S n : Nat) : Coarse A S n (fun q => if A.fin q = true then 1 else 0) ∧ FinOf A n (fun q => if A.fin q = true then 1 else 0) := by
  constructor
  · intro q r _ _ e
    have : A.fin q = A.fin r := by rw [← lang_fin A S q, ← lang_fin A S r, e]
    simp [this]
  · intro q r _ _ e
    cases h1 : A.fin q <;> cases h2 : A.fin r <;> simp [h1, h2] at e ⊢
/-! Runs: a row told by where it changes. -/
def runsFrom (last : Option Nat) : Nat → List Nat → List (Nat × Nat)
  | _, [] => []
  | k, v :: t => if last = some v then runsFrom last (k + 1) t else (k, v) :: runsFrom (some v) (k + 1) t
def runs (l : List Nat) : List (Nat × Nat) := runsFrom none 0 l
theorem runsFrom_snoc (l : List Nat) (v : Nat) : ∀ (last : Option Nat) (k : Nat), runsFrom last k (l ++ [v]) = runsFrom last k l ++ (if l.getLast?.or last = some v then [] else [(k + l.length, v)]) := by
  induction l with
  | nil => intro last k; by_cases h : last = some v <;> simp [runsFrom, h]
  | cons a t ih =>
    intro last k
    have hl : (a :: t).getLast?.or last = t.getLast?.or (some a) := by
      rw [List.getLast?_cons]
      cases t.getLast? <;> simp
    rw [hl]
    simp only [List.cons_append, runsFrom]
    by_cases h : last = some a
    · rw [if_pos h, if_pos h, ih, h, show k + 1 + t.length = k + (a :: t).length from by simp; omega]
    · rw [if_neg h, if_neg h, ih, List.cons_append, show k + 1 + t.length = k + (a :: t).length from by simp; omega]
theorem runs_snoc (l : List Nat) (v : Nat) : runs (l ++ [v]) = runs l ++ (if l.getLast? = some v then [] else [(l.length, v)]) := by
  unfold runs
  rw [runsFrom_snoc]
  cases l.getLast? <;> simp
theorem runsFrom_lb : ∀ (l : List Nat) (last : Option Nat) (k : Nat) (p : Nat × Nat), p ∈ runsFrom last k l → k ≤ p.1
  | [], _, _, p, h => by simp [runsFrom] at h
  | v :: t, last, k, p, h => by
    unfold runsFrom at h
    split at h
    · have := runsFrom_lb t last (k + 1) p h; omega
    · rcases List.mem_cons.1 h with rfl | h1
      · exact Nat.le_refl _
      · have := runsFrom_lb t (some v) (k + 1) p h1; omega
theorem runsFrom_inj : ∀ (l l' : List Nat) (last : Option Nat) (k : Nat), l.length = l'.length → runsFrom last k l = runsFrom last k l' → l = l'
  | [], [], _, _, _, _ => rfl
  | [], _ :: _, _, _, h, _ => by simp at h
  | _ :: _, [], _, _, h, _ => by simp at h
  | a :: t, b :: u, last, k, hl, h => by
    have hl' : t.length = u.length := by simpa using hl
    unfold runsFrom at h
    by_cases h1 : last = some a
    · by_cases h2 : last = some b
      · rw [if_pos h1, if_pos h2] at h
        have e : a = b := Option.some.inj (h1.symm.trans h2)
        rw [e, runsFrom_inj t u last (k + 1) hl' h]
      · rw [if_pos h1, if_neg h2] at h
        have := runsFrom_lb t last (k + 1) (k, b) (by rw [h]; simp)
        exact absurd this (by simp)
    · by_cases h2 : last = some b
      · rw [if_neg h1, if_pos h2] at h
        have := runsFrom_lb u last (k + 1) (k, a) (by rw [← h]; simp)
        exact absurd this (by simp)
      · rw [if_neg h1, if_neg h2, List.cons_eq_cons] at h
        obtain ⟨h3, h4⟩ := h
        have e : a = b := (Prod.mk.inj h3).2
        subst e
        rw [runsFrom_inj t u (some a) (k + 1) hl' h4]
theorem runs_inj {l l' : List Nat} (hl : l.length = l'.length) (h : runs l = runs l') : l = l' := runsFrom_inj l l' none 0 hl h
/-- Runs of runs: what traitOf tells of a row of stretches. -/
def squeeze (f : Nat → Nat) (last : Option Nat) : List (Nat × Nat) → List (Nat × Nat)
  | [] => []
  | (k, v) :: t => if last = some (f v) then squeeze f last t else (k, f v) :: squeeze f (some (f v)) t
theorem squeeze_runs (f : Nat → Nat) : ∀ (l : List Nat) (last : Option Nat) (k : Nat), squeeze f (last.map f) (runsFrom last k l) = runsFrom (last.map f) k (l.map f)
  | [], _, _ => rfl
  | v :: t, last, k => by
    simp only [runsFrom, List.map_cons]
    by_cases h : last = some v
    · rw [if_pos h, squeeze_runs f t last (k + 1), if_pos (by rw [h]; rfl)]
    · rw [if_neg h, squeeze]
      by_cases h2 : last.map f = some (f v)
      · rw [if_pos h2, if_pos h2, h2]
        exact squeeze_runs f t (some v) (k + 1)
      · rw [if_neg h2, if_neg h2]
        have := squeeze_runs f t (some v) (k + 1)
        rw [Option.map_some] at this
        rw [this]
theorem squeeze_whole (f : Nat → Nat) (l : List Nat) : squeeze f none (runs l) = runs (l.map f) := squeeze_runs f l none 0
/-- What stands at a symbol, by the stretches. -/
theorem runsFrom_val : ∀ (l : List Nat) (last : Option Nat) (k : Nat) (p : Nat × Nat), p ∈ runsFrom last k l → p.2 ∈ l ∧ p.1 < k + l.length
  | [], _, _, p, h => by simp [runsFrom] at h
  | v :: t, last, k, p, h => by
    unfold runsFrom at h
    split at h
    · have := runsFrom_val t last (k + 1) p h
      refine ⟨List.mem_cons_of_mem _ this.1, ?_⟩
      have := this.2
      simp only [List.length_cons]
      omega
    · rcases List.mem_cons.1 h with rfl | h1
      · simp
      · have := runsFrom_val t (some v) (k + 1) p h1
        refine ⟨List.mem_cons_of_mem _ this.1, ?_⟩
        have := this.2
        simp only [List.length_cons]
        omega
/-- From one stretch to the next one the row is the same. -/
theorem runsFrom_at : ∀ (l : List Nat) (last : Option Nat) (k : Nat),
    (∀ p : Nat, (∀ s, (runsFrom last k l)[0]? = some s → p + k < s.1) → p < l.length → last = l[p]?) ∧
    ∀ (i : Nat) (s : Nat × Nat), (runsFrom last k l)[i]? = some s → k ≤ s.1 ∧ ∀ p : Nat, s.1 ≤ p + k → (∀ u, (runsFrom last k l)[i + 1]? = some u → p + k < u.1) → p < l.length → l[p]? = some s.2
  | [], last, k => by
    refine ⟨fun p _ h => by simp at h, fun i s h => by simp [runsFrom] at h⟩
  | v :: t, last, k => by
    by_cases hv : last = some v
    · obtain ⟨i1, i2⟩ := runsFrom_at t last (k + 1)
      have e : runsFrom last k (v :: t) = runsFrom last (k + 1) t := by rw [runsFrom, if_pos hv]
      rw [e]
      refine ⟨fun p hp hl => ?_, fun i s hs => ?_⟩
      · cases p with
        | zero => simpa using hv
        | succ p => exact i1 p (fun s hs => by have := hp s hs; omega) (by simpa using hl)
      · obtain ⟨h1, h2⟩ := i2 i s hs
        refine ⟨by omega, fun p hp hu hl => ?_⟩
        cases p with
        | zero => omega
        | succ p => exact h2 p (by omega) (fun u hu' => by have := hu u hu'; omega) (by simpa using hl)
    · obtain ⟨i1, i2⟩ := runsFrom_at t (some v) (k + 1)
      have e : runsFrom last k (v :: t) = (k, v) :: runsFrom (some v) (k + 1) t := by rw [runsFrom, if_neg hv]
      rw [e]
      refine ⟨fun p hp hl => ?_, fun i s hs => ?_⟩
      · have := hp (k, v) rfl
        dsimp only at this
        omega
      · cases i with
        | zero =>
          have es : s = (k, v) := by simpa using hs.symm
          subst es
          refine ⟨Nat.le_refl _, fun p hp hu hl => ?_⟩
          cases p with
          | zero => rfl
          | succ p => exact (i1 p (fun s hs => by have := hu s hs; omega) (by simpa using hl)).symm
        | succ i =>
          obtain ⟨h1, h2⟩ := i2 i s hs
          refine ⟨by omega, fun p hp hu hl => ?_⟩
          cases p with
          | zero => omega
          | succ p => exact h2 p (by omega) (fun u hu' => by have := hu u hu'; omega) (by simpa using hl)
theorem runs_at {l : List Nat} {i : Nat} {s : Nat × Nat} (h : (runs l)[i]? = some s) {p : Nat} (hp : s.1 ≤ p) (hu : ∀ u, (runs l)[i + 1]? = some u → p < u.1) (hl : p < l.length) : l[p]? = some s.2 :=
  ((runsFrom_at l none 0).2 i s h).2 p (by omega) (fun u hu' => by have := hu u hu'; omega) hl
theorem runs_val {l : List Nat} {s : Nat × Nat} (h : s ∈ runs l) : s.2 ∈ l ∧ s.1 < l.length := by
  have := runsFrom_val l none 0 s h
  simpa using this
theorem runs_head {l : List Nat} (h : l ≠ []) : ∃ v t, runs l = (0, v) :: t := by
  cases l with
  | nil => exact absurd rfl h
  | cons a t => exact ⟨a, runsFrom (some a) 1 t, by simp [runs, runsFrom]⟩
theorem runsFrom_rise : ∀ (l : List Nat) (last : Option Nat) (k : Nat), (runsFrom last k l).Pairwise fun s u => s.1 < u.1
  | [], _, _ => by simp [runsFrom]
  | v :: t, last, k => by
    unfold runsFrom
    split
    · exact runsFrom_rise t last (k + 1)
    · refine List.pairwise_cons.2 ⟨fun u hu => ?_, runsFrom_rise t (some v) (k + 1)⟩
      have := runsFrom_lb t (some v) (k + 1) u hu
      dsimp only
      omega
theorem runs_next {l : List Nat} {i : Nat} {s u : Nat × Nat} (h : (runs l)[i]? = some s) (hu : (runs l)[i + 1]? = some u) : s.1 < u.1 := by
  obtain ⟨h1, h2⟩ := List.getElem?_eq_some_iff.1 h
  obtain ⟨h3, h4⟩ := List.getElem?_eq_some_iff.1 hu
  rw [← h2, ← h4]
  exact List.pairwise_iff_getElem.1 (runsFrom_rise l none 0) i (i + 1) h1 h3 (by omega)
/-- What all stretches have all symbols have. -/
theorem runs_all {l : List Nat} {P : Nat → Prop} (h : ∀ s ∈ runs l, P s.2) : ∀ v ∈ l, P v := by
  have key : ∀ (l : List Nat) (last : Option Nat) (k : Nat), (∀ v, last = some v → P v) → (∀ s ∈ runsFrom last k l, P s.2) → ∀ v ∈ l, P v := by
    intro l
    induction l with
    | nil => intro _ _ _ _ v hv; simp at hv
    | cons a t ih =>
      intro last k hl hs v hv
      unfold runsFrom at hs
      by_cases ha : last = some a
      · rw [if_pos ha] at hs
        rcases List.mem_cons.1 hv with rfl | hv
        · exact hl _ ha
        · exact ih last (k + 1) hl hs v hv
      · rw [if_neg ha] at hs
        have h0 := hs (k, a) (by simp)
        rcases List.mem_cons.1 hv with rfl | hv
        · exact h0
        · exact ih (some a) (k + 1) (fun w hw => by cases hw; exact h0) (fun s hs' => hs s (by simp [hs'])) v hv
  exact key l none 0 (fun v hv => by cases hv) h
theorem runs_ne_nil {l : List Nat} (h : l ≠ []) : runs l ≠ [] := by
  cases l with
  | nil => exact absurd rfl h
  | cons a t => simp [runs, runsFrom]
end Go.Proofs.YtmnfioghhdgciaaDoor

namespace Go.Proofs.YtmnfioghhdgciaaDoor
open Go Go.RowKit
set_option linter.unusedVariables false
set_option maxRecDepth 100000

theorem RowsF.growB {W W' : World} {base : Nat} {R : RowMap} (h : RowsF W base R) {i : Nat} {v v' : Value} {zs ys : List Int} (hi : R i = some (v, zs)) (hg : But (fun b => v.ownBlock = some b) W W') (hv : W'.ownsRow base 3 1 v' ys.length (zI ys)) (hat : ∀ b, v'.ownBlock = some b → v.ownBlock = some b ∨ W.heap.size ≤ b) : RowsF W' base (upd R i (some (v', ys))) :=
  h.grow hi ⟨hg.os, hg.tape, hg.output, hg.size, fun b hb hn => hg.block b hb (fun e => hn e.symm)⟩ hv hat
/-- One more element, of one cell, behind a row of one's own: the box with it has just been made. -/
theorem wp_push {W : World} {ops : Array Oper} {rest : List Oper} {o : Oper} {a : Act} {Q : Exit → Act → World → Prop} (hgd : o.guard = none) (s x : Operand) (t e : TypeId)
    (ho : o.op = .call { callee := .builtin .append, args := #[s, x], argTypes := #[t, t] }) (i : TypeInfo) (z : Value) (bytes : Nat) (ht : Tryd.prog.underlying t = some (.slice e)) (hi : Tryd.prog.info? e = some i) (hz : i.zero = some z) (hsize : i.size = 1) (hby : i.bytes = bytes) (hzs : z.cells.size = 1)
    (base : Nat) (v : Value) (n : Nat) (xs : List Value) (hs : a.eval s = v) (hown : W.ownsRow base e 1 v n xs) (y : Value) (hy : y.oneCell' = true) (hx : a.eval x = .slice (some ⟨W.heap.size, 0, none⟩) 1 1) (hb : (n + 1) * bytes ≤ 140737488355328) (hby0 : 0 < bytes) (hbase : base ≤ W.heap.size)
    (h : ∀ v' w', w'.ownsRow base e 1 v' (n + 1) (xs ++ [y]) → But (fun b => v.ownBlock = some b) W w' → (∀ b, v'.ownBlock = some b → v.ownBlock = some b ∨ W.heap.size ≤ b) → v' ≠ .slice none 0 0 → wpList Tryd.prog ops Q rest (a.put o.dst v') w') :
    wpList Tryd.prog ops Q (o :: rest) a (W.alloc (.cells #[y] e)) := by
  have hn : n + 1 ≤ 140737488355328 := Nat.le_trans (Nat.le_mul_of_pos_right (n + 1) hby0) hb
  refine wpList_append_own_at _ hgd s x t ho base e i z 1 bytes ht hi hz hsize hby hzs (by decide) v n xs hs (hown.alloc _) ⟨W.heap.size, 0, none⟩ 1 1 [y] hx rfl ?_ ?_ (by unfold maxLen; omega) hb (by simp; omega) ?_
  · intro j u hj
    match j, hj with
    | 0, hj =>
      simp at hj
      subst hj
      have := heap_alloc_new W (.cells #[y] e)
      rw [add_head]
      exact blkc this 0
    | j + 1, hj => simp at hj
  · intro u hu
    rw [List.mem_singleton.1 hu]; exact hy
  · intro v' w' h1 h2 h3 h4
    refine h v' w' h1 ?_ ?_ ?_
    · refine ⟨h2.os, h2.tape, h2.output, by have := h2.size; simp at this; omega, fun b hb hn => ?_⟩
      rw [h2.block b (by simp; omega) (fun e => hn e.symm), Below.heap_alloc _ _ _ hb]
    · intro b hb
      rcases h4 with h5 | h5
      · exact Or.inl (h5 ▸ hb)
      · rw [h5] at hb
        cases hb
        exact Or.inr (by simp)
    · intro e
      have := (h3.1 e).2
      cases this
/-! What an automaton is by rows of its own. -/
def HoldB (w : World) (v : Value) (bs : List Bool) : Prop :=
  ∃ ad cap, v = .slice ad bs.length cap ∧ (bs = [] ∨ ∃ g off, ad = some ⟨g, off, none⟩ ∧ g < w.heap.size ∧ ∀ t, t < bs.length → w.cell? ⟨g, off + t, none⟩ = some (.bool (bs.getD t false)))
theorem HoldB.below {w w' : World} {v : Value} {bs : List Bool} (h : HoldB w v bs) (hb : Below w.heap.size w w') : HoldB w' v bs := by
  obtain ⟨ad, cap, rfl, h | ⟨g, off, rfl, hg, hc⟩⟩ := h
  · exact ⟨ad, cap, rfl, Or.inl h⟩
  · exact ⟨_, cap, rfl, Or.inr ⟨g, off, rfl, Nat.lt_of_lt_of_le hg hb.size, fun t ht => (hb.cell (p := ⟨g, off + t, none⟩) hg).trans (hc t ht)⟩⟩
def HoldN (w : World) (v : Value) (rs : List (List Nat)) : Prop :=
  ∃ ad cap, v = .slice ad rs.length cap ∧ (rs = [] ∨ ∃ g off, ad = some ⟨g, off, none⟩ ∧ g < w.heap.size ∧ ∀ t, t < rs.length → ∃ u, w.cell? ⟨g, off + t, none⟩ = some u ∧ HoldI w u (nat2 (rs.getD t [])))
theorem HoldN.below {w w' : World} {v : Value} {rs : List (List Nat)} (h : HoldN w v rs) (hb : Below w.heap.size w w') : HoldN w' v rs := by
  obtain ⟨ad, cap, rfl, h | ⟨g, off, rfl, hg, hc⟩⟩ := h
  · exact ⟨ad, cap, rfl, Or.inl h⟩
  · refine ⟨_, cap, rfl, Or.inr ⟨g, off, rfl, Nat.lt_of_lt_of_le hg hb.size, fun t ht => ?_⟩⟩
    obtain ⟨u, h1, h2⟩ := hc t ht
    exact ⟨u, (hb.cell (p := ⟨g, off + t, none⟩) hg).trans h1, h2.below hb⟩
structure RawOK (w : World) (vf vn : Value) (fins : List Bool) (nxt : List (List Nat)) (S : Nat) : Prop where
  fin : HoldB w vf fins
  nx : HoldN w vn nxt
  len : nxt.length = fins.length
  pos : 0 < fins.length
  few : fins.length ≤ 4294967296
  wide : 0 < S ∧ S ≤ 1048577
  rows : ∀ q, q < fins.length → (nxt.getD q []).length = S ∧ ∀ a, a < S → (nxt.getD q []).getD a 0 < fins.length
def autR (fins : List Bool) (nxt : List (List Nat)) : Aut := ⟨fun q => fins.getD q false, fun q a => (nxt.getD q []).getD a 0⟩
theorem RawOK.shut {w : World} {vf vn : Value} {fins : List Bool} {nxt : List (List Nat)} {S : Nat} (h : RawOK w vf vn fins nxt S) : Shut (autR fins nxt) S fins.length := fun q a hq ha => (h.rows q hq).2 a ha
theorem RawOK.below {w w' : World} {vf vn : Value} {fins : List Bool} {nxt : List (List Nat)} {S : Nat} (h : RawOK w vf vn fins nxt S) (hb : Below w.heap.size w w') : RawOK w' vf vn fins nxt S := ⟨h.fin.below hb, h.nx.below hb, h.len, h.pos, h.few, h.wide, h.rows⟩
/-! Buckets of signatures. -/
def mixH (h c : Nat) : Nat := (h * 31 + c) % 1000003
def hashOf (s : List Nat) : Nat := (s.tail.foldl mixH (s.headD 0)) % 1024
def bkt (L : List (List Nat)) (h : Nat) : List Nat := (List.range L.length).filter fun j => decide (hashOf (L.getD j []) = h)
theorem bkt_mem {L : List (List Nat)} {h j : Nat} : j ∈ bkt L h ↔ j < L.length ∧ hashOf (L.getD j []) = h := by simp [bkt]
theorem bkt_snoc (L : List (List Nat)) (s : List Nat) (h : Nat) : bkt (L ++ [s]) h = if hashOf s = h then bkt L h ++ [L.length] else bkt L h := by
  have e : ∀ j ∈ List.range L.length, decide (hashOf ((L ++ [s]).getD j []) = h) = decide (hashOf (L.getD j []) = h) := by
    intro j hj
    have hj' := List.mem_range.1 hj
    rw [List.getD_eq_getElem?_getD, List.getD_eq_getElem?_getD, List.getElem?_append_left hj']
  unfold bkt
  rw [List.length_append, List.length_singleton, List.range_succ, List.filter_append, List.filter_congr e]
  by_cases hh : hashOf s = h
  · simp [hh]
  · simp [hh]
theorem bkt_len (L : List (List Nat)) (h : Nat) : (bkt L h).length ≤ L.length := by
  have := List.length_filter_le (fun j => decide (hashOf (L.getD j []) = h)) (List.range L.length)
  simpa [bkt] using this
end Go.Proofs.YtmnfioghhdgciaaDoor

namespace Go.Proofs.YtmnfioghhdgciaaDoor
open Go
set_option linter.unusedVariables false

/-! Automata whose states have names of their own, told in the order in which they are met. -/
structure Kaut (X : Type) where
  step : X → Nat → X
  fin : X → Bool
section
variable {X Y : Type}
def Kaut.acc (K : Kaut X) : X → List Nat → Bool
  | x, [] => K.fin x
  | x, a :: w => K.acc (K.step x a) w
def Kaut.lang (K : Kaut X) (S : Nat) (x : X) : Lang := fun w => w.all (fun a => decide (a < S)) && K.acc x w
def Kaut.nexts (K : Kaut X) (S : Nat) (x : X) : List X := (List.range S).map (K.step x)
theorem Kaut.lang_run {K : Kaut X} {m : Nat} : ∀ (w : List Nat) (x : X), (∀ a ∈ w, a ≤ m) → K.lang (m + 1) (w.foldl K.step x) = w.foldl toL (K.lang (m + 1) x)
  | [], _, _ => rfl
  | a :: w, x, h => by
    have ha : a < m + 1 := by have := h a (by simp); omega
    rw [List.foldl_cons, List.foldl_cons, Kaut.lang_run w _ (fun b hb => h b (by simp [hb]))]
    congr 1
    funext v
    simp [toL, Kaut.lang, Kaut.acc, ha]
end
section
variable {X : Type} [DecidableEq X]
/-- The numbers of the states in their order. -/
def Kaut.aut (K : Kaut X) (Z : List X) (x0 : X) : Aut := ⟨fun q => K.fin (Z.getD q x0), fun q a => ix Z (K.step (Z.getD q x0) a)⟩
theorem Kaut.next_mem {K : Kaut X} {S : Nat} {x0 : X} {Z : List X} (h : IsBfs (K.nexts S) x0 Z) {q a : Nat} (hq : q < Z.length) (ha : a < S) : K.step (Z.getD q x0) a ∈ Z := by
  have h1 : Z.getD q x0 ∈ Z := by rw [List.getD_eq_getElem?_getD, List.getElem?_eq_getElem hq, Option.getD_some]; exact List.getElem_mem hq
  exact h.closed _ h1 _ (List.mem_map.2 ⟨a, List.mem_range.2 ha, rfl⟩)
theorem Kaut.shut {K : Kaut X} {S : Nat} {x0 : X} {Z : List X} (h : IsBfs (K.nexts S) x0 Z) : Shut (K.aut Z x0) S Z.length := fun q a hq ha => ix_lt (K.next_mem h hq ha)
theorem Kaut.nx_at {K : Kaut X} {S : Nat} {x0 : X} {Z : List X} (h : IsBfs (K.nexts S) x0 Z) {q a : Nat} (hq : q < Z.length) (ha : a < S) : Z.getD ((K.aut Z x0).nx q a) x0 = K.step (Z.getD q x0) a := by
  have := ix_at (K.next_mem h hq ha)
  show Z.getD (ix Z _) x0 = _
  rw [List.getD_eq_getElem?_getD, this]
  rfl
theorem Kaut.acc_at {K : Kaut X} {S : Nat} {x0 : X} {Z : List X} (h : IsBfs (K.nexts S) x0 Z) : ∀ (w : List Nat) (q : Nat), q < Z.length → (∀ a ∈ w, a < S) → (K.aut Z x0).acc q w = K.acc (Z.getD q x0) w
  | [], q, _, _ => rfl
  | a :: w, q, hq, hw => by
    have ha := hw a (by simp)
    show (K.aut Z x0).acc ((K.aut Z x0).nx q a) w = K.acc (K.step (Z.getD q x0) a) w
    rw [Kaut.acc_at h w _ (K.shut h q a hq ha) (fun b hb => hw b (by simp [hb])), K.nx_at h hq ha]
theorem Kaut.lang_at {K : Kaut X} {S : Nat} {x0 : X} {Z : List X} (h : IsBfs (K.nexts S) x0 Z) {q : Nat} (hq : q < Z.length) : (K.aut Z x0).lang S q = K.lang S (Z.getD q x0) := by
  funext w
  unfold Aut.lang Kaut.lang
  by_cases hw : ∀ a ∈ w, a < S
  · rw [K.acc_at h w q hq hw]
  · have : w.all (fun a => decide (a < S)) = false := by
      rw [Bool.eq_false_iff]
      intro hc
      exact hw fun a ha => by simpa using List.all_eq_true.1 hc a ha
    rw [this]; rfl
theorem Kaut.lang_zero {K : Kaut X} {S : Nat} {x0 : X} {Z : List X} (h : IsBfs (K.nexts S) x0 Z) : (K.aut Z x0).lang S 0 = K.lang S x0 := by
  obtain ⟨h1, h2⟩ := List.getElem?_eq_some_iff.1 h.head
  rw [K.lang_at h h1, List.getD_eq_getElem?_getD, h.head]
  rfl
theorem Kaut.reached {K : Kaut X} {m : Nat} {x0 : X} {Z : List X} (h : IsBfs (K.nexts (m + 1)) x0 Z) : ∀ x ∈ Z, ∃ w : List Nat, (∀ a ∈ w, a ≤ m) ∧ x = w.foldl K.step x0 := by
  refine h.all (fun x => ∃ w : List Nat, (∀ a ∈ w, a ≤ m) ∧ x = w.foldl K.step x0) ⟨[], by simp, rfl⟩ ?_
  rintro x ⟨w, hw, rfl⟩ y hy
  obtain ⟨a, ha, rfl⟩ := List.mem_map.1 hy
  refine ⟨w ++ [a], fun b hb => ?_, by rw [List.foldl_append]; rfl⟩
  rcases List.mem_append.1 hb with h1 | h1
  · exact hw b h1
  · rw [List.mem_singleton.1 h1]; have := List.mem_range.1 ha; omega
/-- More classes than may be: the least one has too many states. -/
theorem Kaut.many {K : Kaut X} {m : Nat} {ls : List Int} {x0 : X} {Z : List X} {D : List PSt} (h : IsBfs (K.nexts (m + 1)) x0 Z) (hD : sysL.Least m ls (K.lang (m + 1) x0) D) {κ : Nat → Nat} (hc : Coarse (K.aut Z x0) (m + 1) Z.length κ) {c : Nat} (ho : ∀ y, y < c → ∃ q, q < Z.length ∧ κ q = y) : c ≤ D.length + 1 := by
  have hx : ∃ f : Nat → Nat, ∀ y, y < c → f y < Z.length ∧ κ (f y) = y := by
    refine ⟨fun y => open Classical in if hh : ∃ q, q < Z.length ∧ κ q = y then Classical.choose hh else 0, fun y hy => ?_⟩
    have hh := ho y hy
    simp only [dif_pos hh]
    exact Classical.choose_spec hh
  obtain ⟨f, hf⟩ := hx
  have h1 := least_many hD ((List.range c).map fun y => (K.aut Z x0).lang (m + 1) (f y)) (by
    rw [List.Nodup, List.pairwise_map]
    refine List.Pairwise.imp_of_mem ?_ (List.nodup_range (n := c))
    intro a b ha hb hab e
    have ha' := hf a (List.mem_range.1 ha)
    have hb' := hf b (List.mem_range.1 hb)
    exact hab (by rw [← ha'.2, ← hb'.2]; exact hc _ _ ha'.1 hb'.1 e)) (by
    intro L hL
    obtain ⟨y, hy, rfl⟩ := List.mem_map.1 hL
    have hy' := (hf y (List.mem_range.1 hy)).1
    have hm : Z.getD (f y) x0 ∈ Z := by rw [List.getD_eq_getElem?_getD, List.getElem?_eq_getElem hy', Option.getD_some]; exact List.getElem_mem hy'
    obtain ⟨w, hw, he⟩ := K.reached h _ hm
    refine ⟨w, hw, ?_⟩
    rw [K.lang_at h hy', he, K.lang_run w x0 hw])
  simpa using h1
end

/-! Rising rows of the same numbers are the same. -/
def RiseZ (l : List Int) : Prop := l.Pairwise (· < ·)
theorem rise_uniq : ∀ (l l' : List Int), RiseZ l → RiseZ l' → (∀ x, x ∈ l ↔ x ∈ l') → l = l'
  | [], [], _, _, _ => rfl
  | [], b :: u, _, _, h => absurd ((h b).2 (by simp)) (by simp)
  | a :: t, [], _, _, h => absurd ((h a).1 (by simp)) (by simp)
  | a :: t, b :: u, h1, h2, h => by
    obtain ⟨h3, h4⟩ := List.pairwise_cons.1 h1
    obtain ⟨h5, h6⟩ := List.pairwise_cons.1 h2
    have e : a = b := by
      rcases List.mem_cons.1 ((h a).1 (by simp)) with e | e
      · exact e
      · rcases List.mem_cons.1 ((h b).2 (by simp)) with e' | e'
        · exact e'.symm
        · have := h3 b e'; have := h5 a e; omega
    subst e
    rw [rise_uniq t u h4 h6 fun x => ?_]
    constructor
    · intro hx
      have := h3 x hx
      rcases List.mem_cons.1 ((h x).1 (by simp [hx])) with e | e
      · omega
      · exact e
    · intro hx
      have := h5 x hx
      rcases List.mem_cons.1 ((h x).2 (by simp [hx])) with e | e
      · omega
      · exact e
end Go.Proofs.YtmnfioghhdgciaaDoor
