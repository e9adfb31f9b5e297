import Derived.Test.YtmnfioghhdgciaaDoorWildJ03
import Derived.Test.YtmnfioghhdgciaaDoorWildJ09
import Derived.Test.YtmnfioghhdgciaaDoorWildJ11
import Derived.Test.YtmnfioghhdgciaaDoorWildJ08
import Derived.Laws.StructEq
import Derived.ChangeKeysEq
import Derived.OrdersHeld
import Derived.Test.YtmnfioghhdgciaaDoorWildJ00
import Derived.WalkMore
import Derived.Deep.RegionWith
namespace Go.Proofs.YtmnfioghhdgciaaDoor
open Go Go.RowKit
set_option linter.unusedVariables false
set_option maxRecDepth 100000

/-! Automata of sets of places, met in order: for both sides. -/
def letS (ls : List Int) (a : Nat) : Int := if a < ls.length then ls.getD a 0 else -9
def letN (ls : List Int) (a : Nat) : Int := if a < ls.length then ls.getD a 0 else -1
theorem Aut.lang_congr {A B : Aut} {S n : Nat} (hs : Shut A S n) (hf : ∀ q, q < n → A.fin q = B.fin q) (hx : ∀ q a, q < n → a < S → A.nx q a = B.nx q a) {q : Nat} (hq : q < n) : A.lang S q = B.lang S q := by
  have h : ∀ (w : List Nat) (q : Nat), q < n → (∀ a ∈ w, a < S) → A.acc q w = B.acc q w := by
    intro w
    induction w with
    | nil => intro q hq _; exact hf q hq
    | cons a w ih =>
      intro q hq hw
      have ha := hw a (by simp)
      show A.acc (A.nx q a) w = B.acc (B.nx q a) w
      rw [← hx q a hq ha]
      exact ih _ (hs q a hq ha) (fun b hb => hw b (by simp [hb]))
  funext w
  unfold Aut.lang
  by_cases hw : ∀ a ∈ w, a < S
  · rw [h w q hq hw]
  · have : w.all (fun a => decide (a < S)) = false := by
      rw [Bool.eq_false_iff]
      intro hc
      exact hw fun a ha => by simpa using List.all_eq_true.1 hc a ha
    rw [this]; rfl
/-- The numbers of the targets of a row, as far as they are told. -/
def toN (K : Kaut Nat) (Z : List Nat) (x : Nat) (j : Nat) : List Nat := (List.range j).map fun a => ix Z (K.step x a)
def metN (K : Kaut Nat) (Z : List Nat) (x : Nat) (j : Nat) : List Nat := meets Z ((List.range j).map (K.step x))
theorem metN_succ (K : Kaut Nat) (Z : List Nat) (x : Nat) (j : Nat) : metN K Z x (j + 1) = meet (metN K Z x j) (K.step x j) := by
  unfold metN
  rw [List.range_succ, List.map_append, List.map_singleton, meets_snoc]
theorem metN_pre (K : Kaut Nat) (Z : List Nat) (x : Nat) (j : Nat) : ∃ r, metN K Z x j = Z ++ r := meets_pre _ _
theorem metN_mem {K : Kaut Nat} {Z : List Nat} {x : Nat} {j a : Nat} (h : a < j) : K.step x a ∈ metN K Z x j := meets_mem.2 (Or.inr (List.mem_map.2 ⟨a, List.mem_range.2 h, rfl⟩))
theorem toN_succ (K : Kaut Nat) (Z : List Nat) (x : Nat) (j : Nat) : toN K (metN K Z x (j + 1)) x (j + 1) = toN K (metN K Z x j) x j ++ [ix (metN K Z x (j + 1)) (K.step x j)] := by
  unfold toN
  rw [List.range_succ, List.map_append, List.map_singleton]
  congr 1
  refine List.map_congr_left fun a ha => ?_
  obtain ⟨r, hr⟩ := meet_pre (metN K Z x j) (K.step x j)
  rw [metN_succ, hr]
  exact ix_pre (metN_mem (List.mem_range.1 ha))
theorem toN_len (K : Kaut Nat) (Z : List Nat) (x : Nat) (j : Nat) : (toN K Z x j).length = j := by simp [toN]
/-- What the rows told come to. -/
structure FgN (K : Kaut Nat) (S : Nat) (x0 : Nat) (i : Nat) (Z : List Nat) (nxt : List (List Nat)) (fins : List Bool) : Prop where
  bf : bfs (K.nexts S) i 0 [x0] = Z
  le : i ≤ Z.length
  nlen : nxt.length = i
  flen : fins.length = i
  nx : ∀ q, q < i → nxt.getD q [] = toN K Z (Z.getD q x0) S
  mem : ∀ q, q < i → ∀ a, a < S → K.step (Z.getD q x0) a ∈ Z
  fin : ∀ q, q < i → fins.getD q false = K.fin (Z.getD q x0)
theorem FgN.zero (K : Kaut Nat) (S : Nat) (x0 : Nat) : FgN K S x0 0 [x0] [] [] :=
  ⟨rfl, by simp, rfl, rfl, fun q h => absurd h (by omega), fun q h => absurd h (by omega), fun q h => absurd h (by omega)⟩
theorem FgN.nodup {K : Kaut Nat} {S : Nat} {x0 : Nat} {i : Nat} {Z : List Nat} {nxt : List (List Nat)} {fins : List Bool} (h : FgN K S x0 i Z nxt fins) : Z.Nodup := by
  rw [← h.bf]; exact bfs_nodup _ _ _ _ (by simp)
theorem FgN.step {K : Kaut Nat} {S : Nat} {x0 : Nat} {i : Nat} {Z : List Nat} {nxt : List (List Nat)} {fins : List Bool} (h : FgN K S x0 i Z nxt fins) (hi : i < Z.length) :
    FgN K S x0 (i + 1) (metN K Z (Z.getD i x0) S) (nxt ++ [toN K (metN K Z (Z.getD i x0) S) (Z.getD i x0) S]) (fins ++ [K.fin (Z.getD i x0)]) := by
  have hx : Z[i]? = some (Z.getD i x0) := by rw [List.getD_eq_getElem?_getD, List.getElem?_eq_getElem hi]; rfl
  obtain ⟨r, hr⟩ := metN_pre K Z (Z.getD i x0) S
  have hat : ∀ q, q ≤ i → (metN K Z (Z.getD i x0) S).getD q x0 = Z.getD q x0 := by
    intro q hq
    rw [hr, List.getD_eq_getElem?_getD, List.getElem?_append_left (by omega), ← List.getD_eq_getElem?_getD]
  refine ⟨bfs_step h.bf hx, by rw [hr, List.length_append]; omega, by simp [h.nlen], by simp [h.flen], fun q hq => ?_, fun q hq a ha => ?_, fun q hq => ?_⟩
  · rw [hat q (by omega)]
    by_cases e : q = i
    · rw [e, List.getD_eq_getElem?_getD, ← h.nlen]; simp
    · rw [List.getD_eq_getElem?_getD, List.getElem?_append_left (by rw [h.nlen]; omega), ← List.getD_eq_getElem?_getD, h.nx q (by omega)]
      unfold toN
      refine List.map_congr_left fun a ha => ?_
      rw [hr]
      exact (ix_pre (h.mem q (by omega) a (List.mem_range.1 ha))).symm
  · rw [hat q (by omega)]
    by_cases e : q = i
    · rw [e]; exact metN_mem ha
    · rw [hr]; exact List.mem_append_left _ (h.mem q (by omega) a ha)
  · rw [hat q (by omega)]
    by_cases e : q = i
    · rw [e, List.getD_eq_getElem?_getD, ← h.flen]; simp
    · rw [List.getD_eq_getElem?_getD, List.getElem?_append_left (by rw [h.flen]; omega), ← List.getD_eq_getElem?_getD, h.fin q (by omega)]
theorem FgN.done {K : Kaut Nat} {S : Nat} {x0 : Nat} {Z : List Nat} {nxt : List (List Nat)} {fins : List Bool} (h : FgN K S x0 Z.length Z nxt fins) (hp : 0 < Z.length) :
    IsBfs (K.nexts S) x0 Z ∧ (autR fins nxt).lang S 0 = K.lang S x0 ∧ (∀ q, q < fins.length → (nxt.getD q []).length = S ∧ ∀ a, a < S → (nxt.getD q []).getD a 0 < fins.length) := by
  have hb : IsBfs (K.nexts S) x0 Z := ⟨_, h.bf, Nat.le_refl _⟩
  have hto : ∀ q a, q < Z.length → a < S → (nxt.getD q []).getD a 0 = ix Z (K.step (Z.getD q x0) a) := by
    intro q a hq ha
    rw [h.nx q hq]
    simp [toN, ha]
  refine ⟨hb, ?_, fun q hq => ?_⟩
  · rw [← K.lang_zero hb]
    refine (Aut.lang_congr (n := Z.length) (K.shut hb) (fun q hq => ?_) (fun q a hq ha => ?_) hp).symm
    · exact (h.fin q hq).symm
    · exact (hto q a hq ha).symm
  · rw [h.flen] at hq ⊢
    refine ⟨by rw [h.nx q hq, toN_len], fun a ha => ?_⟩
    rw [hto q a hq ha]
    exact ix_lt (h.mem q hq a ha)
/-! Rows as runs. -/
theorem runs_lastN : ∀ (n : Nat) (l : List Nat), l.length = n → l ≠ [] → ∃ s, (runs l).getLast? = some s ∧ l.getLast? = some s.2
  | 0, l, hl, h => absurd (List.length_eq_zero_iff.1 hl) h
  | n + 1, l, hl, h => by
    obtain ⟨l', v, rfl⟩ : ∃ l' v, l = l' ++ [v] := ⟨l.dropLast, l.getLast h, (List.dropLast_concat_getLast h).symm⟩
    rw [runs_snoc]
    by_cases e : l'.getLast? = some v
    · have hl' : l' ≠ [] := by rintro rfl; simp at e
      obtain ⟨s, h1, h2⟩ := runs_lastN n l' (by simpa using hl) hl'
      rw [if_pos e, List.append_nil]
      refine ⟨s, h1, ?_⟩
      rw [e] at h2
      rw [List.getLast?_append]
      simpa using h2
    · rw [if_neg e]
      exact ⟨(l'.length, v), by simp, by simp⟩
theorem runs_last {l : List Nat} (h : l ≠ []) : ∃ s, (runs l).getLast? = some s ∧ l.getLast? = some s.2 := runs_lastN _ l rfl h
def rowN (K : Kaut Nat) (Z : List Nat) (x : Nat) (j : Nat) : List (Nat × Nat) := runs (toN K (metN K Z x j) x j)
theorem toN_last (K : Kaut Nat) (Z : List Nat) (x : Nat) (j : Nat) : (toN K Z x (j + 1)).getLast? = some (ix Z (K.step x j)) := by
  unfold toN
  rw [List.range_succ, List.map_append, List.map_singleton]
  simp
theorem rowN_last (K : Kaut Nat) (Z : List Nat) (x : Nat) (j : Nat) : ∃ s, (rowN K Z x (j + 1)).getLast? = some s ∧ (metN K Z x (j + 1))[s.2]? = some (K.step x j) := by
  have hl : toN K (metN K Z x (j + 1)) x (j + 1) ≠ [] := by
    intro e
    have := toN_len K (metN K Z x (j + 1)) x (j + 1)
    rw [e] at this
    simp at this
  obtain ⟨s, h1, h2⟩ := runs_last hl
  rw [toN_last] at h2
  refine ⟨s, h1, ?_⟩
  rw [← Option.some.inj h2]
  exact ix_at (metN_mem (by omega))
theorem rowN_same {K : Kaut Nat} {Z : List Nat} {x : Nat} {j : Nat} (h : K.step x (j + 1) = K.step x j) : metN K Z x (j + 2) = metN K Z x (j + 1) ∧ rowN K Z x (j + 2) = rowN K Z x (j + 1) := by
  have hm : metN K Z x (j + 2) = metN K Z x (j + 1) := by
    rw [metN_succ]
    have : K.step x (j + 1) ∈ metN K Z x (j + 1) := by rw [h]; exact metN_mem (by omega)
    unfold meet
    rw [if_pos this]
  refine ⟨hm, ?_⟩
  unfold rowN
  rw [toN_succ, runs_snoc, if_pos, List.append_nil]
  rw [toN_last, hm, h]
theorem rowN_new {K : Kaut Nat} {Z : List Nat} {x : Nat} {j : Nat} (hn : Z.Nodup) (h : ∀ i, j = i + 1 → K.step x (i + 1) ≠ K.step x i) : rowN K Z x (j + 1) = rowN K Z x j ++ [(j, ix (metN K Z x (j + 1)) (K.step x j))] := by
  unfold rowN
  rw [toN_succ, runs_snoc, toN_len, if_neg]
  intro e
  cases j with
  | zero => simp [toN] at e
  | succ i =>
    rw [toN_last] at e
    have e2 := Option.some.inj e
    have hnd : (metN K Z x (i + 2)).Nodup := meets_nodup hn
    obtain ⟨r, hr⟩ := meet_pre (metN K Z x (i + 1)) (K.step x (i + 1))
    have h1 : ix (metN K Z x (i + 2)) (K.step x i) = ix (metN K Z x (i + 1)) (K.step x i) := by
      rw [metN_succ, hr]; exact ix_pre (metN_mem (by omega))
    have h2 := ix_at (metN_mem (K := K) (Z := Z) (x := x) (j := i + 2) (a := i) (by omega))
    have h3 := ix_at (metN_mem (K := K) (Z := Z) (x := x) (j := i + 2) (a := i + 1) (by omega))
    rw [h1, e2, h3] at h2
    exact h i rfl (Option.some.inj h2)
end Go.Proofs.YtmnfioghhdgciaaDoor

namespace Go.Proofs.YtmnfioghhdgciaaDoor
open Go Go.RowKit
set_option linter.unusedVariables false
set_option linter.unusedSimpArgs false
set_option maxRecDepth 100000

/-! Rows of stretches in memory. -/
def strCells (l : List (Nat × Nat)) : List Value := l.flatMap fun s => [.int .i64 (s.1 : Int), .int .i64 (s.2 : Int)]
theorem strCells_snoc (l : List (Nat × Nat)) (s : Nat × Nat) : strCells (l ++ [s]) = strCells l ++ [.int .i64 (s.1 : Int), .int .i64 (s.2 : Int)] := by simp [strCells]
abbrev SRow := Value × List (Nat × Nat)
structure RowsS (W : World) (base : Nat) (v : Value) (l : List SRow) : Prop where
  row : W.ownsRow base 104 1 v l.length (l.map (·.1))
  each : ∀ s ∈ l, W.ownsRow base 106 2 s.1 s.2.length (strCells s.2)
  apart : l.Pairwise fun s t => ApartV s.1 t.1
theorem RowsS.nil (W : World) (base : Nat) : RowsS W base nilS [] := ⟨World.ownsRow_nil _ _ _ _, fun s hs => by simp at hs, List.Pairwise.nil⟩
theorem RowsS.congr {W W' : World} {base : Nat} {v : Value} {l : List SRow} (h : RowsS W base v l) (hb : ∀ (b : Nat) (cs : Array Value) (t : TypeId), (t = 104 ∨ t = 106) → (v.ownBlock = some b ∨ ∃ s ∈ l, s.1.ownBlock = some b) → W.heap[b]? = some (.cells cs t) → W'.heap[b]? = some (.cells cs t)) : RowsS W' base v l := by
  refine ⟨own_congr h.row (fun b hk => ?_), fun s hs => own_congr (h.each s hs) (fun b hk => ?_), h.apart⟩
  · obtain ⟨_, cur, h2⟩ := own_blk h.row hk
    rw [hb b cur _ (Or.inl rfl) (Or.inl hk) h2, h2]
  · obtain ⟨_, cur, h2⟩ := own_blk (h.each s hs) hk
    rw [hb b cur _ (Or.inr rfl) (Or.inr ⟨s, hs, hk⟩) h2, h2]
structure CurS (W : World) (base : Nat) (v : Value) (l : List SRow) (vr : Value) (rs : List (Nat × Nat)) : Prop where
  rows : RowsS W base v l
  cur : W.ownsRow base 106 2 vr rs.length (strCells rs)
  apart : ∀ s ∈ l, ApartV s.1 vr
theorem RowsS.start {W : World} {base : Nat} {v : Value} {l : List SRow} (h : RowsS W base v l) : CurS W base v l nilS [] := by
  refine ⟨h, World.ownsRow_nil _ _ _ _, fun s _ => ?_⟩
  unfold ApartV
  cases s.1.ownBlock with
  | none => exact Or.inl rfl
  | some k => exact Or.inr (by simp [Value.ownBlock])
theorem CurS.congr {W W' : World} {base : Nat} {v vr : Value} {l : List SRow} {rs : List (Nat × Nat)} (h : CurS W base v l vr rs) (hb : ∀ (b : Nat) (cs : Array Value) (t : TypeId), (t = 104 ∨ t = 106) → W.heap[b]? = some (.cells cs t) → W'.heap[b]? = some (.cells cs t)) : CurS W' base v l vr rs := by
  refine ⟨h.rows.congr fun b cs t ht _ hh => hb b cs t ht hh, own_congr h.cur (fun b hk => ?_), h.apart⟩
  obtain ⟨_, cur, h2⟩ := own_blk h.cur hk
  rw [hb b cur _ (Or.inr rfl) h2, h2]
theorem CurS.push {W W1 : World} {base : Nat} {v vr vr' : Value} {l : List SRow} {rs : List (Nat × Nat)} {p : Nat × Nat} (h : CurS W base v l vr rs) (hb : But (fun b => vr.ownBlock = some b) W W1) (ho : W1.ownsRow base 106 2 vr' (rs.length + 1) (strCells rs ++ [.int .i64 (p.1 : Int), .int .i64 (p.2 : Int)])) (hat : ∀ b, vr'.ownBlock = some b → vr.ownBlock = some b ∨ W.heap.size ≤ b) : CurS W1 base v l vr' (rs ++ [p]) := by
  refine ⟨h.rows.congr fun b cs t ht hk hh => ?_, by rw [List.length_append, List.length_singleton, strCells_snoc]; exact ho, fun s hs => ?_⟩
  · rw [hb.block b (Array.getElem?_eq_some_iff.1 hh).1 (fun e' => by
      rcases hk with hk | ⟨s, hs, hk⟩
      · obtain ⟨_, c1, h1⟩ := own_blk h.rows.row hk
        obtain ⟨_, c2, h2⟩ := own_blk h.cur e'
        exact blk_ne h1 h2 (by decide) rfl
      · rcases h.apart s hs with h2 | h2
        · rw [hk] at h2; cases h2
        · exact h2 (hk.trans e'.symm))]
    exact hh
  · unfold ApartV
    cases hu : s.1.ownBlock with
    | none => exact Or.inl rfl
    | some k =>
      refine Or.inr ?_
      intro e'
      rcases hat k e'.symm with h1 | h1
      · rcases h.apart s hs with h2 | h2
        · rw [hu] at h2; cases h2
        · exact h2 (hu.trans h1.symm)
      · have := (Array.getElem?_eq_some_iff.1 (own_blk (h.rows.each s hs) hu).2.choose_spec).1
        omega
theorem CurS.done {W W1 : World} {base : Nat} {v v' vr : Value} {l : List SRow} {rs : List (Nat × Nat)} (h : CurS W base v l vr rs) (hb : But (fun b => v.ownBlock = some b) W W1) (ho : W1.ownsRow base 104 1 v' (l.length + 1) (l.map (·.1) ++ [vr])) : RowsS W1 base v' (l ++ [(vr, rs)]) := by
  have key : ∀ (u : Value) (n : Nat) (xs : List Value), W.ownsRow base 106 2 u n xs → W1.ownsRow base 106 2 u n xs := by
    intro u n xs hu
    refine own_congr hu (fun b hk => hb.block b (Array.getElem?_eq_some_iff.1 (own_blk hu hk).2.choose_spec).1 (fun e' => ?_))
    obtain ⟨_, c1, h1⟩ := own_blk hu hk
    obtain ⟨_, c2, h2⟩ := own_blk h.rows.row e'
    exact blk_ne h1 h2 (by decide) rfl
  refine ⟨?_, fun s hs => ?_, ?_⟩
  · rw [List.length_append, List.length_singleton, List.map_append]; exact ho
  · rcases List.mem_append.1 hs with h1 | h1
    · exact key _ _ _ (h.rows.each s h1)
    · rw [List.mem_singleton.1 h1]; exact key _ _ _ h.cur
  · rw [List.pairwise_append]
    refine ⟨h.rows.apart, by simp, fun s hs t ht => ?_⟩
    rw [List.mem_singleton.1 ht]; exact h.apart s hs
theorem own_cellk {W : World} {base e size n g cap : Nat} {xs : List Value} (h : W.ownsRow base e size (.slice (some ⟨g, 0, none⟩) n cap) n xs) {p : Nat} {u : Value} (hp : xs[p]? = some u) : W.cell? ⟨g, p, none⟩ = some u := by
  rcases h.2 with ⟨h', _⟩ | ⟨g', c', cur, h1, h2, h3, h4, h5, h6, h7⟩
  · simp at h'
  · simp only [Value.slice.injEq, Option.some.injEq, Addr.mk.injEq, and_true, true_and] at h1
    obtain ⟨rfl, rfl⟩ := h1
    rw [blkc h3 p]
    rw [← h7, List.getElem?_take] at hp
    split at hp
    · rw [← hp]; simp
    · cases hp
theorem own_frozenk {W : World} {base e size n g cap : Nat} {xs : List Value} (h : W.ownsRow base e size (.slice (some ⟨g, 0, none⟩) n cap) n xs) (k : Nat) : W.frozen? ⟨g, k, none⟩ = false := by
  rcases h.2 with ⟨h', _⟩ | ⟨g', c', cur, h1, h2, h3, _⟩
  · simp at h'
  · simp only [Value.slice.injEq, Option.some.injEq, Addr.mk.injEq, and_true, true_and] at h1
    obtain ⟨rfl, rfl⟩ := h1
    exact frozen_of_row _ _ k _ _ h3
theorem own_slk {W : World} {base e size n : Nat} {v : Value} {xs : List Value} (h : W.ownsRow base e size v n xs) : ∃ ad cap, v = .slice ad n cap := by
  rcases h.2 with ⟨h1, h2⟩ | ⟨g, cap, cur, h1, _⟩
  · exact ⟨none, 0, by rw [h1, h2]⟩
  · exact ⟨_, cap, h1⟩
theorem own_posk {W : World} {base e size n : Nat} {v : Value} {xs : List Value} (h : W.ownsRow base e size v n xs) (hn : 0 < n) : ∃ g cap, v = .slice (some ⟨g, 0, none⟩) n cap := by
  rcases h.2 with ⟨h1, h2⟩ | ⟨g, cap, cur, h1, _⟩
  · omega
  · exact ⟨g, cap, h1⟩
theorem str_at (l : List (Nat × Nat)) : ∀ (i : Nat) (s : Nat × Nat), l[i]? = some s → (strCells l)[i * 2]? = some (.int .i64 (s.1 : Int)) ∧ (strCells l)[i * 2 + 1]? = some (.int .i64 (s.2 : Int)) := by
  induction l with
  | nil => intro i s h; simp at h
  | cons a l ih =>
    intro i s h
    have e : strCells (a :: l) = [.int .i64 (a.1 : Int), .int .i64 (a.2 : Int)] ++ strCells l := by simp [strCells]
    rw [e]
    cases i with
    | zero => simp at h; subst h; simp
    | succ i =>
      obtain ⟨h1, h2⟩ := ih i s (by simpa using h)
      rw [List.getElem?_append_right (by simp; omega), List.getElem?_append_right (by simp; omega)]
      refine ⟨?_, ?_⟩
      · rw [← h1]; congr 1; simp; omega
      · rw [← h2]; congr 1; simp; omega
theorem exec_idx2 (W : World) (ρ : Operand → Value) (o : Oper) (x y : Operand) (ho : o.op = .indexAddr 104 x y) (g X len c : Nat) (hx : ρ x = .slice (some ⟨g, 0, none⟩) len c) (hy : ρ y = .int .i64 (X : Int)) (h : X < len) :
    (execOp ρ o).run Tryd.prog W = .ok (.value (.pointer (some ⟨g, X * 2, none⟩))) W := by
  have h1 : (0 : Int) ≤ (X : Int) := by omega
  have h2 : (X : Int) < (len : Int) := by omega
  unfold execOp
  simp only [ho, hx, hy, Sem.run_bind, Sem.run_pure, Result.andThen_ok]
  go_simp
theorem exec_callB (W : World) (a : Act) (o : Oper) (f : FuncId) (x y : Operand) (t : TypeId) (ho : o.op = .call { callee := .value x, args := #[y], argTypes := #[t] }) (r u : Value) (hx : a.eval x = .func (.func f) #[r] #[]) (hy : a.eval y = u)
    (hf : (callFunc f #[r, u]).run Tryd.prog W = .ok (.enter f #[r, u]) W) : (execOp a.eval o).run Tryd.prog W = .ok (.enter f #[r, u]) W := by
  unfold execOp
  simp [ho, resolve, invoke, Deferred.ofValue, hx, hy, hf]
theorem exec_loadS (W : World) (ρ : Operand → Value) (o : Oper) (x : Operand) (ho : o.op = .load 36 x) (b off n c : Nat) (ad : Option Addr) (hx : ρ x = .pointer (some ⟨b, off, none⟩)) (h0 : W.cell? ⟨b, off, none⟩ = some (.slice ad n c)) : (execOp ρ o).run Tryd.prog W = .ok (.value (.slice ad n c)) W := by
  unfold execOp
  simp only [ho, Instr.loadAt, Instr.sureAddr, hx, Sem.run_bind, Sem.run_pure, Result.andThen_ok]
  go_simp
theorem exec_build1 (W : World) (ρ : Operand → Value) (o : Oper) (y : Operand) (ho : o.op = .buildSlice 36 1 #[(0, y)]) (b : Bool) (hx : ρ y = .bool b) :
    (execOp ρ o).run Tryd.prog W = .ok (.value (.slice (some ⟨W.heap.size, 0, none⟩) 1 1)) (W.alloc (.cells #[.bool b] 4)) := by
  unfold execOp
  simp only [ho, hx, Sem.run_bind, Sem.run_pure, Result.andThen_ok]
  go_simp
theorem exec_storeS (W : World) (ρ : Operand → Value) (o : Oper) (x y : Operand) (ho : o.op = .store 36 x y) (b off g n c : Nat) (u : Value) (hx : ρ x = .pointer (some ⟨b, off, none⟩)) (hy : ρ y = .slice (some ⟨g, 0, none⟩) n c) (hc : W.cell? ⟨b, off, none⟩ = some u) (hf : W.frozen? ⟨b, off, none⟩ = false) :
    (execOp ρ o).run Tryd.prog W = .ok .skip (W.setCell ⟨b, off, none⟩ (.slice (some ⟨g, 0, none⟩) n c)) := by
  unfold execOp
  simp only [ho, Instr.storeAt, Instr.sureAddr, hx, hy, Sem.run_bind, Sem.run_pure, Result.andThen_ok]
  go_simp
theorem runsFrom_len : ∀ (l : List Nat) (last : Option Nat) (k : Nat), (runsFrom last k l).length ≤ l.length
  | [], _, _ => by simp [runsFrom]
  | v :: t, last, k => by
    unfold runsFrom
    split
    · have := runsFrom_len t last (k + 1); simp; omega
    · have := runsFrom_len t (some v) (k + 1); simp; omega
theorem rowN_len (K : Kaut Nat) (Z : List Nat) (x : Nat) (j : Nat) : (rowN K Z x j).length ≤ j := by
  have := runsFrom_len (toN K (metN K Z x j) x j) none 0
  rw [toN_len] at this
  exact this
end Go.Proofs.YtmnfioghhdgciaaDoor

namespace Go.Proofs.YtmnfioghhdgciaaDoor
open Go Go.RowKit
set_option linter.unusedVariables false

/-! An automaton that is read: laws.eqDfa. -/
def ps0 : PSt := (false, [], 0)
def HDA (w : World) (a : Option Addr) (l : List (Int × Int)) : Prop :=
  l = [] ∨ ∃ b off, a = some ⟨b, off, none⟩ ∧ b < w.heap.size ∧ ∀ t, t < l.length → w.cell? ⟨b, off + t * 2, none⟩ = some (.int .i64 (l.getD t (0, 0)).1) ∧ w.cell? ⟨b, off + t * 2 + 1, none⟩ = some (.int .i64 (l.getD t (0, 0)).2)
theorem HDA.below {w w' : World} {a : Option Addr} {l : List (Int × Int)} (h : HDA w a l) (hb : Below w.heap.size w w') : HDA w' a l := by
  rcases h with h | ⟨b, off, h1, h2, h3⟩
  · exact .inl h
  · refine .inr ⟨b, off, h1, Nat.lt_of_lt_of_le h2 hb.size, fun t ht => ?_⟩
    obtain ⟨k1, k2⟩ := h3 t ht
    exact ⟨(hb.cell (p := ⟨b, off + t * 2, none⟩) h2).trans k1, (hb.cell (p := ⟨b, off + t * 2 + 1, none⟩) h2).trans k2⟩
def HDS (w : World) (a : Option Addr) (S : List PSt) : Prop :=
  S = [] ∨ ∃ b off, a = some ⟨b, off, none⟩ ∧ b < w.heap.size ∧ ∀ t, t < S.length → w.cell? ⟨b, off + t * 3, none⟩ = some (.bool (S.getD t ps0).1) ∧ ∃ ai ci, w.cell? ⟨b, off + t * 3 + 1, none⟩ = some (.slice ai (S.getD t ps0).2.1.length ci) ∧ HDA w ai (S.getD t ps0).2.1 ∧ w.cell? ⟨b, off + t * 3 + 2, none⟩ = some (.int .i64 (S.getD t ps0).2.2)
theorem HDS.below {w w' : World} {a : Option Addr} {S : List PSt} (h : HDS w a S) (hb : Below w.heap.size w w') : HDS w' a S := by
  rcases h with h | ⟨b, off, h1, h2, h3⟩
  · exact .inl h
  · refine .inr ⟨b, off, h1, Nat.lt_of_lt_of_le h2 hb.size, fun t ht => ?_⟩
    obtain ⟨k1, ai, ci, k2, k3, k4⟩ := h3 t ht
    exact ⟨(hb.cell (p := ⟨b, off + t * 3, none⟩) h2).trans k1, ai, ci, (hb.cell (p := ⟨b, off + t * 3 + 1, none⟩) h2).trans k2, k3.below hb, (hb.cell (p := ⟨b, off + t * 3 + 2, none⟩) h2).trans k4⟩
theorem arc_at (l : List (Int × Int)) : ∀ (i : Nat), i < l.length → (arcCells l)[i * 2]? = some (.int .i64 (l.getD i (0, 0)).1) ∧ (arcCells l)[i * 2 + 1]? = some (.int .i64 (l.getD i (0, 0)).2) := by
  induction l with
  | nil => intro i h; simp at h
  | cons x l ih =>
    intro i h
    cases i with
    | zero => exact ⟨rfl, rfl⟩
    | succ i =>
      have := ih i (by simpa using h)
      have e1 : (i + 1) * 2 = i * 2 + 1 + 1 := by omega
      have e2 : (i + 1) * 2 + 1 = i * 2 + 1 + 1 + 1 := by omega
      show (.int .i64 x.1 :: .int .i64 x.2 :: arcCells l)[(i + 1) * 2]? = _ ∧ (.int .i64 x.1 :: .int .i64 x.2 :: arcCells l)[(i + 1) * 2 + 1]? = _
      rw [e1]
      simpa using this
theorem st_at (l : List MSt) : ∀ (i : Nat) (s : MSt), l[i]? = some s → (stCells l)[i * 3]? = some (.bool s.2.1) ∧ (stCells l)[i * 3 + 1]? = some s.1 ∧ (stCells l)[i * 3 + 2]? = some (.int .i64 s.2.2.2) := by
  induction l with
  | nil => intro i s h; simp at h
  | cons x l ih =>
    intro i s h
    cases i with
    | zero =>
      have e : x = s := by simpa using h
      subst e
      exact ⟨rfl, rfl, rfl⟩
    | succ i =>
      have := ih i s (by simpa using h)
      have e1 : (i + 1) * 3 = i * 3 + 1 + 1 + 1 := by omega
      show (.bool x.2.1 :: x.1 :: .int .i64 x.2.2.2 :: stCells l)[(i + 1) * 3]? = _ ∧ (.bool x.2.1 :: x.1 :: .int .i64 x.2.2.2 :: stCells l)[(i + 1) * 3 + 1]? = _ ∧ (.bool x.2.1 :: x.1 :: .int .i64 x.2.2.2 :: stCells l)[(i + 1) * 3 + 2]? = _
      rw [e1]
      simpa using this
theorem arcs_hda {W : World} {base : Nat} {va : Value} {rs : List (Int × Int)} (h : W.ownsRow base 92 2 va rs.length (arcCells rs)) : ∃ a c, va = .slice a rs.length c ∧ HDA W a rs := by
  rcases h.2 with ⟨h1, h2⟩ | ⟨g, cap, cur, rfl, h2, h3, _⟩
  · exact ⟨none, 0, by rw [h1, h2], Or.inl (List.length_eq_zero_iff.1 h2)⟩
  · refine ⟨_, cap, rfl, Or.inr ⟨g, 0, rfl, (Array.getElem?_eq_some_iff.1 h3).1, fun t ht => ?_⟩⟩
    obtain ⟨e1, e2⟩ := arc_at rs t ht
    rw [Nat.zero_add]
    exact ⟨own_cellk h e1, own_cellk h e2⟩
theorem DfaM.hds {W : World} {base : Nat} {v : Value} {l : List MSt} (h : DfaM W base v l) : ∃ a c, v = .slice a (l.map Prod.snd).length c ∧ HDS W a (l.map Prod.snd) := by
  rw [List.length_map]
  rcases h.row.2 with ⟨h1, h2⟩ | ⟨g, cap, cur, rfl, h2, h3, _⟩
  · exact ⟨none, 0, by rw [h1, h2], Or.inl (by rw [List.length_eq_zero_iff.1 h2]; rfl)⟩
  · refine ⟨_, cap, rfl, Or.inr ⟨g, 0, rfl, (Array.getElem?_eq_some_iff.1 h3).1, fun t ht => ?_⟩⟩
    rw [List.length_map] at ht
    have hs := List.getElem?_eq_getElem ht
    obtain ⟨e1, e2, e3⟩ := st_at l t _ hs
    have eg : (l.map Prod.snd).getD t ps0 = l[t].2 := by rw [List.getD_eq_getElem?_getD, List.getElem?_map, hs]; rfl
    obtain ⟨ai, ci, q1, q2⟩ := arcs_hda (h.arcs _ (List.getElem_mem ht))
    rw [Nat.zero_add, eg]
    refine ⟨own_cellk h.row e1, ai, ci, ?_, q2, own_cellk h.row e3⟩
    rw [own_cellk h.row e2, q1]
set_option maxHeartbeats 2000000 in
set_option maxRecDepth 100000 in
theorem eqArc_same (p : Int × Int) (w : World) :
    Calls Tryd.prog 76 #[.agg #[.int .i64 p.1, .int .i64 p.2], .agg #[.int .i64 p.1, .int .i64 p.2]] w fun e w' => e = .returned (.bool true) ∧ Below w.heap.size w w' := by
  obtain ⟨p0, p1⟩ := p
  have HBa : Hid (Below w.heap.size w ((w.alloc (.cells #[.int .i64 p0, .int .i64 p1] 92)).alloc (.cells #[.int .i64 p0, .int .i64 p1] 92))) := ((Below.refl _ _).alloc (Nat.le_refl _) _).alloc (by simp) _
  have h0 : (p0 != p0) = false := by simp
  have h1 : (p1 != p1) = false := by simp
  dsimp only
  go_enter Tryd.func76, Tryd.ntmps76
  go_wp2_with fail
  go_ret
  exact ⟨rfl, HBa.out⟩
set_option maxHeartbeats 4000000 in
set_option maxRecDepth 100000 in
theorem eqArcs_same (a1 a2 : Option Addr) (c1 c2 : Nat) (l : List (Int × Int)) (w : World) (hn : l.length ≤ 1048576) (h1 : HDA w a1 l) (h2 : HDA w a2 l) :
    Calls Tryd.prog 66 #[.slice a1 l.length c1, .slice a2 l.length c2] w fun e w' => e = .returned (.bool true) ∧ Below w.heap.size w w' := by
  have H1 := hidd h1
  have H2 := hidd h2
  clear h1 h2
  go_enter Tryd.func66, Tryd.ntmps66
  go_wp2_with fail
  go_loopw [5] (fun iv wr => ∃ k : Nat, k ≤ l.length ∧ iv = .int .i64 (k : Int) ∧ Below w.heap.size w wr) (fun iv _ => l.length - (intOf iv).toNat)
  case atStart => exact ⟨0, Nat.zero_le _, rfl, Below.refl _ _⟩
  case round =>
    obtain ⟨k, hk, rfl, hbel⟩ := hrel
    have HB := hidd hbel
    clear hbel
    by_cases hlt : k < l.length
    · have hkz : (k : Int) < (l.length : Int) := by omega
      obtain ⟨b1, o1, rfl, hb1, hc1⟩ := (H1.out.below HB.out).resolve_left (fun h => by rw [h] at hlt; simp at hlt)
      obtain ⟨b2, o2, rfl, hb2, hc2⟩ := (H2.out.below HB.out).resolve_left (fun h => by rw [h] at hlt; simp at hlt)
      obtain ⟨x0, x1⟩ := hc1 k hlt
      obtain ⟨y0, y1⟩ := hc2 k hlt
      clear hc1 hc2
      generalize l.getD k (0, 0) = p at *
      go_wp2_with fail
      go_region_with (go_at_call 76; refine (eqArc_same p _).mono ?_; rintro e' w3 ⟨rfl, hb3⟩)
      all_goals
        go_wp2_with fail
        go_roundw
        · exact ⟨k + 1, by omega, by go_num, HB.out.trans ((below_drewN (Below.refl _ _) 1).trans hb3 |>.mono HB.out.size)⟩
        · simp [intOf]; omega
    · have hkz : ¬ (k : Int) < (l.length : Int) := by omega
      go_wp2_with fail
      go_ret
      exact ⟨rfl, HB.out⟩
set_option maxHeartbeats 2000000 in
set_option maxRecDepth 100000 in
theorem eqState_same (f : Bool) (z : Int) (a1 a2 : Option Addr) (c1 c2 : Nat) (l : List (Int × Int)) (w : World) (hn : l.length ≤ 1048576) (h1 : HDA w a1 l) (h2 : HDA w a2 l) :
    Calls Tryd.prog 44 #[.agg #[.bool f, .slice a1 l.length c1, .int .i64 z], .agg #[.bool f, .slice a2 l.length c2, .int .i64 z]] w fun e w' => e = .returned (.bool true) ∧ Below w.heap.size w w' := by
  have HBa : Hid (Below w.heap.size w ((w.alloc (.cells #[.bool f, .slice a1 l.length c1, .int .i64 z] 86)).alloc (.cells #[.bool f, .slice a2 l.length c2, .int .i64 z] 86))) := ((Below.refl _ _).alloc (Nat.le_refl _) _).alloc (by simp) _
  have HBx := hidd (box_two w (.cells #[.bool f, .slice a1 l.length c1, .int .i64 z] 86) (.cells #[.bool f, .slice a2 l.length c2, .int .i64 z] 86))
  have H1 := hidd (h1.below HBa.out)
  have H2 := hidd (h2.below HBa.out)
  clear h1 h2
  have hneq : (f != f) = false := by cases f <;> rfl
  have hzeq : (z != z) = false := by simp
  go_enter Tryd.func44, Tryd.ntmps44
  go_wp2_with fail
  refine (eqArcs_same a1 a2 c1 c2 l _ hn H1.out H2.out).mono ?_
  rintro e w3 ⟨rfl, hb3⟩
  have u1 : w3.cell? ⟨w.heap.size, 2, none⟩ = some (.int .i64 z) := blkc (blko HBx.out.1 hb3) 2
  have u2 : w3.cell? ⟨w.heap.size + 1, 2, none⟩ = some (.int .i64 z) := blkc (blko HBx.out.2 hb3) 2
  have HB3 := hidd (HBa.out.trans (hb3.mono HBa.out.size))
  clear hb3
  go_wp2_with fail
  go_ret
  exact ⟨rfl, HB3.out⟩
set_option maxHeartbeats 4000000 in
set_option maxRecDepth 100000 in
theorem eqStates_same (a1 a2 : Option Addr) (c1 c2 : Nat) (S : List PSt) (w : World) (hn : S.length ≤ 1048576) (hA : ∀ i, (S.getD i ps0).2.1.length ≤ 1048576) (h1 : HDS w a1 S) (h2 : HDS w a2 S) :
    Calls Tryd.prog 26 #[.slice a1 S.length c1, .slice a2 S.length c2] w fun e w' => e = .returned (.bool true) ∧ Below w.heap.size w w' := by
  have H1 := hidd h1
  have H2 := hidd h2
  have HA := hidd hA
  clear h1 h2 hA
  go_enter Tryd.func26, Tryd.ntmps26
  go_wp2_with fail
  go_loopw [5] (fun iv wr => ∃ k : Nat, k ≤ S.length ∧ iv = .int .i64 (k : Int) ∧ Below w.heap.size w wr) (fun iv _ => S.length - (intOf iv).toNat)
  case atStart => exact ⟨0, Nat.zero_le _, rfl, Below.refl _ _⟩
  case round =>
    obtain ⟨k, hk, rfl, hbel⟩ := hrel
    have HB := hidd hbel
    clear hbel
    by_cases hlt : k < S.length
    · have hkz : (k : Int) < (S.length : Int) := by omega
      obtain ⟨b1, o1, rfl, hb1, hc1⟩ := (H1.out.below HB.out).resolve_left (fun h => by rw [h] at hlt; simp at hlt)
      obtain ⟨b2, o2, rfl, hb2, hc2⟩ := (H2.out.below HB.out).resolve_left (fun h => by rw [h] at hlt; simp at hlt)
      obtain ⟨x0, ai, ci, x1, hx, x2⟩ := hc1 k hlt
      obtain ⟨y0, aj, cj, y1, hy, y2⟩ := hc2 k hlt
      clear hc1 hc2
      have hal := HA.out k
      have HC : Hid (Calls Tryd.prog 44 #[.agg #[.bool (S.getD k ps0).1, .slice ai (S.getD k ps0).2.1.length ci, .int .i64 (S.getD k ps0).2.2], .agg #[.bool (S.getD k ps0).1, .slice aj (S.getD k ps0).2.1.length cj, .int .i64 (S.getD k ps0).2.2]] wr.drew fun e w' => e = .returned (.bool true) ∧ Below wr.drew.heap.size wr.drew w') := eqState_same _ _ ai aj ci cj _ wr.drew hal (hx.below (below_drewN (Below.refl _ _) 1)) (hy.below (below_drewN (Below.refl _ _) 1))
      clear hx hy hal
      generalize S.getD k ps0 = s at *
      go_wp2_with fail
      go_region_with (go_at_call 44; refine HC.out.mono ?_; rintro e' w3 ⟨rfl, hb3⟩)
      all_goals
        go_wp2_with fail
        go_roundw
        · exact ⟨k + 1, by omega, by go_num, HB.out.trans ((below_drewN (Below.refl _ _) 1).trans hb3 |>.mono HB.out.size)⟩
        · simp [intOf]; omega
    · have hkz : ¬ (k : Int) < (S.length : Int) := by omega
      go_wp2_with fail
      go_ret
      exact ⟨rfl, HB.out⟩
set_option maxHeartbeats 2000000 in
set_option maxRecDepth 100000 in
theorem eqDfa_same (a1 a2 : Option Addr) (c1 c2 : Nat) (S : List PSt) (w : World) (hn : S.length ≤ 1048576) (hA : ∀ i, (S.getD i ps0).2.1.length ≤ 1048576) (h1 : HDS w a1 S) (h2 : HDS w a2 S) :
    Calls Tryd.prog 6 #[.agg #[.slice a1 S.length c1], .agg #[.slice a2 S.length c2]] w fun e w' => e = .returned (.bool true) ∧ Below w.heap.size w w' := by
  have HBa : Hid (Below w.heap.size w ((w.alloc (.cells #[.slice a1 S.length c1] 24)).alloc (.cells #[.slice a2 S.length c2] 24))) := ((Below.refl _ _).alloc (Nat.le_refl _) _).alloc (by simp) _
  have H1 := hidd (h1.below HBa.out)
  have H2 := hidd (h2.below HBa.out)
  have HA := hidd hA
  clear h1 h2 hA
  go_enter Tryd.func6, Tryd.ntmps6
  go_wp2_with fail
  refine (eqStates_same a1 a2 c1 c2 S _ hn HA.out H1.out H2.out).mono ?_
  rintro e w3 ⟨rfl, hb3⟩
  have HB3 := hidd (HBa.out.trans (hb3.mono HBa.out.size))
  clear hb3
  go_wp2_with fail
  go_ret
  exact ⟨rfl, HB3.out⟩
end Go.Proofs.YtmnfioghhdgciaaDoor
