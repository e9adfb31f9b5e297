import Derived.Test.YtmnfioghhdgciaaDoorWildJ02
import Derived.Maps.Keyed
import Derived.DeepKeys4
import Derived.Carry
namespace Go.Proofs.YtmnfioghhdgciaaDoor
open Go Go.RowKit
set_option linter.unusedVariables false
set_option maxRecDepth 100000

/-! An automaton's states in memory. -/
theorem Tryd.infoArcD : (Tryd.prog.info? 92).map (fun i => (i.zero, i.size, i.bytes)) = some (some (.agg #[.int .i64 0, .int .i64 0]), 2, 16) := by kernel_rfl
theorem Tryd.infoStD : (Tryd.prog.info? 86).map (fun i => (i.zero, i.size, i.bytes)) = some (some (.agg #[.bool false, .slice none 0 0, .int .i64 0]), 3, 40) := by kernel_rfl
def arcCells (l : List (Int × Int)) : List Value := l.flatMap fun a => [.int .i64 a.1, .int .i64 a.2]
theorem arcCells_snoc (l : List (Int × Int)) (a : Int × Int) : arcCells (l ++ [a]) = arcCells l ++ [.int .i64 a.1, .int .i64 a.2] := by simp [arcCells]
abbrev MSt := Value × PSt
def stCells (l : List MSt) : List Value := l.flatMap fun s => [.bool s.2.1, s.1, .int .i64 s.2.2.2]
theorem stCells_snoc (l : List MSt) (s : MSt) : stCells (l ++ [s]) = stCells l ++ [.bool s.2.1, s.1, .int .i64 s.2.2.2] := by simp [stCells]
def ApartV (u v : Value) : Prop := u.ownBlock = none ∨ u.ownBlock ≠ v.ownBlock
structure DfaM (W : World) (base : Nat) (v : Value) (l : List MSt) : Prop where
  row : W.ownsRow base 86 3 v l.length (stCells l)
  arcs : ∀ s ∈ l, W.ownsRow base 92 2 s.1 s.2.2.1.length (arcCells s.2.2.1)
  apart : l.Pairwise fun s t => ApartV s.1 t.1
theorem DfaM.nil (W : World) (base : Nat) : DfaM W base (.slice none 0 0) [] := ⟨World.ownsRow_nil _ _ _ _, fun s hs => by simp at hs, List.Pairwise.nil⟩
theorem DfaM.congr {W W' : World} {base : Nat} {v : Value} {l : List MSt} (h : DfaM W base v l) (hb : ∀ (b : Nat) (cs : Array Value) (t : TypeId), (t = 86 ∨ t = 92) → (v.ownBlock = some b ∨ ∃ s ∈ l, s.1.ownBlock = some b) → W.heap[b]? = some (.cells cs t) → W'.heap[b]? = some (.cells cs t)) : DfaM W' base v l := by
  refine ⟨own_congr h.row (fun b hk => ?_), fun s hs => own_congr (h.arcs s hs) (fun b hk => ?_), h.apart⟩
  · obtain ⟨_, cur, h2⟩ := own_blk h.row hk
    rw [hb b cur _ (Or.inl rfl) (Or.inl hk) h2, h2]
  · obtain ⟨_, cur, h2⟩ := own_blk (h.arcs s hs) hk
    rw [hb b cur _ (Or.inr rfl) (Or.inr ⟨s, hs, hk⟩) h2, h2]
theorem DfaM.below {W W' : World} {base : Nat} {v : Value} {l : List MSt} (h : DfaM W base v l) (hb : Below W.heap.size W W') : DfaM W' base v l := h.congr fun b cs t _ _ hh => blko hh hb
/-- A state that is being made, in a box. -/
structure CurM (W : World) (base : Nat) (v : Value) (l : List MSt) (sb : Nat) (va : Value) (f : Bool) (rs : List (Int × Int)) (e : Int) : Prop where
  dfa : DfaM W base v l
  box : W.heap[sb]? = some (.cells #[.bool f, va, .int .i64 e] 86)
  arcs : W.ownsRow base 92 2 va rs.length (arcCells rs)
  apart : ∀ s ∈ l, ApartV s.1 va
  off : v.ownBlock ≠ some sb
  from_ : base ≤ sb
theorem DfaM.start {W : World} {base : Nat} {v : Value} {l : List MSt} (h : DfaM W base v l) (hbase : base ≤ W.heap.size) (f : Bool) (e : Int) : CurM (W.alloc (.cells #[.bool f, .slice none 0 0, .int .i64 e] 86)) base v l W.heap.size (.slice none 0 0) f [] e := by
  refine ⟨h.below ((Below.refl _ _).alloc (Nat.le_refl _) _), heap_alloc_new _ _, World.ownsRow_nil _ _ _ _, fun s _ => ?_, ?_, hbase⟩
  · unfold ApartV
    cases s.1.ownBlock with
    | none => exact Or.inl rfl
    | some k => exact Or.inr (by simp [Value.ownBlock])
  · intro e'
    have := (Array.getElem?_eq_some_iff.1 (own_blk h.row e').2.choose_spec).1
    omega
/-- What is written elsewhere. -/
theorem CurM.congr {W W' : World} {base : Nat} {v : Value} {l : List MSt} {sb : Nat} {va : Value} {f : Bool} {rs : List (Int × Int)} {e : Int} (h : CurM W base v l sb va f rs e) (hb : ∀ (b : Nat) (cs : Array Value) (t : TypeId), (t = 86 ∨ t = 92) → W.heap[b]? = some (.cells cs t) → W'.heap[b]? = some (.cells cs t)) : CurM W' base v l sb va f rs e := by
  refine ⟨h.dfa.congr fun b cs t ht _ hh => hb b cs t ht hh, hb _ _ _ (Or.inl rfl) h.box, own_congr h.arcs (fun b hk => ?_), h.apart, h.off, h.from_⟩
  obtain ⟨_, cur, h2⟩ := own_blk h.arcs hk
  rw [hb b cur _ (Or.inr rfl) h2, h2]
/-- One arc more, in the row and in the box. -/
theorem CurM.arc {W W1 : World} {base : Nat} {v : Value} {l : List MSt} {sb : Nat} {va va' : Value} {f : Bool} {rs : List (Int × Int)} {e : Int} {a : Int × Int} (h : CurM W base v l sb va f rs e) (hb : But (fun b => va.ownBlock = some b) W W1) (ho : W1.ownsRow base 92 2 va' (rs.length + 1) (arcCells rs ++ [.int .i64 a.1, .int .i64 a.2])) (hat : ∀ b, va'.ownBlock = some b → va.ownBlock = some b ∨ W.heap.size ≤ b) :
    CurM (W1.setCell ⟨sb, 1, none⟩ va') base v l sb va' f (rs ++ [a]) e ∧ W1.heap[sb]? = some (.cells #[.bool f, va, .int .i64 e] 86) := by
  have hsb : W1.heap[sb]? = some (.cells #[.bool f, va, .int .i64 e] 86) := by
    rw [hb.block sb (Array.getElem?_eq_some_iff.1 h.box).1 (fun e' => by
      obtain ⟨_, cur, h2⟩ := own_blk h.arcs e'
      rw [h.box] at h2
      simp only [Option.some.injEq, Obj.cells.injEq] at h2
      exact absurd h2.2.1 (by decide))]
    exact h.box
  have far : ∀ s ∈ l, ApartV s.1 va' := by
    intro s hs
    unfold ApartV
    cases hu : s.1.ownBlock with
    | none => exact Or.inl rfl
    | some k =>
      refine Or.inr ?_
      intro e'
      rcases hat k e'.symm with h1 | h1
      · rcases h.apart s hs with h2 | h2
        · rw [hu] at h2; cases h2
        · exact h2 (hu.trans h1.symm)
      · have := (Array.getElem?_eq_some_iff.1 (own_blk (h.dfa.arcs s hs) hu).2.choose_spec).1
        omega
  refine ⟨⟨?_, ?_, ?_, far, h.off, h.from_⟩, hsb⟩
  · refine h.dfa.congr fun b cs t ht hk hh => ?_
    have h1 : W1.heap[b]? = some (.cells cs t) := by
      rw [hb.block b (Array.getElem?_eq_some_iff.1 hh).1 (fun e' => by
        rcases hk with hk | ⟨s, hs, hk⟩
        · obtain ⟨_, c1, h1⟩ := own_blk h.dfa.row hk
          obtain ⟨_, c2, h2⟩ := own_blk h.arcs e'
          rw [h1] at h2
          simp only [Option.some.injEq, Obj.cells.injEq] at h2
          exact absurd h2.2.1 (by decide)
        · rcases h.apart s hs with h2 | h2
          · rw [hk] at h2; cases h2
          · exact h2 (hk.trans e'.symm))]
      exact hh
    rw [heap_set_other W1 sb 1 _ b (by
      rintro rfl
      rcases hk with hk | ⟨s, hs, hk⟩
      · exact h.off hk
      · obtain ⟨_, c1, h3⟩ := own_blk (h.dfa.arcs s hs) hk
        rw [h.box] at h3
        simp only [Option.some.injEq, Obj.cells.injEq] at h3
        exact absurd h3.2.1 (by decide))]
    exact h1
  · have := blk_setk hsb 1 va'
    simpa using this
  · rw [List.length_append, List.length_singleton, arcCells_snoc]
    refine own_congr ho (fun b hk => heap_set_other W1 sb 1 _ b ?_)
    rintro rfl
    obtain ⟨_, c1, h3⟩ := own_blk ho hk
    rw [hsb] at h3
    simp only [Option.some.injEq, Obj.cells.injEq] at h3
    exact absurd h3.2.1 (by decide)
/-- The state goes behind the others. -/
theorem CurM.push {W W1 : World} {base : Nat} {v v' : Value} {l : List MSt} {sb : Nat} {va : Value} {f : Bool} {rs : List (Int × Int)} {e : Int} (h : CurM W base v l sb va f rs e) (hb : But (fun b => v.ownBlock = some b) W W1) (ho : W1.ownsRow base 86 3 v' (l.length + 1) (stCells l ++ [.bool f, va, .int .i64 e])) : DfaM W1 base v' (l ++ [(va, f, rs, e)]) := by
  have key : ∀ (u : Value) (n : Nat) (xs : List Value), W.ownsRow base 92 2 u n xs → W1.ownsRow base 92 2 u n xs := by
    intro u n xs hu
    refine own_congr hu (fun b hk => hb.block b (Array.getElem?_eq_some_iff.1 (own_blk hu hk).2.choose_spec).1 (fun e' => ?_))
    obtain ⟨_, c1, h1⟩ := own_blk hu hk
    obtain ⟨_, c2, h2⟩ := own_blk h.dfa.row e'
    rw [h1] at h2
    simp only [Option.some.injEq, Obj.cells.injEq] at h2
    exact absurd h2.2.1 (by decide)
  refine ⟨?_, fun s hs => ?_, ?_⟩
  · rw [List.length_append, List.length_singleton, stCells_snoc]; exact ho
  · rcases List.mem_append.1 hs with h1 | h1
    · exact key _ _ _ (h.dfa.arcs s h1)
    · rw [List.mem_singleton.1 h1]; exact key _ _ _ h.arcs
  · rw [List.pairwise_append]
    refine ⟨h.dfa.apart, by simp, fun s hs t ht => ?_⟩
    rw [List.mem_singleton.1 ht]; exact h.apart s hs
/-- One more element of k cells behind a row of one's own. -/
theorem wp_pushk {W : World} {ops : Array Oper} {rest : List Oper} {o : Oper} {a : Act} {Q : Exit → Act → World → Prop} (hgd : o.guard = none) (s x : Operand) (t e : TypeId)
    (ho : o.op = .call { callee := .builtin .append, args := #[s, x], argTypes := #[t, t] }) (i : TypeInfo) (z : Value) (size bytes : Nat) (ht : Tryd.prog.underlying t = some (.slice e)) (hi : Tryd.prog.info? e = some i) (hz : i.zero = some z) (hsize : i.size = size) (hby : i.bytes = bytes) (hzs : z.cells.size = size) (hsz : 0 < size)
    (base : Nat) (v : Value) (n : Nat) (xs : List Value) (hs : a.eval s = v) (hown : W.ownsRow base e size v n xs) (ys : Array Value) (hys : ys.size = size) (hy : ∀ y ∈ ys.toList, y.oneCell' = true) (hx : a.eval x = .slice (some ⟨W.heap.size, 0, none⟩) 1 1) (hb : (n + 1) * bytes ≤ 140737488355328) (hby0 : 0 < bytes) (hbase : base ≤ W.heap.size)
    (h : ∀ v' w', w'.ownsRow base e size v' (n + 1) (xs ++ ys.toList) → But (fun b => v.ownBlock = some b) W w' → (∀ b, v'.ownBlock = some b → v.ownBlock = some b ∨ W.heap.size ≤ b) → v' ≠ .slice none 0 0 → wpList Tryd.prog ops Q rest (a.put o.dst v') w') :
    wpList Tryd.prog ops Q (o :: rest) a (W.alloc (.cells ys e)) := by
  have hn : n + 1 ≤ 140737488355328 := Nat.le_trans (Nat.le_mul_of_pos_right (n + 1) hby0) hb
  refine wpList_append_own_at _ hgd s x t ho base e i z size bytes ht hi hz hsize hby hzs hsz v n xs hs (hown.alloc _) ⟨W.heap.size, 0, none⟩ 1 1 ys.toList hx (by simp [hys]) ?_ hy (by unfold maxLen; omega) hb (by simp; omega) ?_
  · intro j u hj
    rw [add_head, blkc (heap_alloc_new W (.cells ys e)) j]
    simpa using hj
  · intro v' w' h1 h2 h3 h4
    refine h v' w' h1 ?_ ?_ ?_
    · refine ⟨h2.os, h2.tape, h2.output, by have := h2.size; simp at this; omega, fun b hb hn => ?_⟩
      rw [h2.block b (by simp; omega) (fun e => hn e.symm), Below.heap_alloc _ _ _ hb]
    · intro b hb
      rcases h4 with h5 | h5
      · exact Or.inl (h5 ▸ hb)
      · rw [h5] at hb
        cases hb
        exact Or.inr (by simp)
    · intro e
      have := (h3.1 e).2
      cases this
/-! The order of classes rs it grows. -/
section
variable {X : Type} [DecidableEq X]
theorem num_pre {T : Sys X} {o r : List X} {y : X} (h : y ∈ o ∨ T.dead y = true) : T.num (o ++ r) y = T.num o y := by
  unfold Sys.num
  by_cases hd : T.dead y = true
  · rw [if_pos hd, if_pos hd]
  · rw [if_neg hd, if_neg hd, ix_pre (h.resolve_right hd)]
/-- What is met when one more class is looked at. -/
def meetD (T : Sys X) (o : List X) (y : X) : List X := if T.dead y = true then o else meet o y
theorem meetD_mem (T : Sys X) (o : List X) (y : X) : y ∈ meetD T o y ∨ T.dead y = true := by
  unfold meetD
  by_cases hd : T.dead y = true
  · exact Or.inr hd
  · rw [if_neg hd]; exact Or.inl (meet_mem.2 (Or.inr rfl))
theorem meetD_pre (T : Sys X) (o : List X) (y : X) : ∃ r, meetD T o y = o ++ r := by
  unfold meetD
  split
  · exact ⟨[], by simp⟩
  · exact meet_pre o y
theorem meets_filter (T : Sys X) (l : List X) : ∀ (o : List X), meets o (l.filter fun y => !T.dead y) = l.foldl (meetD T) o := by
  induction l with
  | nil => intro o; rfl
  | cons y l ih =>
    intro o
    rw [List.foldl_cons, ← ih]
    unfold meetD
    cases hd : T.dead y with
    | true => simp [hd]
    | false => simp [hd, meets]
def toldTo (T : Sys X) (m : Nat) (x : X) (k : Nat) : List Nat := (List.range k).filter fun a => decide (T.gto x a ≠ T.gto x m)
theorem toldTo_succ (T : Sys X) (m : Nat) (x : X) (k : Nat) : toldTo T m x (k + 1) = if T.gto x k = T.gto x m then toldTo T m x k else toldTo T m x k ++ [k] := by
  unfold toldTo
  rw [List.range_succ, List.filter_append]
  by_cases h : T.gto x k = T.gto x m <;> simp [h]
def ordTo (T : Sys X) (m : Nat) (x : X) (o : List X) (k : Nat) : List X := ((toldTo T m x k).map (T.gto x)).foldl (meetD T) o
theorem ordTo_succ (T : Sys X) (m : Nat) (x : X) (o : List X) (k : Nat) : ordTo T m x o (k + 1) = if T.gto x k = T.gto x m then ordTo T m x o k else meetD T (ordTo T m x o k) (T.gto x k) := by
  unfold ordTo
  rw [toldTo_succ]
  split
  · rfl
  · rw [List.map_append, List.foldl_append]; rfl
theorem ordTo_all (T : Sys X) (m : Nat) (x : X) (o : List X) : meetD T (ordTo T m x o m) (T.gto x m) = meets o (T.nexts m x) := by
  unfold Sys.nexts
  rw [meets_filter, List.foldl_append]
  rfl
def arcsTo (T : Sys X) (m : Nat) (ls : List Int) (o : List X) (x : X) (k : Nat) : List (Int × Int) := (toldTo T m x k).map fun a => (ls.getD a 0, T.num o (T.gto x a))
theorem ordTo_known (T : Sys X) (m : Nat) (x : X) (o : List X) : ∀ (k : Nat), ∀ a ∈ toldTo T m x k, T.gto x a ∈ ordTo T m x o k ∨ T.dead (T.gto x a) = true
  | 0, a, ha => by simp [toldTo] at ha
  | k + 1, a, ha => by
    rw [toldTo_succ] at ha
    rw [ordTo_succ]
    split at ha
    · rename_i h; rw [if_pos h]; exact ordTo_known T m x o k a ha
    · rename_i h
      rw [if_neg h]
      obtain ⟨r, hr⟩ := meetD_pre T (ordTo T m x o k) (T.gto x k)
      rcases List.mem_append.1 ha with h1 | h1
      · rcases ordTo_known T m x o k a h1 with h2 | h2
        · exact Or.inl (by rw [hr]; exact List.mem_append_left _ h2)
        · exact Or.inr h2
      · rw [List.mem_singleton.1 h1]; exact meetD_mem T _ _
theorem arcsTo_pre {T : Sys X} {m : Nat} {ls : List Int} {o r : List X} {x : X} {k : Nat} (h : ∀ a ∈ toldTo T m x k, T.gto x a ∈ o ∨ T.dead (T.gto x a) = true) : arcsTo T m ls (o ++ r) x k = arcsTo T m ls o x k := by
  unfold arcsTo
  exact List.map_congr_left fun a ha => by rw [num_pre (h a ha)]
theorem state_of {T : Sys X} {m : Nat} {ls : List Int} {o : List X} {x : X} : T.state m ls o x = (T.fin x, arcsTo T m ls o x m, T.num o (T.gto x m)) := rfl
/-- States that are made stay rs they are when the order goes on. -/
theorem state_pre {T : Sys X} {m : Nat} {ls : List Int} {o r : List X} {x : X} (h : ∀ a, a ≤ m → T.gto x a ∈ o ∨ T.dead (T.gto x a) = true) : T.state m ls (o ++ r) x = T.state m ls o x := by
  rw [state_of, state_of, arcsTo_pre (fun a ha => h a (by have := List.mem_range.1 (List.mem_filter.1 ha).1; omega)), num_pre (h m (Nat.le_refl m))]
end
end Go.Proofs.YtmnfioghhdgciaaDoor

namespace Go.Proofs.YtmnfioghhdgciaaDoor
open Go Go.RowKit
set_option linter.unusedVariables false
set_option linter.unusedSectionVars false
set_option maxRecDepth 100000

/-! Sets of members in the order in which they came: a map to their places, and a row. -/
structure KeyT (X : Type) where
  kt : TypeId
  mt : TypeId
  bt : TypeId
  size : Nat
  enc : X → Value
  cells : X → Array Value
  ok : X → Prop
structure KeyT.Ok {X : Type} (K : KeyT X) : Prop where
  under : Tryd.prog.underlying K.mt = some (.map K.kt 3)
  keyed : Maps.Keyed Tryd.prog K.kt
  key : ∀ x, K.ok x → ∃ kl, keyOf Tryd.prog K.kt (K.enc x) = some kl
  inj : ∀ x y, K.enc x = K.enc y → x = y
section
variable {X : Type} [DecidableEq X] {K : KeyT X}
def MapK (K : KeyT X) (w : World) (mb : Nat) (L : List X) : Prop := ∃ es clock, w.heap[mb]? = some (.map es clock) ∧ es.toList.map (fun e => (e.key, e.val)) = L.mapIdx fun (j : Nat) l => (K.enc l, Value.int .i64 (j : Int))
theorem MapK.keep {w w' : World} {mb : Nat} {L : List X} (h : MapK K w mb L) (hb : w'.heap[mb]? = w.heap[mb]?) : MapK K w' mb L := by
  obtain ⟨es, clock, h1, h2⟩ := h
  exact ⟨es, clock, hb.trans h1, h2⟩
theorem MapK.lt {w : World} {mb : Nat} {L : List X} (h : MapK K w mb L) : mb < w.heap.size := by
  obtain ⟨es, clock, h1, _⟩ := h
  exact (Array.getElem?_eq_some_iff.1 h1).1
theorem mapK_new (w : World) : MapK K (w.alloc (.map #[] 0)) w.heap.size [] := ⟨#[], 0, heap_alloc_new w _, rfl⟩
theorem MapK.find (hK : K.Ok) {w : World} {mb : Nat} {L : List X} (h : MapK K w mb L) (hL : ∀ l ∈ L, K.ok l) (l : X) (hl : K.ok l) :
    ∃ es clock, w.heap[mb]? = some (.map es clock) ∧ es.toList.map (fun e => (e.key, e.val)) = L.mapIdx (fun (j : Nat) l => (K.enc l, Value.int .i64 (j : Int))) ∧
      ((l ∉ L ∧ (Instr.findKey K.kt (K.enc l) es.toList).run Tryd.prog w = .ok none w) ∨ ∃ j : Nat, L[j]? = some l ∧ (Instr.findKey K.kt (K.enc l) es.toList).run Tryd.prog w = .ok (some (j, .int .i64 (j : Int))) w) := by
  obtain ⟨es, clock, h1, h2⟩ := h
  refine ⟨es, clock, h1, h2, ?_⟩
  obtain ⟨kl, hkl⟩ := hK.key l hl
  have at_ : ∀ (j : Nat) (e : MapEntry), es.toList[j]? = some e → ∃ l', L[j]? = some l' ∧ e.key = K.enc l' ∧ e.val = .int .i64 (j : Int) := by
    intro j e he
    have h3 : (es.toList.map (fun e => (e.key, e.val)))[j]? = some (e.key, e.val) := by rw [List.getElem?_map, he]; rfl
    rw [h2, List.getElem?_mapIdx] at h3
    cases hx : L[j]? with
    | none => rw [hx] at h3; cases h3
    | some l' =>
      rw [hx] at h3
      simp only [Option.map_some, Option.some.injEq, Prod.mk.injEq] at h3
      exact ⟨l', rfl, h3.1.symm, h3.2.symm⟩
  have hkeys : ∀ e ∈ es.toList, ∃ q, keyOf Tryd.prog K.kt e.key = some q := by
    intro e he
    obtain ⟨j, hj⟩ := List.mem_iff_getElem?.1 he
    obtain ⟨l', h4, h5, _⟩ := at_ j e hj
    rw [h5]
    exact hK.key l' (hL l' (List.mem_of_getElem? h4))
  rcases hK.keyed.find w hkl es.toList hkeys with ⟨h3, h4⟩ | ⟨j, e, h3, h4, h5⟩
  · refine Or.inl ⟨?_, h3⟩
    intro hm
    obtain ⟨j, hj⟩ := List.mem_iff_getElem?.1 hm
    have h6 : (es.toList.map (fun e => (e.key, e.val)))[j]? = some (K.enc l, .int .i64 (j : Int)) := by rw [h2, List.getElem?_mapIdx, hj]; rfl
    rw [List.getElem?_map] at h6
    cases hx : es.toList[j]? with
    | none => rw [hx] at h6; cases h6
    | some e =>
      rw [hx] at h6
      simp only [Option.map_some, Option.some.injEq, Prod.mk.injEq] at h6
      exact h4 e (List.mem_of_getElem? hx) h6.1
  · obtain ⟨l', h6, h7, h8⟩ := at_ j e h4
    have : l' = l := hK.inj _ _ (h7.symm.trans h5)
    subst this
    exact Or.inr ⟨j, h6, by rw [h3, h8]⟩
theorem MapK.look (hK : K.Ok) {w : World} {mb : Nat} {L : List X} (h : MapK K w mb L) (hL : ∀ l ∈ L, K.ok l) (l : X) (hl : K.ok l) :
    (l ∉ L ∧ (Instr.lookup K.mt (.map (some mb)) (K.enc l) true).run Tryd.prog w = .ok (.tuple #[.int .i64 0, .bool false]) w) ∨
    ∃ j : Nat, L[j]? = some l ∧ (Instr.lookup K.mt (.map (some mb)) (K.enc l) true).run Tryd.prog w = .ok (.tuple #[.int .i64 (j : Int), .bool true]) w := by
  obtain ⟨kl, hkl⟩ := hK.key l hl
  obtain ⟨es, clock, h1, _, h3⟩ := h.find hK hL l hl
  rcases h3 with ⟨h4, h5⟩ | ⟨j, h4, h5⟩
  · exact Or.inl ⟨h4, by simp [Instr.lookup, run_underlying hK.under, MapKept.run_getObj_map h1, hK.keyed.check w _ hkl, h5, Result.andThen]⟩
  · exact Or.inr ⟨j, h4, by simp [Instr.lookup, run_underlying hK.under, MapKept.run_getObj_map h1, hK.keyed.check w _ hkl, h5, Result.andThen]⟩
theorem look_nil (hK : K.Ok) (w : World) (l : X) (hl : K.ok l) : (Instr.lookup K.mt (.map none) (K.enc l) true).run Tryd.prog w = .ok (.tuple #[.int .i64 0, .bool false]) w := by
  obtain ⟨kl, hkl⟩ := hK.key l hl
  rcases hK.keyed.find w hkl [] (by simp) with ⟨h3, _⟩ | ⟨j, e, _, h4, _⟩
  · simp [Instr.lookup, run_underlying hK.under, hK.keyed.check w _ hkl, h3, Result.andThen]
  · simp at h4
theorem MapK.put (hK : K.Ok) {w : World} {mb : Nat} {L : List X} (h : MapK K w mb L) (hL : ∀ l ∈ L, K.ok l) (l : X) (hl : K.ok l) (hn : l ∉ L) :
    ∃ w', (Instr.mapUpdate K.mt (.map (some mb)) (K.enc l) (.int .i64 (L.length : Int))).run Tryd.prog w = .ok () w' ∧ MapK K w' mb (L ++ [l]) ∧ w.grownBy w' (some mb) ∧ w'.heap.size = w.heap.size := by
  obtain ⟨kl, hkl⟩ := hK.key l hl
  obtain ⟨es, clock, h1, h2, h3⟩ := h.find hK hL l hl
  rcases h3 with ⟨h4, h5⟩ | ⟨j, h4, h5⟩
  · refine ⟨ChangeMaps.setBlock w mb (.map (es.push ⟨K.enc l, .int .i64 (L.length : Int), clock⟩) (clock + 1)), ?_, ⟨_, _, ChangeMaps.heap_setBlock_same h1 _, ?_⟩, ⟨rfl, rfl, rfl, by simp [ChangeMaps.setBlock], fun i _ hi => ChangeMaps.heap_setBlock_other h1 _ (fun e => hi (by rw [e]))⟩, by simp [ChangeMaps.setBlock]⟩
    · simp [Instr.mapUpdate, run_underlying hK.under, MapKept.run_getObj_map h1, hK.keyed.check w false hkl, h5, MapKept.run_setObj_map _ h1, Result.andThen, ChangeMaps.setBlock]
    · rw [Array.toList_push, List.map_append, h2, List.mapIdx_append]
      simp
  · exact absurd (List.mem_of_getElem? h4) hn
/-- A set in its box. -/
def rowK (K : KeyT X) (L : List X) : List Value := L.flatMap fun x => (K.cells x).toList
theorem rowK_snoc (L : List X) (x : X) : rowK K (L ++ [x]) = rowK K L ++ (K.cells x).toList := by simp [rowK]
structure SetAt (K : KeyT X) (W : World) (base sb : Nat) (vm vs : Value) (L : List X) : Prop where
  box : W.heap[sb]? = some (.cells #[vm, vs] K.bt)
  map : (vm = .map none ∧ L = []) ∨ ∃ mb, vm = .map (some mb) ∧ base ≤ mb ∧ MapK K W mb L
  row : W.ownsRow base K.kt K.size vs L.length (rowK K L)
  nodup : L.Nodup
  oks : ∀ x ∈ L, K.ok x
def SetB (sb : Nat) (vm vs : Value) (b : Nat) : Prop := b = sb ∨ vm = .map (some b) ∨ vs.ownBlock = some b
theorem SetAt.lt {W : World} {base sb : Nat} {vm vs : Value} {L : List X} (h : SetAt K W base sb vm vs L) : sb < W.heap.size := (Array.getElem?_eq_some_iff.1 h.box).1
theorem SetAt.blk {W : World} {base sb : Nat} {vm vs : Value} {L : List X} (h : SetAt K W base sb vm vs L) {b : Nat} (hb : SetB sb vm vs b) :
    b < W.heap.size ∧ ((∃ cs, W.heap[b]? = some (.cells cs K.bt)) ∨ (∃ es c, W.heap[b]? = some (.map es c)) ∨ ∃ cs, W.heap[b]? = some (.cells cs K.kt)) := by
  rcases hb with rfl | rfl | hb
  · exact ⟨h.lt, Or.inl ⟨_, h.box⟩⟩
  · rcases h.map with ⟨h1, _⟩ | ⟨mb, h1, _, h2⟩
    · cases h1
    · cases h1
      obtain ⟨es, c, h3, _⟩ := h2
      exact ⟨(Array.getElem?_eq_some_iff.1 h3).1, Or.inr (Or.inl ⟨es, c, h3⟩)⟩
  · obtain ⟨_, cur, h2⟩ := own_blk h.row hb
    exact ⟨(Array.getElem?_eq_some_iff.1 h2).1, Or.inr (Or.inr ⟨cur, h2⟩)⟩
theorem SetAt.keep {W W' : World} {base sb : Nat} {vm vs : Value} {L : List X} (h : SetAt K W base sb vm vs L) (hb : ∀ b, SetB sb vm vs b → W'.heap[b]? = W.heap[b]?) : SetAt K W' base sb vm vs L := by
  refine ⟨(hb sb (Or.inl rfl)).trans h.box, ?_, own_congr h.row (fun b hk => hb b (Or.inr (Or.inr hk))), h.nodup, h.oks⟩
  rcases h.map with h1 | ⟨mb, h1, h2, h3⟩
  · exact Or.inl h1
  · exact Or.inr ⟨mb, h1, h2, h3.keep (hb mb (Or.inr (Or.inl h1)))⟩
theorem SetAt.below {W W' : World} {base sb : Nat} {vm vs : Value} {L : List X} (h : SetAt K W base sb vm vs L) (hb : Below W.heap.size W W') : SetAt K W' base sb vm vs L := h.keep fun b hk => hb.block b (h.blk hk).1
theorem SetAt.but {W W' : World} {base sb : Nat} {vm vs : Value} {L : List X} {Y : Nat → Prop} (h : SetAt K W base sb vm vs L) (hb : But Y W W') (hy : ∀ b, SetB sb vm vs b → ¬ Y b) : SetAt K W' base sb vm vs L := h.keep fun b hk => hb.block b (h.blk hk).1 (hy b hk)
theorem setAt_new (W : World) (base : Nat) : SetAt K (W.alloc (.cells #[.map none, .slice none 0 0] K.bt)) base W.heap.size (.map none) (.slice none 0 0) [] :=
  ⟨heap_alloc_new W _, Or.inl ⟨rfl, rfl⟩, World.ownsRow_nil _ _ _ _, by simp, by simp⟩
theorem SetAt.from_ {W : World} {base sb : Nat} {vm vs : Value} {L : List X} (h : SetAt K W base sb vm vs L) {b : Nat} (hb : SetB sb vm vs b) : b = sb ∨ base ≤ b := by
  rcases hb with rfl | rfl | hb
  · exact Or.inl rfl
  · rcases h.map with ⟨h1, _⟩ | ⟨mb, h1, h2, _⟩
    · cases h1
    · cases h1; exact Or.inr h2
  · exact Or.inr (own_blk h.row hb).1
/-- What a call of place leaves. -/
def PlPost (K : KeyT X) (W : World) (base sb : Nat) (vm vs : Value) (L : List X) (x : X) (e : Ending) (W' : World) : Prop :=
  e = .returned (.int .i64 (ix (meet L x) x : Nat)) ∧ ∃ vm' vs', SetAt K W' base sb vm' vs' (meet L x) ∧ But (SetB sb vm vs) W W' ∧ (∀ b, vs'.ownBlock = some b → vs.ownBlock = some b ∨ W.heap.size ≤ b) ∧ ∀ b, vm' = .map (some b) → vm = .map (some b) ∨ W.heap.size ≤ b
theorem meet_old {L : List X} {x : X} (h : x ∈ L) : meet L x = L := by unfold meet; rw [if_pos h]
theorem meet_fresh {L : List X} {x : X} (h : x ∉ L) : meet L x = L ++ [x] := by unfold meet; rw [if_neg h]
theorem SetAt.pushed {W2 W3 : World} {base sb mb : Nat} {vs v' : Value} {L : List X} {x : X} (hne : K.bt ≠ K.kt) (hbox : W2.heap[sb]? = some (.cells #[.map (some mb), vs] K.bt)) (hm : MapK K W2 mb (L ++ [x])) (hmb : base ≤ mb)
    (hrow : W2.ownsRow base K.kt K.size vs L.length (rowK K L)) (hbut : But (fun b => vs.ownBlock = some b) W2 W3) (ho : W3.ownsRow base K.kt K.size v' (L.length + 1) (rowK K L ++ (K.cells x).toList)) (hn : (L ++ [x]).Nodup) (hoks : ∀ y ∈ L ++ [x], K.ok y) :
    SetAt K (W3.setCell ⟨sb, 1, none⟩ v') base sb (.map (some mb)) v' (L ++ [x]) ∧ W3.heap[sb]? = some (.cells #[.map (some mb), vs] K.bt) := by
  have hsb : W3.heap[sb]? = some (.cells #[.map (some mb), vs] K.bt) := by
    rw [hbut.block sb (Array.getElem?_eq_some_iff.1 hbox).1 (fun e => by
      obtain ⟨_, cur, h2⟩ := own_blk hrow e
      rw [hbox] at h2
      simp only [Option.some.injEq, Obj.cells.injEq] at h2
      exact hne h2.2.1)]
    exact hbox
  have hm3 : W3.heap[mb]? = W2.heap[mb]? := hbut.block mb hm.lt (fun e => by
      obtain ⟨_, cur, h2⟩ := own_blk hrow e
      obtain ⟨es, c, h3, _⟩ := hm
      rw [h3] at h2
      cases h2)
  have hmsb : mb ≠ sb := by
    rintro rfl
    obtain ⟨es, c, h3, _⟩ := hm
    rw [h3] at hbox
    cases hbox
  refine ⟨⟨?_, Or.inr ⟨mb, rfl, hmb, hm.keep ((heap_set_other W3 sb 1 _ mb hmsb).trans hm3)⟩, ?_, hn, hoks⟩, hsb⟩
  · have := blk_setk hsb 1 v'
    simpa using this
  · rw [List.length_append, List.length_singleton, rowK_snoc]
    refine own_congr ho (fun b hk => heap_set_other W3 sb 1 _ b ?_)
    rintro rfl
    obtain ⟨_, c1, h3⟩ := own_blk ho hk
    rw [hsb] at h3
    simp only [Option.some.injEq, Obj.cells.injEq] at h3
    exact hne h3.2.1
end
end Go.Proofs.YtmnfioghhdgciaaDoor
