import Derived.Test.YtoinajfliogcdaaDoorNearJ04
import Derived.Test.YtoinajfliogcdaaDoorProg
import Derived.Test.YtoinajfliogcdaaDoorNearJ00
import Derived.WalkKit
import Derived.WalkLawsBesides
import Derived.BigQuiet
namespace Go.Proofs.YtoinajfliogcdaaDoor
open Go
set_option linter.unusedVariables false

structure Kaut (X : Type) where
 step : X → Nat → X
 fin : X → Bool
section
variable {X Y : Type}
def Kaut.acc (K : Kaut X) : X → List Nat → Bool
 | x, [] => K.fin x
 | x, a :: w => K.acc (K.step x a) w
def Kaut.lang (K : Kaut X) (S : Nat) (x : X) : Lang := fun w => w.all (fun a => decide (a < S)) && K.acc x w
def Kaut.nexts (K : Kaut X) (S : Nat) (x : X) : List X := (List.range S).map (K.step x)
theorem Kaut.lang_run {K : Kaut X} {m : Nat} : ∀ (w : List Nat) (x : X), (∀ a ∈ w, a ≤ m) → K.lang (m + 1) (w.foldl K.step x) = w.foldl toL (K.lang (m + 1) x)
 | [], _, _ => rfl
 | a :: w, x, h => by
  have ha : a < m + 1 := by have := h a (by simp); omega
  rw [List.foldl_cons, List.foldl_cons, Kaut.lang_run w _ (fun b hb => h b (by simp [hb]))]
  congr 1
  funext v
  simp [toL, Kaut.lang, Kaut.acc, ha]
theorem Kaut.lang_map {K : Kaut X} {M : Kaut Y} {S : Nat} (g : X → Y) (P : X → Prop) (hP : ∀ x, P x → ∀ a, a < S → P (K.step x a)) (hs : ∀ x, P x → ∀ a, a < S → g (K.step x a) = M.step (g x) a) (hf : ∀ x, P x → K.fin x = M.fin (g x)) : ∀ x, P x → K.lang S x = M.lang S (g x) := by
 intro x hx
 funext w
 unfold Kaut.lang
 by_cases hw : ∀ a ∈ w, a < S
 ·congr 1
  induction w generalizing x with
  | nil => exact hf x hx
  | cons a w ih =>
   have ha := hw a (by simp)
   show K.acc (K.step x a) w = M.acc (M.step (g x) a) w
   rw [← hs x hx a ha]
   exact ih _ (hP x hx a ha) (fun b hb => hw b (by simp [hb]))
 ·have : w.all (fun a => decide (a < S)) = false := by
   rw [Bool.eq_false_iff]
   intro hc
   exact hw fun a ha => by simpa using List.all_eq_true.1 hc a ha
  rw [this]; rfl
end
section
variable {X : Type} [DecidableEq X]
def Kaut.aut (K : Kaut X) (Z : List X) (x0 : X) : Aut := ⟨fun q => K.fin (Z.getD q x0), fun q a => ix Z (K.step (Z.getD q x0) a)⟩
theorem Kaut.next_mem {K : Kaut X} {S : Nat} {x0 : X} {Z : List X} (h : IsBfs (K.nexts S) x0 Z) {q a : Nat} (hq : q < Z.length) (ha : a < S) : K.step (Z.getD q x0) a ∈ Z := by
 have h1 : Z.getD q x0 ∈ Z := by rw [List.getD_eq_getElem?_getD, List.getElem?_eq_getElem hq, Option.getD_some]; exact List.getElem_mem hq
 exact h.closed _ h1 _ (List.mem_map.2 ⟨a, List.mem_range.2 ha, rfl⟩)
theorem Kaut.shut {K : Kaut X} {S : Nat} {x0 : X} {Z : List X} (h : IsBfs (K.nexts S) x0 Z) : Shut (K.aut Z x0) S Z.length := fun q a hq ha => ix_lt (K.next_mem h hq ha)
theorem Kaut.nx_at {K : Kaut X} {S : Nat} {x0 : X} {Z : List X} (h : IsBfs (K.nexts S) x0 Z) {q a : Nat} (hq : q < Z.length) (ha : a < S) : Z.getD ((K.aut Z x0).nx q a) x0 = K.step (Z.getD q x0) a := by
 have := ix_at (K.next_mem h hq ha)
 show Z.getD (ix Z _) x0 = _
 rw [List.getD_eq_getElem?_getD, this]
 rfl
theorem Kaut.acc_at {K : Kaut X} {S : Nat} {x0 : X} {Z : List X} (h : IsBfs (K.nexts S) x0 Z) : ∀ (w : List Nat) (q : Nat), q < Z.length → (∀ a ∈ w, a < S) → (K.aut Z x0).acc q w = K.acc (Z.getD q x0) w
 | [], q, _, _ => rfl
 | a :: w, q, hq, hw => by
  have ha := hw a (by simp)
  show (K.aut Z x0).acc ((K.aut Z x0).nx q a) w = K.acc (K.step (Z.getD q x0) a) w
  rw [Kaut.acc_at h w _ (K.shut h q a hq ha) (fun b hb => hw b (by simp [hb])), K.nx_at h hq ha]
theorem Kaut.lang_at {K : Kaut X} {S : Nat} {x0 : X} {Z : List X} (h : IsBfs (K.nexts S) x0 Z) {q : Nat} (hq : q < Z.length) : (K.aut Z x0).lang S q = K.lang S (Z.getD q x0) := by
 funext w
 unfold Aut.lang Kaut.lang
 by_cases hw : ∀ a ∈ w, a < S
 ·rw [K.acc_at h w q hq hw]
 ·have : w.all (fun a => decide (a < S)) = false := by
   rw [Bool.eq_false_iff]
   intro hc
   exact hw fun a ha => by simpa using List.all_eq_true.1 hc a ha
  rw [this]; rfl
theorem Kaut.lang_zero {K : Kaut X} {S : Nat} {x0 : X} {Z : List X} (h : IsBfs (K.nexts S) x0 Z) : (K.aut Z x0).lang S 0 = K.lang S x0 := by
 obtain ⟨h1, h2⟩ := List.getElem?_eq_some_iff.1 h.head
 rw [K.lang_at h h1, List.getD_eq_getElem?_getD, h.head]
 rfl
theorem Kaut.reached {K : Kaut X} {m : Nat} {x0 : X} {Z : List X} (h : IsBfs (K.nexts (m + 1)) x0 Z) : ∀ x ∈ Z, ∃ w : List Nat, (∀ a ∈ w, a ≤ m) ∧ x = w.foldl K.step x0 := by
 refine h.all (fun x => ∃ w : List Nat, (∀ a ∈ w, a ≤ m) ∧ x = w.foldl K.step x0) ⟨[], by simp, rfl⟩ ?_
 rintro x ⟨w, hw, rfl⟩ y hy
 obtain ⟨a, ha, rfl⟩ := List.mem_map.1 hy
 refine ⟨w ++ [a], fun b hb => ?_, by rw [List.foldl_append]; rfl⟩
 rcases List.mem_append.1 hb with h1 | h1
 ·exact hw b h1
 ·rw [List.mem_singleton.1 h1]; have := List.mem_range.1 ha; omega
theorem Kaut.many {K : Kaut X} {m : Nat} {ls : List Int} {x0 : X} {Z : List X} {D : List PSt} (h : IsBfs (K.nexts (m + 1)) x0 Z) (hD : sysL.Least m ls (K.lang (m + 1) x0) D) {κ : Nat → Nat} (hc : Coarse (K.aut Z x0) (m + 1) Z.length κ) {c : Nat} (ho : ∀ y, y < c → ∃ q, q < Z.length ∧ κ q = y) : c ≤ D.length + 1 := by
 have hx : ∃ f : Nat → Nat, ∀ y, y < c → f y < Z.length ∧ κ (f y) = y := by
  refine ⟨fun y => open Classical in if hh : ∃ q, q < Z.length ∧ κ q = y then Classical.choose hh else 0, fun y hy => ?_⟩
  have hh := ho y hy
  simp only [dif_pos hh]
  exact Classical.choose_spec hh
 obtain ⟨f, hf⟩ := hx
 have h1 := least_many hD ((List.range c).map fun y => (K.aut Z x0).lang (m + 1) (f y)) (by
  rw [List.Nodup, List.pairwise_map]
  refine List.Pairwise.imp_of_mem ?_ (List.nodup_range (n := c))
  intro a b ha hb hab e
  have ha' := hf a (List.mem_range.1 ha)
  have hb' := hf b (List.mem_range.1 hb)
  exact hab (by rw [← ha'.2, ← hb'.2]; exact hc _ _ ha'.1 hb'.1 e)) (by
  intro L hL
  obtain ⟨y, hy, rfl⟩ := List.mem_map.1 hL
  have hy' := (hf y (List.mem_range.1 hy)).1
  have hm : Z.getD (f y) x0 ∈ Z := by rw [List.getD_eq_getElem?_getD, List.getElem?_eq_getElem hy', Option.getD_some]; exact List.getElem_mem hy'
  obtain ⟨w, hw, he⟩ := K.reached h _ hm
  refine ⟨w, hw, ?_⟩
  rw [K.lang_at h hy', he, K.lang_run w x0 hw])
 simpa using h1
end

def RiseZ (l : List Int) : Prop := l.Pairwise (· < ·)
theorem rise_uniq : ∀ (l l' : List Int), RiseZ l → RiseZ l' → (∀ x, x ∈ l ↔ x ∈ l') → l = l'
 | [], [], _, _, _ => rfl
 | [], b :: u, _, _, h => absurd ((h b).2 (by simp)) (by simp)
 | a :: t, [], _, _, h => absurd ((h a).1 (by simp)) (by simp)
 | a :: t, b :: u, h1, h2, h => by
  obtain ⟨h3, h4⟩ := List.pairwise_cons.1 h1
  obtain ⟨h5, h6⟩ := List.pairwise_cons.1 h2
  have e : a = b := by
   rcases List.mem_cons.1 ((h a).1 (by simp)) with e | e
   ·exact e
   ·rcases List.mem_cons.1 ((h b).2 (by simp)) with e' | e'
    ·exact e'.symm
    ·have := h3 b e'; have := h5 a e; omega
  subst e
  rw [rise_uniq t u h4 h6 fun x => ?_]
  constructor
  ·intro hx
   have := h3 x hx
   rcases List.mem_cons.1 ((h x).1 (by simp [hx])) with e | e
   ·omega
   ·exact e
  ·intro hx
   have := h5 x hx
   rcases List.mem_cons.1 ((h x).2 (by simp [hx])) with e | e
   ·omega
   ·exact e
end Go.Proofs.YtoinajfliogcdaaDoor

namespace Go.Proofs.YtoinajfliogcdaaDoor
open Go Go.RowKit
set_option linter.unusedVariables false
set_option maxRecDepth 100000

theorem Tryd.infoArcD : (Tryd.prog.info? 97).map (fun i => (i.zero, i.size, i.bytes)) = some (some (.agg #[.int .i64 0, .int .i64 0]), 2, 16) := by kernel_rfl
theorem Tryd.infoStD : (Tryd.prog.info? 95).map (fun i => (i.zero, i.size, i.bytes)) = some (some (.agg #[.bool false, .slice none 0 0, .int .i64 0]), 3, 40) := by kernel_rfl
def arcCells (l : List (Int × Int)) : List Value := l.flatMap fun a => [.int .i64 a.1, .int .i64 a.2]
theorem arcCells_snoc (l : List (Int × Int)) (a : Int × Int) : arcCells (l ++ [a]) = arcCells l ++ [.int .i64 a.1, .int .i64 a.2] := by simp [arcCells]
abbrev MSt := Value × PSt
def stCells (l : List MSt) : List Value := l.flatMap fun s => [.bool s.2.1, s.1, .int .i64 s.2.2.2]
theorem stCells_snoc (l : List MSt) (s : MSt) : stCells (l ++ [s]) = stCells l ++ [.bool s.2.1, s.1, .int .i64 s.2.2.2] := by simp [stCells]
def ApartV (u v : Value) : Prop := u.ownBlock = none ∨ u.ownBlock ≠ v.ownBlock
structure DfaM (W : World) (base : Nat) (v : Value) (l : List MSt) : Prop where
 row : W.ownsRow base 95 3 v l.length (stCells l)
 arcs : ∀ s ∈ l, W.ownsRow base 97 2 s.1 s.2.2.1.length (arcCells s.2.2.1)
 apart : l.Pairwise fun s t => ApartV s.1 t.1
theorem DfaM.nil (W : World) (base : Nat) : DfaM W base (.slice none 0 0) [] := ⟨World.ownsRow_nil _ _ _ _, fun s hs => by simp at hs, List.Pairwise.nil⟩
theorem DfaM.congr {W W' : World} {base : Nat} {v : Value} {l : List MSt} (h : DfaM W base v l) (hb : ∀ (b : Nat) (cs : Array Value) (t : TypeId), (t = 95 ∨ t = 97) → (v.ownBlock = some b ∨ ∃ s ∈ l, s.1.ownBlock = some b) → W.heap[b]? = some (.cells cs t) → W'.heap[b]? = some (.cells cs t)) : DfaM W' base v l := by
 refine ⟨own_congr h.row (fun b hk => ?_), fun s hs => own_congr (h.arcs s hs) (fun b hk => ?_), h.apart⟩
 ·obtain ⟨_, cur, h2⟩ := own_blk h.row hk
  rw [hb b cur _ (Or.inl rfl) (Or.inl hk) h2, h2]
 ·obtain ⟨_, cur, h2⟩ := own_blk (h.arcs s hs) hk
  rw [hb b cur _ (Or.inr rfl) (Or.inr ⟨s, hs, hk⟩) h2, h2]
theorem DfaM.below {W W' : World} {base : Nat} {v : Value} {l : List MSt} (h : DfaM W base v l) (hb : Below W.heap.size W W') : DfaM W' base v l := h.congr fun b cs t _ _ hh => blko hh hb
structure CurM (W : World) (base : Nat) (v : Value) (l : List MSt) (sb : Nat) (va : Value) (f : Bool) (rs : List (Int × Int)) (e : Int) : Prop where
 dfa : DfaM W base v l
 box : W.heap[sb]? = some (.cells #[.bool f, va, .int .i64 e] 95)
 arcs : W.ownsRow base 97 2 va rs.length (arcCells rs)
 apart : ∀ s ∈ l, ApartV s.1 va
 off : v.ownBlock ≠ some sb
 from_ : base ≤ sb
theorem DfaM.start {W : World} {base : Nat} {v : Value} {l : List MSt} (h : DfaM W base v l) (hbase : base ≤ W.heap.size) (f : Bool) (e : Int) : CurM (W.alloc (.cells #[.bool f, .slice none 0 0, .int .i64 e] 95)) base v l W.heap.size (.slice none 0 0) f [] e := by
 refine ⟨h.below ((Below.refl _ _).alloc (Nat.le_refl _) _), heap_alloc_new _ _, World.ownsRow_nil _ _ _ _, fun s _ => ?_, ?_, hbase⟩
 ·unfold ApartV
  cases s.1.ownBlock with
  | none => exact Or.inl rfl
  | some k => exact Or.inr (by simp [Value.ownBlock])
 ·intro e'
  have := (Array.getElem?_eq_some_iff.1 (own_blk h.row e').2.choose_spec).1
  omega
theorem CurM.congr {W W' : World} {base : Nat} {v : Value} {l : List MSt} {sb : Nat} {va : Value} {f : Bool} {rs : List (Int × Int)} {e : Int} (h : CurM W base v l sb va f rs e) (hb : ∀ (b : Nat) (cs : Array Value) (t : TypeId), (t = 95 ∨ t = 97) → W.heap[b]? = some (.cells cs t) → W'.heap[b]? = some (.cells cs t)) : CurM W' base v l sb va f rs e := by
 refine ⟨h.dfa.congr fun b cs t ht _ hh => hb b cs t ht hh, hb _ _ _ (Or.inl rfl) h.box, own_congr h.arcs (fun b hk => ?_), h.apart, h.off, h.from_⟩
 obtain ⟨_, cur, h2⟩ := own_blk h.arcs hk
 rw [hb b cur _ (Or.inr rfl) h2, h2]
theorem CurM.arc {W W1 : World} {base : Nat} {v : Value} {l : List MSt} {sb : Nat} {va va' : Value} {f : Bool} {rs : List (Int × Int)} {e : Int} {a : Int × Int} (h : CurM W base v l sb va f rs e) (hb : But (fun b => va.ownBlock = some b) W W1) (ho : W1.ownsRow base 97 2 va' (rs.length + 1) (arcCells rs ++ [.int .i64 a.1, .int .i64 a.2])) (hat : ∀ b, va'.ownBlock = some b → va.ownBlock = some b ∨ W.heap.size ≤ b) :
  CurM (W1.setCell ⟨sb, 1, none⟩ va') base v l sb va' f (rs ++ [a]) e ∧ W1.heap[sb]? = some (.cells #[.bool f, va, .int .i64 e] 95) := by
 have hsb : W1.heap[sb]? = some (.cells #[.bool f, va, .int .i64 e] 95) := by
  rw [hb.block sb (Array.getElem?_eq_some_iff.1 h.box).1 (fun e' => by
   obtain ⟨_, cur, h2⟩ := own_blk h.arcs e'
   rw [h.box] at h2
   simp only [Option.some.injEq, Obj.cells.injEq] at h2
   exact absurd h2.2.1 (by decide))]
  exact h.box
 have far : ∀ s ∈ l, ApartV s.1 va' := by
  intro s hs
  unfold ApartV
  cases hu : s.1.ownBlock with
  | none => exact Or.inl rfl
  | some k =>
   refine Or.inr ?_
   intro e'
   rcases hat k e'.symm with h1 | h1
   ·rcases h.apart s hs with h2 | h2
    ·rw [hu] at h2; cases h2
    ·exact h2 (hu.trans h1.symm)
   ·have := (Array.getElem?_eq_some_iff.1 (own_blk (h.dfa.arcs s hs) hu).2.choose_spec).1
    omega
 refine ⟨⟨?_, ?_, ?_, far, h.off, h.from_⟩, hsb⟩
 ·refine h.dfa.congr fun b cs t ht hk hh => ?_
  have h1 : W1.heap[b]? = some (.cells cs t) := by
   rw [hb.block b (Array.getElem?_eq_some_iff.1 hh).1 (fun e' => by
    rcases hk with hk | ⟨s, hs, hk⟩
    ·obtain ⟨_, c1, h1⟩ := own_blk h.dfa.row hk
     obtain ⟨_, c2, h2⟩ := own_blk h.arcs e'
     rw [h1] at h2
     simp only [Option.some.injEq, Obj.cells.injEq] at h2
     exact absurd h2.2.1 (by decide)
    ·rcases h.apart s hs with h2 | h2
     ·rw [hk] at h2; cases h2
     ·exact h2 (hk.trans e'.symm))]
   exact hh
  rw [heap_set_other W1 sb 1 _ b (by
   rintro rfl
   rcases hk with hk | ⟨s, hs, hk⟩
   ·exact h.off hk
   ·obtain ⟨_, c1, h3⟩ := own_blk (h.dfa.arcs s hs) hk
    rw [h.box] at h3
    simp only [Option.some.injEq, Obj.cells.injEq] at h3
    exact absurd h3.2.1 (by decide))]
  exact h1
 ·have := blk_setk hsb 1 va'
  simpa using this
 ·rw [List.length_append, List.length_singleton, arcCells_snoc]
  refine own_congr ho (fun b hk => heap_set_other W1 sb 1 _ b ?_)
  rintro rfl
  obtain ⟨_, c1, h3⟩ := own_blk ho hk
  rw [hsb] at h3
  simp only [Option.some.injEq, Obj.cells.injEq] at h3
  exact absurd h3.2.1 (by decide)
theorem CurM.push {W W1 : World} {base : Nat} {v v' : Value} {l : List MSt} {sb : Nat} {va : Value} {f : Bool} {rs : List (Int × Int)} {e : Int} (h : CurM W base v l sb va f rs e) (hb : But (fun b => v.ownBlock = some b) W W1) (ho : W1.ownsRow base 95 3 v' (l.length + 1) (stCells l ++ [.bool f, va, .int .i64 e])) : DfaM W1 base v' (l ++ [(va, f, rs, e)]) := by
 have key : ∀ (u : Value) (n : Nat) (xs : List Value), W.ownsRow base 97 2 u n xs → W1.ownsRow base 97 2 u n xs := by
  intro u n xs hu
  refine own_congr hu (fun b hk => hb.block b (Array.getElem?_eq_some_iff.1 (own_blk hu hk).2.choose_spec).1 (fun e' => ?_))
  obtain ⟨_, c1, h1⟩ := own_blk hu hk
  obtain ⟨_, c2, h2⟩ := own_blk h.dfa.row e'
  rw [h1] at h2
  simp only [Option.some.injEq, Obj.cells.injEq] at h2
  exact absurd h2.2.1 (by decide)
 refine ⟨?_, fun s hs => ?_, ?_⟩
 ·rw [List.length_append, List.length_singleton, stCells_snoc]; exact ho
 ·rcases List.mem_append.1 hs with h1 | h1
  ·exact key _ _ _ (h.dfa.arcs s h1)
  ·rw [List.mem_singleton.1 h1]; exact key _ _ _ h.arcs
 ·rw [List.pairwise_append]
  refine ⟨h.dfa.apart, by simp, fun s hs t ht => ?_⟩
  rw [List.mem_singleton.1 ht]; exact h.apart s hs
theorem wp_pushk {W : World} {ops : Array Oper} {rest : List Oper} {o : Oper} {a : Act} {Q : Exit → Act → World → Prop} (hgd : o.guard = none) (s x : Operand) (t e : TypeId)
  (ho : o.op = .call { callee := .builtin .append, args := #[s, x], argTypes := #[t, t] }) (i : TypeInfo) (z : Value) (size bytes : Nat) (ht : Tryd.prog.underlying t = some (.slice e)) (hi : Tryd.prog.info? e = some i) (hz : i.zero = some z) (hsize : i.size = size) (hby : i.bytes = bytes) (hzs : z.cells.size = size) (hsz : 0 < size)
  (base : Nat) (v : Value) (n : Nat) (xs : List Value) (hs : a.eval s = v) (hown : W.ownsRow base e size v n xs) (ys : Array Value) (hys : ys.size = size) (hy : ∀ y ∈ ys.toList, y.oneCell' = true) (hx : a.eval x = .slice (some ⟨W.heap.size, 0, none⟩) 1 1) (hb : (n + 1) * bytes ≤ 140737488355328) (hby0 : 0 < bytes) (hbase : base ≤ W.heap.size)
  (h : ∀ v' w', w'.ownsRow base e size v' (n + 1) (xs ++ ys.toList) → But (fun b => v.ownBlock = some b) W w' → (∀ b, v'.ownBlock = some b → v.ownBlock = some b ∨ W.heap.size ≤ b) → v' ≠ .slice none 0 0 → wpList Tryd.prog ops Q rest (a.put o.dst v') w') :
  wpList Tryd.prog ops Q (o :: rest) a (W.alloc (.cells ys e)) := by
 have hn : n + 1 ≤ 140737488355328 := Nat.le_trans (Nat.le_mul_of_pos_right (n + 1) hby0) hb
 refine wpList_append_own_at _ hgd s x t ho base e i z size bytes ht hi hz hsize hby hzs hsz v n xs hs (hown.alloc _) ⟨W.heap.size, 0, none⟩ 1 1 ys.toList hx (by simp [hys]) ?_ hy (by unfold maxLen; omega) hb (by simp; omega) ?_
 ·intro j u hj
  rw [add_head, blkc (heap_alloc_new W (.cells ys e)) j]
  simpa using hj
 ·intro v' w' h1 h2 h3 h4
  refine h v' w' h1 ?_ ?_ ?_
  ·refine ⟨h2.os, h2.tape, h2.output, by have := h2.size; simp at this; omega, fun b hb hn => ?_⟩
   rw [h2.block b (by simp; omega) (fun e => hn e.symm), Below.heap_alloc _ _ _ hb]
  ·intro b hb
   rcases h4 with h5 | h5
   ·exact Or.inl (h5 ▸ hb)
   ·rw [h5] at hb
    cases hb
    exact Or.inr (by simp)
  ·intro e
   have := (h3.1 e).2
   cases this
section
variable {X : Type} [DecidableEq X]
theorem num_pre {T : Sys X} {o r : List X} {y : X} (h : y ∈ o ∨ T.dead y = true) : T.num (o ++ r) y = T.num o y := by
 unfold Sys.num
 by_cases hd : T.dead y = true
 ·rw [if_pos hd, if_pos hd]
 ·rw [if_neg hd, if_neg hd, ix_pre (h.resolve_right hd)]
def meetD (T : Sys X) (o : List X) (y : X) : List X := if T.dead y = true then o else meet o y
theorem meetD_mem (T : Sys X) (o : List X) (y : X) : y ∈ meetD T o y ∨ T.dead y = true := by
 unfold meetD
 by_cases hd : T.dead y = true
 ·exact Or.inr hd
 ·rw [if_neg hd]; exact Or.inl (meet_mem.2 (Or.inr rfl))
theorem meetD_pre (T : Sys X) (o : List X) (y : X) : ∃ r, meetD T o y = o ++ r := by
 unfold meetD
 split
 ·exact ⟨[], by simp⟩
 ·exact meet_pre o y
theorem meets_filter (T : Sys X) (l : List X) : ∀ (o : List X), meets o (l.filter fun y => !T.dead y) = l.foldl (meetD T) o := by
 induction l with
 | nil => intro o; rfl
 | cons y l ih =>
  intro o
  rw [List.foldl_cons, ← ih]
  unfold meetD
  cases hd : T.dead y with
  | true => simp [hd]
  | false => simp [hd, meets]
def toldTo (T : Sys X) (m : Nat) (x : X) (k : Nat) : List Nat := (List.range k).filter fun a => decide (T.gto x a ≠ T.gto x m)
theorem toldTo_succ (T : Sys X) (m : Nat) (x : X) (k : Nat) : toldTo T m x (k + 1) = if T.gto x k = T.gto x m then toldTo T m x k else toldTo T m x k ++ [k] := by
 unfold toldTo
 rw [List.range_succ, List.filter_append]
 by_cases h : T.gto x k = T.gto x m <;> simp [h]
def ordTo (T : Sys X) (m : Nat) (x : X) (o : List X) (k : Nat) : List X := ((toldTo T m x k).map (T.gto x)).foldl (meetD T) o
theorem ordTo_succ (T : Sys X) (m : Nat) (x : X) (o : List X) (k : Nat) : ordTo T m x o (k + 1) = if T.gto x k = T.gto x m then ordTo T m x o k else meetD T (ordTo T m x o k) (T.gto x k) := by
 unfold ordTo
 rw [toldTo_succ]
 split
 ·rfl
 ·rw [List.map_append, List.foldl_append]; rfl
theorem ordTo_all (T : Sys X) (m : Nat) (x : X) (o : List X) : meetD T (ordTo T m x o m) (T.gto x m) = meets o (T.nexts m x) := by
 unfold Sys.nexts
 rw [meets_filter, List.foldl_append]
 rfl
def arcsTo (T : Sys X) (m : Nat) (ls : List Int) (o : List X) (x : X) (k : Nat) : List (Int × Int) := (toldTo T m x k).map fun a => (ls.getD a 0, T.num o (T.gto x a))
theorem ordTo_known (T : Sys X) (m : Nat) (x : X) (o : List X) : ∀ (k : Nat), ∀ a ∈ toldTo T m x k, T.gto x a ∈ ordTo T m x o k ∨ T.dead (T.gto x a) = true
 | 0, a, ha => by simp [toldTo] at ha
 | k + 1, a, ha => by
  rw [toldTo_succ] at ha
  rw [ordTo_succ]
  split at ha
  ·rename_i h; rw [if_pos h]; exact ordTo_known T m x o k a ha
  ·rename_i h
   rw [if_neg h]
   obtain ⟨r, hr⟩ := meetD_pre T (ordTo T m x o k) (T.gto x k)
   rcases List.mem_append.1 ha with h1 | h1
   ·rcases ordTo_known T m x o k a h1 with h2 | h2
    ·exact Or.inl (by rw [hr]; exact List.mem_append_left _ h2)
    ·exact Or.inr h2
   ·rw [List.mem_singleton.1 h1]; exact meetD_mem T _ _
theorem arcsTo_pre {T : Sys X} {m : Nat} {ls : List Int} {o r : List X} {x : X} {k : Nat} (h : ∀ a ∈ toldTo T m x k, T.gto x a ∈ o ∨ T.dead (T.gto x a) = true) : arcsTo T m ls (o ++ r) x k = arcsTo T m ls o x k := by
 unfold arcsTo
 exact List.map_congr_left fun a ha => by rw [num_pre (h a ha)]
theorem state_of {T : Sys X} {m : Nat} {ls : List Int} {o : List X} {x : X} : T.state m ls o x = (T.fin x, arcsTo T m ls o x m, T.num o (T.gto x m)) := rfl
theorem state_pre {T : Sys X} {m : Nat} {ls : List Int} {o r : List X} {x : X} (h : ∀ a, a ≤ m → T.gto x a ∈ o ∨ T.dead (T.gto x a) = true) : T.state m ls (o ++ r) x = T.state m ls o x := by
 rw [state_of, state_of, arcsTo_pre (fun a ha => h a (by have := List.mem_range.1 (List.mem_filter.1 ha).1; omega)), num_pre (h m (Nat.le_refl m))]
end
end Go.Proofs.YtoinajfliogcdaaDoor

namespace Go.Proofs.YtoinajfliogcdaaDoor
open Go Go.RowKit

set_option maxHeartbeats 400000 in
theorem charOK_any (r : Int) (w : World) : Calls Tryd.prog 46 #[.int .i64 r] w fun e w' => e = .returned (.bool (chr r)) ∧ w' = w := by
 have hc : chr r = decide (0 ≤ r ∧ r ≤ 1114111 ∧ (r < 55296 ∨ 57343 < r)) := rfl
 by_cases h1 : 0 ≤ r
 ·by_cases h2 : r ≤ 1114111
  ·by_cases h3 : r < 55296
   ·have H : Hid (chr r = true) := by show _ = _; rw [chr_iff]; omega
    clear hc
    go_enter Tryd.func46, Tryd.ntmps46
    go_wp2
    go_ret
    rw [H.out]
    exact ⟨rfl, rfl⟩
   ·by_cases h4 : 57343 < r
    ·have H : Hid (chr r = true) := by show _ = _; rw [chr_iff]; omega
     clear hc
     go_enter Tryd.func46, Tryd.ntmps46
     go_wp2
     go_ret
     rw [H.out]
     exact ⟨rfl, rfl⟩
    ·have H : Hid (chr r = false) := by show _ = _; rw [chr_not]; omega
     clear hc
     go_enter Tryd.func46, Tryd.ntmps46
     go_wp2
     go_ret
     rw [H.out]
     exact ⟨rfl, rfl⟩
  ·have H : Hid (chr r = false) := by show _ = _; rw [chr_not]; omega
   clear hc
   go_enter Tryd.func46, Tryd.ntmps46
   go_wp2
   go_ret
   rw [H.out]
   exact ⟨rfl, rfl⟩
 ·have H : Hid (chr r = false) := by show _ = _; rw [chr_not]; omega
  clear hc
  go_enter Tryd.func46, Tryd.ntmps46
  go_wp2
  go_ret
  rw [H.out]
  exact ⟨rfl, rfl⟩
set_option maxHeartbeats 400000 in
theorem bytes_one (r : Int) (w : World) (h0 : 0 ≤ r) (h1 : r < 128) :
  Calls Tryd.prog 91 #[.int .i64 r] w fun e w' => e = .returned (.slice (some ⟨w.heap.size, 0, none⟩) 1 1) ∧ w' = w.alloc (.cells #[.int .u8 r] 5) := by
 go_enter Tryd.func91, Tryd.ntmps91
 go_wp2
 go_ret
 exact ⟨rfl, rfl⟩
set_option maxHeartbeats 400000 in
theorem bytes_two (r : Int) (w : World) (h0 : 128 ≤ r) (h1 : r < 2048) :
  Calls Tryd.prog 91 #[.int .i64 r] w fun e w' => e = .returned (.slice (some ⟨w.heap.size, 0, none⟩) 2 2) ∧ w' = w.alloc (.cells #[.int .u8 (192 + r / 64), .int .u8 (128 + r % 64)] 5) := by
 go_enter Tryd.func91, Tryd.ntmps91
 go_wp2
 go_ret
 exact ⟨rfl, rfl⟩
set_option maxHeartbeats 400000 in
theorem bytes_three (r : Int) (w : World) (h0 : 2048 ≤ r) (h1 : r < 65536) :
  Calls Tryd.prog 91 #[.int .i64 r] w fun e w' => e = .returned (.slice (some ⟨w.heap.size, 0, none⟩) 3 3) ∧ w' = w.alloc (.cells #[.int .u8 (224 + r / 4096), .int .u8 (128 + r / 64 % 64), .int .u8 (128 + r % 64)] 5) := by
 go_enter Tryd.func91, Tryd.ntmps91
 go_wp2
 go_ret
 exact ⟨rfl, rfl⟩
set_option maxHeartbeats 400000 in
theorem bytes_four (r : Int) (w : World) (h0 : 65536 ≤ r) (h1 : r ≤ 1114111) :
  Calls Tryd.prog 91 #[.int .i64 r] w fun e w' => e = .returned (.slice (some ⟨w.heap.size, 0, none⟩) 4 4) ∧ w' = w.alloc (.cells #[.int .u8 (240 + r / 262144), .int .u8 (128 + r / 4096 % 64), .int .u8 (128 + r / 64 % 64), .int .u8 (128 + r % 64)] 5) := by
 go_enter Tryd.func91, Tryd.ntmps91
 go_wp2
 go_ret
 exact ⟨rfl, rfl⟩
theorem bytes_any (r : Int) (w : World) (h : chr r = true) :
  Calls Tryd.prog 91 #[.int .i64 r] w fun e w' => e = .returned (.slice (some ⟨w.heap.size, 0, none⟩) (Lib.runeCells r).length (Lib.runeCells r).length) ∧ w' = w.alloc (.cells (Lib.runeCells r).toArray 5) := by
 rw [chr_iff] at h
 unfold Lib.runeCells
 by_cases h1 : r < 128
 ·rw [Lib.encodeRuneZ_one h.1 (by omega)]; exact bytes_one r w h.1 h1
 ·by_cases h2 : r < 2048
  ·rw [Lib.encodeRuneZ_two (by omega) (by omega)]; exact bytes_two r w (by omega) h2
  ·by_cases h3 : r < 65536
   ·rw [Lib.encodeRuneZ_three (by omega)]; exact bytes_three r w (by omega) h3
   ·rw [Lib.encodeRuneZ_four (by omega) (by omega)]; exact bytes_four r w (by omega) (by omega)
end Go.Proofs.YtoinajfliogcdaaDoor
