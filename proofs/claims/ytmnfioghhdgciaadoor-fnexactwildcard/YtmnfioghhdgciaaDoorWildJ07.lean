import Derived.Test.YtmnfioghhdgciaaDoorWildJ06
import Derived.Test.YtmnfioghhdgciaaDoorWildJ03
import Derived.Deep.LoopGhost
import Derived.Test.YtmnfioghhdgciaaDoorWildJ04
import Derived.Deep.AppendLies
import Derived.Deep.RegionLaw
import Derived.Test.YtmnfioghhdgciaaDoorWildJ02
namespace Go.Proofs.YtmnfioghhdgciaaDoor
open Go Go.RowKit
set_option linter.unusedVariables false
set_option maxRecDepth 100000

/-! spec.l05Least: the least automaton of a whole one. -/
def LsPost (w : World) (ls : List Int) (fins : List Bool) (nxt : List (List Nat)) (e : Ending) (w' : World) : Prop :=
  ∃ v l, e = .returned (.agg #[v]) ∧ DfaM w' w.heap.size v l ∧ sysL.Least ls.length ls ((autR fins nxt).lang (ls.length + 1) 0) (l.map Prod.snd) ∧ l.length ≤ 4294967296 ∧ Below w.heap.size w w'
/-- The first state of each class. -/
def repL (κ : Nat → Nat) (n c : Nat) (i : Nat) : List Nat := (List.range c).map fun y => ((List.range n).filter fun q => decide (i ≤ q ∧ κ q = y)).headD 0
theorem repL_len (κ : Nat → Nat) (n c i : Nat) : (repL κ n c i).length = c := by simp [repL]
theorem repL_last (κ : Nat → Nat) (n c : Nat) : repL κ n c n = List.replicate c 0 := by
  rw [List.eq_replicate_iff]
  refine ⟨repL_len κ n c n, fun x hx => ?_⟩
  obtain ⟨y, _, rfl⟩ := List.mem_map.1 hx
  have : (List.range n).filter (fun q => decide (n ≤ q ∧ κ q = y)) = [] := by
    rw [List.filter_eq_nil_iff]
    intro q hq
    have := List.mem_range.1 hq
    simp; omega
  rw [this]; rfl
theorem filter_head {n i : Nat} (hi : i < n) (p : Nat → Bool) (h0 : ∀ q, q < i → p q = false) (h1 : p i = true) : ((List.range n).filter p).headD 0 = i := by
  obtain ⟨d, rfl⟩ : ∃ d, n = i + (d + 1) := ⟨n - i - 1, by omega⟩
  have e : (List.range i).filter p = [] := by
    rw [List.filter_eq_nil_iff]
    intro q hq
    rw [h0 q (List.mem_range.1 hq)]; simp
  rw [List.range_add, List.filter_append, e, List.nil_append, List.range_succ_eq_map]
  simp [h1]
theorem repL_step {κ : Nat → Nat} {n c i : Nat} (hi : i < n) (hc : κ i < c) : repL κ n c i = (repL κ n c (i + 1)).set (κ i) i := by
  refine List.ext_getElem? fun y => ?_
  rw [List.getElem?_set, repL_len]
  by_cases hy : y < c
  · by_cases e : κ i = y
    · rw [if_pos e, if_pos hc]
      have := filter_head hi (fun q => decide (i ≤ q ∧ κ q = y)) (fun q hq => by simp; omega) (by simp [e])
      simp only [repL, List.getElem?_map, List.getElem?_range hy, Option.map_some]
      rw [this]
    · rw [if_neg e]
      simp only [repL, List.getElem?_map, List.getElem?_range hy, Option.map_some]
      congr 2
      refine List.filter_congr fun q _ => ?_
      rw [Bool.eq_iff_iff]
      simp only [decide_eq_true_iff]
      constructor
      · rintro ⟨h1, h2⟩
        refine ⟨?_, h2⟩
        by_cases h3 : q = i
        · subst h3; exact absurd h2 e
        · omega
      · rintro ⟨h1, h2⟩; exact ⟨by omega, h2⟩
  · rw [if_neg (by omega)]
    simp [repL, hy]
theorem repL_ok {κ : Nat → Nat} {n c : Nat} (ho : Onto n κ c) {y : Nat} (hy : y < c) : atN (repL κ n c 0) y < n ∧ κ (atN (repL κ n c 0) y) = y := by
  obtain ⟨q, hq, he⟩ := ho.2 y hy
  have hm : q ∈ (List.range n).filter (fun q => decide (0 ≤ q ∧ κ q = y)) := List.mem_filter.2 ⟨List.mem_range.2 hq, by simpa using he⟩
  have hx : atN (repL κ n c 0) y = ((List.range n).filter fun q => decide (0 ≤ q ∧ κ q = y)).headD 0 := by simp [atN, repL, hy]
  rw [hx]
  cases hl : (List.range n).filter (fun q => decide (0 ≤ q ∧ κ q = y)) with
  | nil => rw [hl] at hm; simp at hm
  | cons a t =>
    have : a ∈ (List.range n).filter (fun q => decide (0 ≤ q ∧ κ q = y)) := by rw [hl]; simp
    obtain ⟨h1, h2⟩ := List.mem_filter.1 this
    simp only [List.headD_cons]
    exact ⟨List.mem_range.1 h1, by simpa using h2⟩
/-- The numbers of the classes that were met. -/
def numL (c : Nat) (o : List Nat) : List Int := (List.range c).map fun y => if y ∈ o then (ix o y : Int) else -1
theorem numL_len (c : Nat) (o : List Nat) : (numL c o).length = c := by simp [numL]
theorem numL_at {c : Nat} (o : List Nat) {y : Nat} (hy : y < c) : (numL c o).getD y 0 = if y ∈ o then (ix o y : Int) else -1 := by simp [numL, hy]
theorem numL_push {c : Nat} {o : List Nat} {y : Nat} (hy : y < c) (hn : y ∉ o) : numL c (o ++ [y]) = (numL c o).set y (o.length : Int) := by
  refine List.ext_getElem? fun q => ?_
  rw [List.getElem?_set, numL_len]
  by_cases hq : q < c
  · by_cases e : y = q
    · subst e
      rw [if_pos rfl, if_pos hy]
      simp [numL, hy, ix_new hn]
    · rw [if_neg e]
      simp only [numL, List.getElem?_map, List.getElem?_range hq, Option.map_some]
      by_cases hm : q ∈ o
      · rw [if_pos hm, if_pos (List.mem_append_left _ hm), ix_pre hm]
      · rw [if_neg hm, if_neg (by simp [hm]; exact fun e' => e e'.symm)]
  · rw [if_neg (by omega)]
    simp [numL, hq]
theorem numL_nil (c : Nat) : numL c [] = List.replicate c (-1) := by
  rw [List.eq_replicate_iff]
  refine ⟨numL_len c [], fun x hx => ?_⟩
  obtain ⟨y, _, rfl⟩ := List.mem_map.1 hx
  simp
def minus1 (c i : Nat) : List Int := (List.range c).map fun y => if y < i then -1 else 0
theorem minus1_len (c i : Nat) : (minus1 c i).length = c := by simp [minus1]
theorem minus1_zero (c : Nat) : minus1 c 0 = List.replicate c 0 := by
  rw [List.eq_replicate_iff]
  refine ⟨minus1_len c 0, fun x hx => ?_⟩
  obtain ⟨y, _, rfl⟩ := List.mem_map.1 hx
  simp
theorem minus1_step {c i : Nat} (hi : i < c) : minus1 c (i + 1) = (minus1 c i).set i (-1) := by
  refine List.ext_getElem? fun q => ?_
  rw [List.getElem?_set, minus1_len]
  by_cases hq : q < c
  · by_cases e : i = q
    · subst e
      rw [if_pos rfl, if_pos hi]
      simp [minus1, hi]
    · rw [if_neg e]
      have : (q < i + 1) ↔ (q < i) := by omega
      simp [minus1, hq, this]
  · rw [if_neg (by omega)]
    simp [minus1, hq]
theorem minus1_all (c : Nat) : minus1 c c = numL c [] := by
  rw [numL_nil, List.eq_replicate_iff]
  refine ⟨minus1_len c c, fun x hx => ?_⟩
  obtain ⟨y, hy, rfl⟩ := List.mem_map.1 hx
  have := List.mem_range.1 hy
  simp [this]
end Go.Proofs.YtmnfioghhdgciaaDoor

namespace Go.Proofs.YtmnfioghhdgciaaDoor
open Go Go.RowKit
set_option linter.unusedVariables false
set_option maxRecDepth 100000

theorem step_pushk {W : World} {ops : Array Oper} {o : Oper} {a : Act} {K : Act → World → Prop} {Q : Exit → Act → World → Prop} {E : Prop} (hgd : o.guard = none) (s x : Operand) (t e : TypeId)
    (ho : o.op = .call { callee := .builtin .append, args := #[s, x], argTypes := #[t, t] }) (i : TypeInfo) (z : Value) (size bytes : Nat) (ht : Tryd.prog.underlying t = some (.slice e)) (hi : Tryd.prog.info? e = some i) (hz : i.zero = some z) (hsize : i.size = size) (hby : i.bytes = bytes) (hzs : z.cells.size = size) (hsz : 0 < size)
    (base : Nat) (v : Value) (n : Nat) (xs : List Value) (hs : a.eval s = v) (hown : W.ownsRow base e size v n xs) (ys : Array Value) (hys : ys.size = size) (hy : ∀ y ∈ ys.toList, y.oneCell' = true) (ad : Nat) (had : ad = W.heap.size) (hx : a.eval x = .slice (some ⟨ad, 0, none⟩) 1 1) (hb : (n + 1) * bytes ≤ 140737488355328) (hby0 : 0 < bytes) (hbase : base ≤ W.heap.size)
    (h : ∀ g cap w', w'.ownsRow base e size (.slice (some ⟨g, 0, none⟩) (n + 1) cap) (n + 1) (xs ++ ys.toList) → But (fun b => v.ownBlock = some b) W w' → (∀ b, (Value.slice (some ⟨g, 0, none⟩) (n + 1) cap).ownBlock = some b → v.ownBlock = some b ∨ W.heap.size ≤ b) → K (a.put o.dst (.slice (some ⟨g, 0, none⟩) (n + 1) cap)) w') :
    if Region.wanted o (yielded ops a.tmps) = true then Oper.wp Tryd.prog o a (W.alloc (.cells ys e)) K Q else E := by
  subst had
  have hn : n + 1 ≤ 140737488355328 := Nat.le_trans (Nat.le_mul_of_pos_right (n + 1) hby0) hb
  refine step_append_lies _ hgd s x t ho base e i z size bytes ht hi hz hsize hby hzs hsz v n xs hs (hown.alloc _) ⟨W.heap.size, 0, none⟩ 1 1 ys.toList hx (by simp [hys]) ?_ hy (by omega) (by unfold maxLen; omega) hb (by simp; omega) _ rfl ?_
  · intro j u hj
    rw [add_head, blkc (heap_alloc_new W (.cells ys e)) j]
    simpa using hj
  · intro g cap w' h1 h2 h3 h4
    refine h g cap w' h1 ?_ ?_
    · refine ⟨h2.os, h2.tape, h2.output, by have := h2.size; simp at this; omega, fun b hb hn => ?_⟩
      rw [h2.block b (by simp; omega) (fun e => hn e.symm), Below.heap_alloc _ _ _ hb]
    · intro b hb
      cases hb
      rcases h3 with h5 | h5
      · exact Or.inl h5
      · exact Or.inr (by rw [h5]; simp)
/-- A state that accepts nothing, written over as one. -/
theorem Ls7.reset {w0 W : World} {rb db sb : Nat} {raw : Array Value} {R : RowMap} {v : Value} {l : List MSt} {va : Value} {f : Bool} {rs : List (Int × Int)} {e : Int} (h : Ls7 w0 W rb db sb raw R v l va f rs e) : Ls7 w0 (((W.setCell ⟨sb, 0, none⟩ (.bool false)).setCell ⟨sb, 1, none⟩ (.slice none 0 0)).setCell ⟨sb, 2, none⟩ (.int .i64 (-1))) rb db sb raw R v l (.slice none 0 0) false [] (-1) := by
  have hX : But (fun b => b = sb) W (((W.setCell ⟨sb, 0, none⟩ (.bool false)).setCell ⟨sb, 1, none⟩ (.slice none 0 0)).setCell ⟨sb, 2, none⟩ (.int .i64 (-1))) := (((But.refl (fun b => b = sb) W).set sb 0 _ rfl).set sb 1 _ rfl).set sb 2 _ rfl
  have hk : ∀ (b : Nat), b ≠ sb → (((W.setCell ⟨sb, 0, none⟩ (.bool false)).setCell ⟨sb, 1, none⟩ (.slice none 0 0)).setCell ⟨sb, 2, none⟩ (.int .i64 (-1))).heap[b]? = W.heap[b]? := fun b hb => (heap_set_other _ sb 2 _ b hb).trans ((heap_set_other _ sb 1 _ b hb).trans (heap_set_other W sb 0 _ b hb))
  have hc := h.cur
  refine ⟨h.below.trans (hX.below h.below.size (fun j hj e' => by have := hc.from_; omega)), ?_, ?_, ?_, h.rows.but hX (fun b e' => by subst e'; exact not_int_of h.rows hc.box (by decide)), ⟨?_, ?_, World.ownsRow_nil _ _ _ _, fun s _ => ?_, hc.off, hc.from_⟩, h.from_, h.ne⟩
  · rw [hk _ (blk_ne h.rawb hc.box (by decide))]; exact h.rawb
  · rw [hk _ (blk_ne h.res hc.box (by decide))]; exact h.res
  · rw [hk _ (blk_ne h.dbox hc.box (by decide))]; exact h.dbox
  · refine hc.dfa.congr fun b cs t ht hkk hh => ?_
    rw [hk b (by
      rintro rfl
      rcases hkk with hkk | ⟨s, hs, hkk⟩
      · exact hc.off hkk
      · obtain ⟨_, c1, h3⟩ := own_blk (hc.dfa.arcs s hs) hkk
        exact blk_ne h3 hc.box (by decide) rfl)]
    exact hh
  · have := blk_setk (blk_setk (blk_setk hc.box 0 (.bool false)) 1 (.slice none 0 0)) 2 (.int .i64 (-1))
    simpa using this
  · unfold ApartV
    cases s.1.ownBlock with
    | none => exact Or.inl rfl
    | some k => exact Or.inr (by simp [Value.ownBlock])
/-! The order within a state. -/
section
variable (T : Sys Nat) (m : Nat) (x : Nat) (o : List Nat)
def o7 (k : Nat) : List Nat := if k ≤ m then ordTo T m x o k else meetD T (ordTo T m x o m) (T.gto x m)
def e7 (k : Nat) : Int := if k ≤ m then -1 else T.num (o7 T m x o k) (T.gto x m)
theorem o7_zero : o7 T m x o 0 = o := by simp [o7, ordTo, toldTo]
theorem o7_last : o7 T m x o (m + 1) = meets o (T.nexts m x) := by
  unfold o7
  rw [if_neg (by omega), ordTo_all]
theorem meetD_ok {o : List Nat} {z y : Nat} (ho : ∀ a ∈ o, a < z) (hn : o.Nodup) (hy : y < z) : (∀ a ∈ meetD T o y, a < z) ∧ (meetD T o y).Nodup := by
  unfold meetD
  split
  · exact ⟨ho, hn⟩
  · refine ⟨fun a ha => ?_, meet_nodup hn⟩
    rcases meet_mem.1 ha with h | h
    · exact ho a h
    · omega
end
variable {T : Sys Nat} {m x : Nat} {o : List Nat}
theorem ordTo_ok {z : Nat} (ho : ∀ a ∈ o, a < z) (hn : o.Nodup) (ht : ∀ k, k ≤ m → T.gto x k < z) : ∀ k, k ≤ m → (∀ a ∈ ordTo T m x o k, a < z) ∧ (ordTo T m x o k).Nodup
  | 0, _ => by simpa [ordTo, toldTo] using ⟨ho, hn⟩
  | k + 1, hk => by
    obtain ⟨h1, h2⟩ := ordTo_ok ho hn ht k (by omega)
    rw [ordTo_succ]
    split
    · exact ⟨h1, h2⟩
    · exact meetD_ok T h1 h2 (ht k (by omega))
theorem o7_ok {z : Nat} (ho : ∀ a ∈ o, a < z) (hn : o.Nodup) (ht : ∀ k, k ≤ m → T.gto x k < z) (k : Nat) : (∀ a ∈ o7 T m x o k, a < z) ∧ (o7 T m x o k).Nodup := by
  unfold o7
  split
  · rename_i h; exact ordTo_ok ho hn ht k h
  · obtain ⟨h1, h2⟩ := ordTo_ok ho hn ht m (Nat.le_refl m)
    exact meetD_ok T h1 h2 (ht m (Nat.le_refl m))
/-- A symbol that goes where the others go. -/
theorem o7_same {k : Nat} (hk : k < m) (h : T.gto x k = T.gto x m) (ls : List Int) : o7 T m x o (k + 1) = o7 T m x o k ∧ arcsTo T m ls (o7 T m x o (k + 1)) x (k + 1) = arcsTo T m ls (o7 T m x o k) x k := by
  have e : o7 T m x o (k + 1) = o7 T m x o k := by
    unfold o7
    rw [if_pos (show k + 1 ≤ m by omega), if_pos (show k ≤ m by omega), ordTo_succ, if_pos h]
  refine ⟨e, ?_⟩
  rw [e]
  unfold arcsTo
  rw [toldTo_succ, if_pos h]
/-- A symbol with an arc. -/
theorem o7_arc {k : Nat} (hk : k < m) (h : T.gto x k ≠ T.gto x m) (ls : List Int) : o7 T m x o (k + 1) = meetD T (o7 T m x o k) (T.gto x k) ∧ arcsTo T m ls (o7 T m x o (k + 1)) x (k + 1) = arcsTo T m ls (o7 T m x o k) x k ++ [(ls.getD k 0, T.num (o7 T m x o (k + 1)) (T.gto x k))] := by
  have e : o7 T m x o (k + 1) = meetD T (o7 T m x o k) (T.gto x k) := by
    unfold o7
    rw [if_pos (show k + 1 ≤ m by omega), if_pos (show k ≤ m by omega), ordTo_succ, if_neg h]
  refine ⟨e, ?_⟩
  obtain ⟨r, hr⟩ := meetD_pre T (o7 T m x o k) (T.gto x k)
  have hkn : ∀ a ∈ toldTo T m x k, T.gto x a ∈ o7 T m x o k ∨ T.dead (T.gto x a) = true := by
    unfold o7
    rw [if_pos (show k ≤ m by omega)]
    exact ordTo_known T m x o k
  have e2 := arcsTo_pre (ls := ls) (r := r) hkn
  rw [← hr, ← e] at e2
  rw [← e2]
  unfold arcsTo
  rw [toldTo_succ, if_neg h, List.map_append]
  rfl
/-- All others. -/
theorem o7_els (ls : List Int) : o7 T m x o (m + 1) = meetD T (o7 T m x o m) (T.gto x m) ∧ arcsTo T m ls (o7 T m x o (m + 1)) x m = arcsTo T m ls (o7 T m x o m) x m := by
  have e : o7 T m x o (m + 1) = meetD T (o7 T m x o m) (T.gto x m) := by
    unfold o7
    rw [if_neg (by omega), if_pos (Nat.le_refl m)]
  refine ⟨e, ?_⟩
  obtain ⟨r, hr⟩ := meetD_pre T (o7 T m x o m) (T.gto x m)
  have hkn : ∀ a ∈ toldTo T m x m, T.gto x a ∈ o7 T m x o m ∨ T.dead (T.gto x a) = true := by
    unfold o7
    rw [if_pos (Nat.le_refl m)]
    exact ordTo_known T m x o m
  have e2 := arcsTo_pre (ls := ls) (r := r) hkn
  rw [← hr, ← e] at e2
  exact e2
/-- A class that accepts nothing has no arcs. -/
theorem state_dead {ls : List Int} {q : List Nat} (hf : T.fin x = false) (ht : ∀ a, a ≤ m → T.gto x a = x) (hd : T.dead x = true) : T.fin x = false ∧ arcsTo T m ls q x m = [] ∧ T.num q (T.gto x m) = -1 := by
  refine ⟨hf, ?_, ?_⟩
  · unfold arcsTo toldTo
    have : (List.range m).filter (fun a => decide (T.gto x a ≠ T.gto x m)) = [] := by
      rw [List.filter_eq_nil_iff]
      intro a ha
      have := List.mem_range.1 ha
      rw [ht a (by omega), ht m (Nat.le_refl m)]
      simp
    rw [this]; rfl
  · rw [ht m (Nat.le_refl m)]
    unfold Sys.num
    rw [if_pos hd]
/-- The states told so far, when the order has gone on. -/
theorem told_more {ls : List Int} {i : Nat} {D : List PSt} (hx : o[i]? = some x) (hD : D = (o.take i).map (T.state m ls o)) (hk : ∀ y ∈ o.take i, ∀ a, a ≤ m → T.gto y a ∈ o ∨ T.dead (T.gto y a) = true) :
    D ++ [T.state m ls (o7 T m x o (m + 1)) x] = ((o7 T m x o (m + 1)).take (i + 1)).map (T.state m ls (o7 T m x o (m + 1))) ∧ (∀ y ∈ (o7 T m x o (m + 1)).take (i + 1), ∀ a, a ≤ m → T.gto y a ∈ o7 T m x o (m + 1) ∨ T.dead (T.gto y a) = true) ∧ (o7 T m x o (m + 1))[i]? = some x ∧ i + 1 ≤ (o7 T m x o (m + 1)).length := by
  have h7 : (∀ a, a ≤ m → T.gto x a ∈ o7 T m x o (m + 1) ∨ T.dead (T.gto x a) = true) ∧ ∃ r, o7 T m x o (m + 1) = o ++ r := by
    refine ⟨fun a ha => ?_, by rw [o7_last]; exact meets_pre _ _⟩
    rw [o7_last]
    by_cases hd : T.dead (T.gto x a) = true
    · exact Or.inr hd
    · refine Or.inl (meets_mem.2 (Or.inr (List.mem_filter.2 ⟨?_, by simp [hd]⟩)))
      by_cases e : T.gto x a = T.gto x m
      · rw [e]; exact List.mem_append_right _ (by simp)
      · refine List.mem_append_left _ (List.mem_map.2 ⟨a, List.mem_filter.2 ⟨List.mem_range.2 ?_, decide_eq_true e⟩, rfl⟩)
        rcases Nat.lt_or_eq_of_le ha with h1 | h1
        · exact h1
        · exact absurd (by rw [h1]) e
  obtain ⟨hto, r, hr⟩ := h7
  have hil := (List.getElem?_eq_some_iff.1 hx).1
  have htk : (o7 T m x o (m + 1)).take (i + 1) = o.take i ++ [x] := by
    rw [hr, List.take_append_of_le_length (by omega), List.take_succ_eq_append_getElem hil, (List.getElem?_eq_some_iff.1 hx).2]
  refine ⟨?_, ?_, ?_, ?_⟩
  · rw [htk, List.map_append, hD]
    congr 1
    rw [hr]
    exact List.map_congr_left fun y hy => (state_pre (hk y hy)).symm
  · rw [htk]
    intro y hy a ha
    rcases List.mem_append.1 hy with h1 | h1
    · rcases hk y h1 a ha with h2 | h2
      · exact Or.inl (by rw [hr]; exact List.mem_append_left _ h2)
      · exact Or.inr h2
    · rw [List.mem_singleton.1 h1]; exact hto a ha
  · rw [hr, List.getElem?_append_left hil]; exact hx
  · rw [hr, List.length_append]; omega
end Go.Proofs.YtmnfioghhdgciaaDoor

namespace Go.Proofs.YtmnfioghhdgciaaDoor
open Go Go.RowKit
set_option linter.unusedVariables false
set_option linter.unusedSimpArgs false
set_option maxRecDepth 100000

/-! Rows of ints beside sets of ints. -/
theorem RowsF.growX {W W' : World} {base : Nat} {R : RowMap} {X : Nat → Prop} (h : RowsF W base R) {i : Nat} {v v' : Value} {zs ys : List Int} (hi : R i = some (v, zs)) (hb : But X W W') (hX : ∀ b, X b → v.ownBlock = some b ∨ ∀ cur, W.heap[b]? ≠ some (.cells cur 3)) (hv : W'.ownsRow base 3 1 v' ys.length (zI ys)) (hat : ∀ b, v'.ownBlock = some b → v.ownBlock = some b ∨ W.heap.size ≤ b) : RowsF W' base (upd R i (some (v', ys))) := by
  have keep : ∀ a u xs, a ≠ i → R a = some (u, xs) → W'.ownsRow base 3 1 u xs.length (zI xs) := by
    intro a u xs ha hr
    refine own_congr (h.own a u xs hr) (fun b hk => ?_)
    obtain ⟨_, cur, h2⟩ := own_blk (h.own a u xs hr) hk
    refine hb.block b (Array.getElem?_eq_some_iff.1 h2).1 (fun hx => ?_)
    rcases hX b hx with h3 | h3
    · rcases h.apart a i u xs v zs ha hr hi with h1 | h1
      · rw [hk] at h1; cases h1
      · exact h1 (hk.trans h3.symm)
    · exact h3 cur h2
  have far : ∀ a u xs, a ≠ i → R a = some (u, xs) → u.ownBlock = none ∨ u.ownBlock ≠ v'.ownBlock := by
    intro a u xs ha hr
    cases hu : u.ownBlock with
    | none => exact Or.inl rfl
    | some l =>
      refine Or.inr ?_
      intro e
      rcases hat l e.symm with h1 | h1
      · rcases h.apart a i u xs v zs ha hr hi with h2 | h2
        · rw [hu] at h2; cases h2
        · exact h2 (hu.trans h1.symm)
      · have := h.lt hr hu
        omega
  refine ⟨fun a u xs ha => ?_, fun a b u xs x' ws hab ha hb => ?_⟩
  · by_cases e : a = i
    · subst e; rw [upd_same] at ha; cases ha; exact hv
    · rw [upd_other _ _ e] at ha; exact keep a u xs e ha
  · by_cases ea : a = i
    · subst ea
      rw [upd_same] at ha
      cases ha
      rw [upd_other _ _ (Ne.symm hab)] at hb
      rcases far b x' ws (Ne.symm hab) hb with h1 | h1
      · cases hu : v'.ownBlock with
        | none => exact Or.inl rfl
        | some l => exact Or.inr (by rw [h1]; simp)
      · exact Or.inr (Ne.symm h1)
    · rw [upd_other _ _ ea] at ha
      by_cases eb : b = i
      · subst eb
        rw [upd_same] at hb
        cases hb
        exact far a u xs ea ha
      · rw [upd_other _ _ eb] at hb
        exact h.apart a b u xs x' ws hab ha hb
theorem rowI (L : List Int) : rowK keyI L = zI L := by
  unfold rowK keyI zI
  induction L with
  | nil => rfl
  | cons x t ih => simp [ih]
theorem setI_X {W : World} {base sb : Nat} {vm vs : Value} {L : List Int} (h : SetAt keyI W base sb vm vs L) : ∀ b, SetB sb vm vs b → vs.ownBlock = some b ∨ ∀ cur, W.heap[b]? ≠ some (.cells cur 3) := by
  intro b hb
  rcases hb with rfl | rfl | hb
  · refine Or.inr fun cur e => ?_
    rw [h.box] at e
    simp only [Option.some.injEq, Obj.cells.injEq] at e
    exact absurd e.2.1 (by decide)
  · refine Or.inr fun cur e => ?_
    rcases h.map with ⟨h1, _⟩ | ⟨mb, h1, _, h2⟩
    · cases h1
    · cases h1
      obtain ⟨es, c, h3, _⟩ := h2
      rw [h3] at e
      cases e
  · exact Or.inl hb
theorem RowsF.place {W W' : World} {base sb : Nat} {R : RowMap} {i : Nat} {vm vs vm' vs' : Value} {L L' : List Int} (h : RowsF W base R) (hi : R i = some (vs, L)) (hs : SetAt keyI W base sb vm vs L) (hs' : SetAt keyI W' base sb vm' vs' L') (hb : But (SetB sb vm vs) W W') (hat : ∀ b, vs'.ownBlock = some b → vs.ownBlock = some b ∨ W.heap.size ≤ b) : RowsF W' base (upd R i (some (vs', L'))) :=
  h.growX hi hb (setI_X hs) (by have := hs'.row; rw [rowI] at this; exact this) hat
end Go.Proofs.YtmnfioghhdgciaaDoor

namespace Go.Proofs.YtmnfioghhdgciaaDoor
open Go
set_option linter.unusedVariables false

/-! Near words: rows of distances, and the same as sets of places. -/
def dst (hit : Nat → Bool) (i : Nat) : Int := if hit i = true then 0 else 1
def nextF (hit : Nat → Bool) (k : Int) (f : Nat → Int) : Nat → Int
  | 0 => min (f 0 + 1) (k + 1)
  | i + 1 => min (f i + dst hit i) (min (f (i + 1) + 1) (min (nextF hit k f i + 1) (k + 1)))
def rowL (len : Nat) (f : Nat → Int) : List Int := (List.range (len + 1)).map f
def fOf (z : List Int) (i : Nat) : Int := z.getD i 0
def cameN (head came : Int) (hit : Nat → Bool) : Int := if came < head then (if hit came.toNat = true then came + 1 else head + 1) else came
def stepS (len : Nat) (k head : Int) (hit : Nat → Bool) (z : List Int) : List Int := rowL len (nextF hit k (fOf z)) ++ [cameN head (fOf z (len + 1)) hit]
theorem rowL_len (len : Nat) (f : Nat → Int) : (rowL len f).length = len + 1 := by simp [rowL]
theorem fOf_row {len : Nat} (f : Nat → Int) (x : Int) {i : Nat} (h : i ≤ len) : fOf (rowL len f ++ [x]) i = f i := by
  simp [fOf, rowL, List.getElem?_append, show i < len + 1 by omega]
theorem fOf_last (len : Nat) (f : Nat → Int) (x : Int) : fOf (rowL len f ++ [x]) (len + 1) = x := by
  simp [fOf, rowL]
theorem row_ext {len : Nat} {f g : Nat → Int} (h : ∀ i, i ≤ len → f i = g i) : rowL len f = rowL len g := List.map_congr_left fun i hi => h i (by have := List.mem_range.1 hi; omega)
structure RowOK (len : Nat) (k head : Int) (z : List Int) : Prop where
  form : z = rowL len (fOf z) ++ [fOf z (len + 1)]
  win : ∃ t : Nat, ∀ i, i ≤ len → 0 ≤ fOf z i ∧ fOf z i ≤ k + 1 ∧ (fOf z i ≤ k → (t : Int) ≤ i + fOf z i ∧ (i : Int) ≤ t + fOf z i)
  came : 0 ≤ fOf z (len + 1) ∧ fOf z (len + 1) ≤ head + 1
theorem RowOK.len {len : Nat} {k head : Int} {z : List Int} (h : RowOK len k head z) : z.length = len + 2 := by
  rw [h.form]; simp [rowL_len]
theorem nextF_nn {hit : Nat → Bool} {k : Int} (hk : 0 ≤ k) {f : Nat → Int} : ∀ (i : Nat), (∀ j, j ≤ i → 0 ≤ f j) → 0 ≤ nextF hit k f i ∧ nextF hit k f i ≤ k + 1
  | 0, h => by have := h 0 (by omega); simp only [nextF]; omega
  | i + 1, h => by
    have h1 := nextF_nn (hit := hit) hk i (fun j hj => h j (by omega))
    have h2 := h i (by omega)
    have h3 := h (i + 1) (by omega)
    have h4 : 0 ≤ dst hit i := by unfold dst; split <;> omega
    simp only [nextF]
    omega
theorem RowOK.step {len : Nat} {k head : Int} {z : List Int} (h : RowOK len k head z) (hk : 0 ≤ k) (hh : 0 ≤ head) (hit : Nat → Bool) : RowOK len k head (stepS len k head hit z) := by
  obtain ⟨t, ht⟩ := h.win
  have hc := h.came
  refine ⟨?_, ⟨t + 1, ?_⟩, ?_⟩
  · unfold stepS
    rw [fOf_last, row_ext fun i hi => (fOf_row (nextF hit k (fOf z)) _ hi)]
  · intro i hi
    unfold stepS
    rw [fOf_row _ _ hi]
    have hb := nextF_nn (hit := hit) hk (f := fOf z) i (fun j hj => (ht j (by omega)).1)
    refine ⟨hb.1, hb.2, ?_⟩
    induction i with
    | zero =>
      simp only [nextF]
      have := ht 0 (by omega)
      omega
    | succ i ih =>
      have ih' := ih (by omega) (nextF_nn (hit := hit) hk (f := fOf z) i (fun j hj => (ht j (by omega)).1))
      have h1 := ht i (by omega)
      have h2 := ht (i + 1) hi
      have h4 : 0 ≤ dst hit i := by unfold dst; split <;> omega
      simp only [nextF]
      omega
  · unfold stepS
    rw [fOf_last]
    unfold cameN
    split
    · split <;> omega
    · omega
/-! How many rows there can be. -/
def decZ (len : Nat) (k : Int) (c : Nat) : List Int :=
  rowL len (fun i => if c / 32768 ≤ i + 2 ∧ i ≤ c / 32768 + 2 then ((c / 32 % 1024 / 4 ^ (i + 2 - c / 32768) % 4 : Nat) : Int) else k + 1) ++ [((c % 32 : Nat) : Int)]
theorem digit5 (e0 e1 e2 e3 e4 : Nat) (h0 : e0 < 4) (h1 : e1 < 4) (h2 : e2 < 4) (h3 : e3 < 4) (h4 : e4 < 4) :
    e0 + 4 * e1 + 16 * e2 + 64 * e3 + 256 * e4 < 1024 ∧ ∀ j, j ≤ 4 → (e0 + 4 * e1 + 16 * e2 + 64 * e3 + 256 * e4) / 4 ^ j % 4 = (match j with | 0 => e0 | 1 => e1 | 2 => e2 | 3 => e3 | _ => e4) := by
  refine ⟨by omega, fun j hj => ?_⟩
  match j, hj with
  | 0, _ => simp; omega
  | 1, _ => simp; omega
  | 2, _ => simp; omega
  | 3, _ => simp; omega
  | 4, _ => simp; omega
theorem RowOK.code {len : Nat} {k head : Int} {z : List Int} (h : RowOK len k head z) (hl : len ≤ 30) (hk : 0 ≤ k) (hk2 : k ≤ 2) (hh : head ≤ 30) : ∃ c, c < 1114112 ∧ decZ len k c = z := by
  obtain ⟨t0, ht0⟩ := h.win
  have hc := h.came
  obtain ⟨t, ht33, ht⟩ : ∃ t, t ≤ 33 ∧ ∀ i, i ≤ len → 0 ≤ fOf z i ∧ fOf z i ≤ k + 1 ∧ (fOf z i ≤ k → t ≤ i + 2 ∧ i ≤ t + 2) := by
    by_cases h1 : t0 ≤ len + 3
    · exact ⟨t0, by omega, fun i hi => by have := ht0 i hi; omega⟩
    · exact ⟨len + 3, by omega, fun i hi => by have := ht0 i hi; omega⟩
  have hd : ∃ e : Nat → Nat, (∀ j, e j < 4) ∧ ∀ i, i ≤ len → t ≤ i + 2 → i ≤ t + 2 → ((e (i + 2 - t) : Nat) : Int) = fOf z i := by
    refine ⟨fun j => if j + t ≤ len + 2 ∧ 2 ≤ j + t then (fOf z (j + t - 2)).toNat else 0, fun j => ?_, fun i hi h1 h2 => ?_⟩
    · dsimp only
      split
      · have := ht (j + t - 2) (by omega); omega
      · omega
    · have h3 : i + 2 - t + t - 2 = i := by omega
      dsimp only
      rw [h3]
      have := ht i hi
      split <;> omega
  obtain ⟨e, he, he2⟩ := hd
  obtain ⟨g1, g2⟩ := digit5 (e 0) (e 1) (e 2) (e 3) (e 4) (he 0) (he 1) (he 2) (he 3) (he 4)
  generalize hD : e 0 + 4 * e 1 + 16 * e 2 + 64 * e 3 + 256 * e 4 = d at g1 g2
  obtain ⟨x, hx⟩ : ∃ x : Nat, fOf z (len + 1) = (x : Int) := ⟨(fOf z (len + 1)).toNat, by omega⟩
  have hx32 : x < 32 := by omega
  refine ⟨t * 32768 + d * 32 + x, by omega, ?_⟩
  have q1 : (t * 32768 + d * 32 + x) / 32768 = t := by omega
  have q2 : (t * 32768 + d * 32 + x) / 32 % 1024 = d := by omega
  have q3 : (t * 32768 + d * 32 + x) % 32 = x := by omega
  rw [h.form]
  unfold decZ
  rw [q1, q2, q3, hx]
  congr 1
  refine row_ext fun i hi => ?_
  by_cases hw : t ≤ i + 2 ∧ i ≤ t + 2
  · rw [if_pos hw, ← he2 i hi hw.1 hw.2, g2 (i + 2 - t) (by omega)]
    obtain ⟨j, hj⟩ : ∃ j, i + 2 - t = j := ⟨_, rfl⟩
    rw [hj]
    match j, (show j ≤ 4 by omega) with
    | 0, _ => rfl
    | 1, _ => rfl
    | 2, _ => rfl
    | 3, _ => rfl
    | 4, _ => rfl
  · rw [if_neg hw]
    have := ht i hi
    omega
/-! Sets of places. -/
def bset (p : Nat → Bool) : Nat → Nat
  | 0 => 0
  | n + 1 => bset p n + (if p n = true then 2 ^ n else 0)
theorem bset_lt (p : Nat → Bool) : ∀ n, bset p n < 2 ^ n
  | 0 => by simp [bset]
  | n + 1 => by
    have := bset_lt p n
    simp only [bset]
    rw [Nat.pow_succ]
    split <;> omega
theorem bset_bit (p : Nat → Bool) : ∀ n i, (bset p n).testBit i = (decide (i < n) && p i)
  | 0, i => by simp [bset]
  | n + 1, i => by
    have h1 := bset_lt p n
    have ih := bset_bit p n
    simp only [bset]
    by_cases hp : p n = true
    · rw [if_pos hp, Nat.add_comm]
      rcases Nat.lt_trichotomy i n with h | h | h
      · rw [Nat.testBit_two_pow_add_gt h, ih]
        simp [h, show i < n + 1 by omega]
      · subst h
        rw [Nat.testBit_two_pow_add_eq, ih]
        simp [hp]
      · rw [Nat.testBit_lt_two_pow (Nat.lt_of_lt_of_le (show 2 ^ n + bset p n < 2 ^ (n + 1) by rw [Nat.pow_succ]; omega) (Nat.pow_le_pow_right (by omega) h))]
        simp [show ¬ i < n + 1 by omega]
    · rw [if_neg hp, Nat.add_zero, ih]
      by_cases h : i = n
      · subst h; simp [hp]
      · simp [show (i < n + 1) = (i < n) by simp; omega]
abbrev Near := Nat × Nat × Nat × Nat
end Go.Proofs.YtmnfioghhdgciaaDoor
