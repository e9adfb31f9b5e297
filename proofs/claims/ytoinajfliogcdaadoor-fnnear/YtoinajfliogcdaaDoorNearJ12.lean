import Derived.Test.YtoinajfliogcdaaDoorNearJ11
import Derived.Test.YtoinajfliogcdaaDoorNearJ05
import Derived.Deep.LoopGhost
import Derived.Test.YtoinajfliogcdaaDoorNearJ10
import Derived.Deep.AppendLies
import Derived.Deep.RegionLaw
namespace Go.Proofs.YtoinajfliogcdaaDoor
open Go Go.RowKit
set_option linter.unusedVariables false
set_option maxRecDepth 100000

def LsPost (w : World) (ls : List Int) (fins : List Bool) (nxt : List (List Nat)) (e : Ending) (w' : World) : Prop :=
 ∃ v l, e = .returned (.agg #[v]) ∧ DfaM w' w.heap.size v l ∧ sysL.Least ls.length ls ((autR fins nxt).lang (ls.length + 1) 0) (l.map Prod.snd) ∧ l.length ≤ 4294967296 ∧ Below w.heap.size w w'
def repL (κ : Nat → Nat) (n c : Nat) (i : Nat) : List Nat := (List.range c).map fun y => ((List.range n).filter fun q => decide (i ≤ q ∧ κ q = y)).headD 0
theorem repL_len (κ : Nat → Nat) (n c i : Nat) : (repL κ n c i).length = c := by simp [repL]
theorem repL_last (κ : Nat → Nat) (n c : Nat) : repL κ n c n = List.replicate c 0 := by
 rw [List.eq_replicate_iff]
 refine ⟨repL_len κ n c n, fun x hx => ?_⟩
 obtain ⟨y, _, rfl⟩ := List.mem_map.1 hx
 have : (List.range n).filter (fun q => decide (n ≤ q ∧ κ q = y)) = [] := by
  rw [List.filter_eq_nil_iff]
  intro q hq
  have := List.mem_range.1 hq
  simp; omega
 rw [this]; rfl
theorem filter_head {n i : Nat} (hi : i < n) (p : Nat → Bool) (h0 : ∀ q, q < i → p q = false) (h1 : p i = true) : ((List.range n).filter p).headD 0 = i := by
 obtain ⟨d, rfl⟩ : ∃ d, n = i + (d + 1) := ⟨n - i - 1, by omega⟩
 have e : (List.range i).filter p = [] := by
  rw [List.filter_eq_nil_iff]
  intro q hq
  rw [h0 q (List.mem_range.1 hq)]; simp
 rw [List.range_add, List.filter_append, e, List.nil_append, List.range_succ_eq_map]
 simp [h1]
theorem repL_step {κ : Nat → Nat} {n c i : Nat} (hi : i < n) (hc : κ i < c) : repL κ n c i = (repL κ n c (i + 1)).set (κ i) i := by
 refine List.ext_getElem? fun y => ?_
 rw [List.getElem?_set, repL_len]
 by_cases hy : y < c
 ·by_cases e : κ i = y
  ·rw [if_pos e, if_pos hc]
   have := filter_head hi (fun q => decide (i ≤ q ∧ κ q = y)) (fun q hq => by simp; omega) (by simp [e])
   simp only [repL, List.getElem?_map, List.getElem?_range hy, Option.map_some]
   rw [this]
  ·rw [if_neg e]
   simp only [repL, List.getElem?_map, List.getElem?_range hy, Option.map_some]
   congr 2
   refine List.filter_congr fun q _ => ?_
   rw [Bool.eq_iff_iff]
   simp only [decide_eq_true_iff]
   constructor
   ·rintro ⟨h1, h2⟩
    refine ⟨?_, h2⟩
    by_cases h3 : q = i
    ·subst h3; exact absurd h2 e
    ·omega
   ·rintro ⟨h1, h2⟩; exact ⟨by omega, h2⟩
 ·rw [if_neg (by omega)]
  simp [repL, hy]
theorem repL_ok {κ : Nat → Nat} {n c : Nat} (ho : Onto n κ c) {y : Nat} (hy : y < c) : atN (repL κ n c 0) y < n ∧ κ (atN (repL κ n c 0) y) = y := by
 obtain ⟨q, hq, he⟩ := ho.2 y hy
 have hm : q ∈ (List.range n).filter (fun q => decide (0 ≤ q ∧ κ q = y)) := List.mem_filter.2 ⟨List.mem_range.2 hq, by simpa using he⟩
 have hx : atN (repL κ n c 0) y = ((List.range n).filter fun q => decide (0 ≤ q ∧ κ q = y)).headD 0 := by simp [atN, repL, hy]
 rw [hx]
 cases hl : (List.range n).filter (fun q => decide (0 ≤ q ∧ κ q = y)) with
 | nil => rw [hl] at hm; simp at hm
 | cons a t =>
  have : a ∈ (List.range n).filter (fun q => decide (0 ≤ q ∧ κ q = y)) := by rw [hl]; simp
  obtain ⟨h1, h2⟩ := List.mem_filter.1 this
  simp only [List.headD_cons]
  exact ⟨List.mem_range.1 h1, by simpa using h2⟩
def numL (c : Nat) (o : List Nat) : List Int := (List.range c).map fun y => if y ∈ o then (ix o y : Int) else -1
theorem numL_len (c : Nat) (o : List Nat) : (numL c o).length = c := by simp [numL]
theorem numL_at {c : Nat} (o : List Nat) {y : Nat} (hy : y < c) : (numL c o).getD y 0 = if y ∈ o then (ix o y : Int) else -1 := by simp [numL, hy]
theorem numL_push {c : Nat} {o : List Nat} {y : Nat} (hy : y < c) (hn : y ∉ o) : numL c (o ++ [y]) = (numL c o).set y (o.length : Int) := by
 refine List.ext_getElem? fun q => ?_
 rw [List.getElem?_set, numL_len]
 by_cases hq : q < c
 ·by_cases e : y = q
  ·subst e
   rw [if_pos rfl, if_pos hy]
   simp [numL, hy, ix_new hn]
  ·rw [if_neg e]
   simp only [numL, List.getElem?_map, List.getElem?_range hq, Option.map_some]
   by_cases hm : q ∈ o
   ·rw [if_pos hm, if_pos (List.mem_append_left _ hm), ix_pre hm]
   ·rw [if_neg hm, if_neg (by simp [hm]; exact fun e' => e e'.symm)]
 ·rw [if_neg (by omega)]
  simp [numL, hq]
theorem numL_nil (c : Nat) : numL c [] = List.replicate c (-1) := by
 rw [List.eq_replicate_iff]
 refine ⟨numL_len c [], fun x hx => ?_⟩
 obtain ⟨y, _, rfl⟩ := List.mem_map.1 hx
 simp
def minus1 (c i : Nat) : List Int := (List.range c).map fun y => if y < i then -1 else 0
theorem minus1_len (c i : Nat) : (minus1 c i).length = c := by simp [minus1]
theorem minus1_zero (c : Nat) : minus1 c 0 = List.replicate c 0 := by
 rw [List.eq_replicate_iff]
 refine ⟨minus1_len c 0, fun x hx => ?_⟩
 obtain ⟨y, _, rfl⟩ := List.mem_map.1 hx
 simp
theorem minus1_step {c i : Nat} (hi : i < c) : minus1 c (i + 1) = (minus1 c i).set i (-1) := by
 refine List.ext_getElem? fun q => ?_
 rw [List.getElem?_set, minus1_len]
 by_cases hq : q < c
 ·by_cases e : i = q
  ·subst e
   rw [if_pos rfl, if_pos hi]
   simp [minus1, hi]
  ·rw [if_neg e]
   have : (q < i + 1) ↔ (q < i) := by omega
   simp [minus1, hq, this]
 ·rw [if_neg (by omega)]
  simp [minus1, hq]
theorem minus1_all (c : Nat) : minus1 c c = numL c [] := by
 rw [numL_nil, List.eq_replicate_iff]
 refine ⟨minus1_len c c, fun x hx => ?_⟩
 obtain ⟨y, hy, rfl⟩ := List.mem_map.1 hx
 have := List.mem_range.1 hy
 simp [this]
end Go.Proofs.YtoinajfliogcdaaDoor

namespace Go.Proofs.YtoinajfliogcdaaDoor
open Go Go.RowKit
set_option linter.unusedVariables false
set_option maxRecDepth 100000

theorem step_pushk {W : World} {ops : Array Oper} {o : Oper} {a : Act} {K : Act → World → Prop} {Q : Exit → Act → World → Prop} {E : Prop} (hgd : o.guard = none) (s x : Operand) (t e : TypeId)
  (ho : o.op = .call { callee := .builtin .append, args := #[s, x], argTypes := #[t, t] }) (i : TypeInfo) (z : Value) (size bytes : Nat) (ht : Tryd.prog.underlying t = some (.slice e)) (hi : Tryd.prog.info? e = some i) (hz : i.zero = some z) (hsize : i.size = size) (hby : i.bytes = bytes) (hzs : z.cells.size = size) (hsz : 0 < size)
  (base : Nat) (v : Value) (n : Nat) (xs : List Value) (hs : a.eval s = v) (hown : W.ownsRow base e size v n xs) (ys : Array Value) (hys : ys.size = size) (hy : ∀ y ∈ ys.toList, y.oneCell' = true) (ad : Nat) (had : ad = W.heap.size) (hx : a.eval x = .slice (some ⟨ad, 0, none⟩) 1 1) (hb : (n + 1) * bytes ≤ 140737488355328) (hby0 : 0 < bytes) (hbase : base ≤ W.heap.size)
  (h : ∀ g cap w', w'.ownsRow base e size (.slice (some ⟨g, 0, none⟩) (n + 1) cap) (n + 1) (xs ++ ys.toList) → But (fun b => v.ownBlock = some b) W w' → (∀ b, (Value.slice (some ⟨g, 0, none⟩) (n + 1) cap).ownBlock = some b → v.ownBlock = some b ∨ W.heap.size ≤ b) → K (a.put o.dst (.slice (some ⟨g, 0, none⟩) (n + 1) cap)) w') :
  if Region.wanted o (yielded ops a.tmps) = true then Oper.wp Tryd.prog o a (W.alloc (.cells ys e)) K Q else E := by
 subst had
 have hn : n + 1 ≤ 140737488355328 := Nat.le_trans (Nat.le_mul_of_pos_right (n + 1) hby0) hb
 refine step_append_lies _ hgd s x t ho base e i z size bytes ht hi hz hsize hby hzs hsz v n xs hs (hown.alloc _) ⟨W.heap.size, 0, none⟩ 1 1 ys.toList hx (by simp [hys]) ?_ hy (by omega) (by unfold maxLen; omega) hb (by simp; omega) _ rfl ?_
 ·intro j u hj
  rw [add_head, blkc (heap_alloc_new W (.cells ys e)) j]
  simpa using hj
 ·intro g cap w' h1 h2 h3 h4
  refine h g cap w' h1 ?_ ?_
  ·refine ⟨h2.os, h2.tape, h2.output, by have := h2.size; simp at this; omega, fun b hb hn => ?_⟩
   rw [h2.block b (by simp; omega) (fun e => hn e.symm), Below.heap_alloc _ _ _ hb]
  ·intro b hb
   cases hb
   rcases h3 with h5 | h5
   ·exact Or.inl h5
   ·exact Or.inr (by rw [h5]; simp)
theorem Ls7.reset {w0 W : World} {rb db sb : Nat} {raw : Array Value} {R : RowMap} {v : Value} {l : List MSt} {va : Value} {f : Bool} {rs : List (Int × Int)} {e : Int} (h : Ls7 w0 W rb db sb raw R v l va f rs e) : Ls7 w0 (((W.setCell ⟨sb, 0, none⟩ (.bool false)).setCell ⟨sb, 1, none⟩ (.slice none 0 0)).setCell ⟨sb, 2, none⟩ (.int .i64 (-1))) rb db sb raw R v l (.slice none 0 0) false [] (-1) := by
 have hX : But (fun b => b = sb) W (((W.setCell ⟨sb, 0, none⟩ (.bool false)).setCell ⟨sb, 1, none⟩ (.slice none 0 0)).setCell ⟨sb, 2, none⟩ (.int .i64 (-1))) := (((But.refl (fun b => b = sb) W).set sb 0 _ rfl).set sb 1 _ rfl).set sb 2 _ rfl
 have hk : ∀ (b : Nat), b ≠ sb → (((W.setCell ⟨sb, 0, none⟩ (.bool false)).setCell ⟨sb, 1, none⟩ (.slice none 0 0)).setCell ⟨sb, 2, none⟩ (.int .i64 (-1))).heap[b]? = W.heap[b]? := fun b hb => (heap_set_other _ sb 2 _ b hb).trans ((heap_set_other _ sb 1 _ b hb).trans (heap_set_other W sb 0 _ b hb))
 have hc := h.cur
 refine ⟨h.below.trans (hX.below h.below.size (fun j hj e' => by have := hc.from_; omega)), ?_, ?_, ?_, h.rows.but hX (fun b e' => by subst e'; exact not_int_of h.rows hc.box (by decide)), ⟨?_, ?_, World.ownsRow_nil _ _ _ _, fun s _ => ?_, hc.off, hc.from_⟩, h.from_, h.ne⟩
 ·rw [hk _ (blk_ne h.rawb hc.box (by decide))]; exact h.rawb
 ·rw [hk _ (blk_ne h.res hc.box (by decide))]; exact h.res
 ·rw [hk _ (blk_ne h.dbox hc.box (by decide))]; exact h.dbox
 ·refine hc.dfa.congr fun b cs t ht hkk hh => ?_
  rw [hk b (by
   rintro rfl
   rcases hkk with hkk | ⟨s, hs, hkk⟩
   ·exact hc.off hkk
   ·obtain ⟨_, c1, h3⟩ := own_blk (hc.dfa.arcs s hs) hkk
    exact blk_ne h3 hc.box (by decide) rfl)]
  exact hh
 ·have := blk_setk (blk_setk (blk_setk hc.box 0 (.bool false)) 1 (.slice none 0 0)) 2 (.int .i64 (-1))
  simpa using this
 ·unfold ApartV
  cases s.1.ownBlock with
  | none => exact Or.inl rfl
  | some k => exact Or.inr (by simp [Value.ownBlock])
section
variable (T : Sys Nat) (m : Nat) (x : Nat) (o : List Nat)
def o7 (k : Nat) : List Nat := if k ≤ m then ordTo T m x o k else meetD T (ordTo T m x o m) (T.gto x m)
def e7 (k : Nat) : Int := if k ≤ m then -1 else T.num (o7 T m x o k) (T.gto x m)
theorem o7_zero : o7 T m x o 0 = o := by simp [o7, ordTo, toldTo]
theorem o7_last : o7 T m x o (m + 1) = meets o (T.nexts m x) := by
 unfold o7
 rw [if_neg (by omega), ordTo_all]
theorem meetD_ok {o : List Nat} {z y : Nat} (ho : ∀ a ∈ o, a < z) (hn : o.Nodup) (hy : y < z) : (∀ a ∈ meetD T o y, a < z) ∧ (meetD T o y).Nodup := by
 unfold meetD
 split
 ·exact ⟨ho, hn⟩
 ·refine ⟨fun a ha => ?_, meet_nodup hn⟩
  rcases meet_mem.1 ha with h | h
  ·exact ho a h
  ·omega
end
variable {T : Sys Nat} {m x : Nat} {o : List Nat}
theorem ordTo_ok {z : Nat} (ho : ∀ a ∈ o, a < z) (hn : o.Nodup) (ht : ∀ k, k ≤ m → T.gto x k < z) : ∀ k, k ≤ m → (∀ a ∈ ordTo T m x o k, a < z) ∧ (ordTo T m x o k).Nodup
 | 0, _ => by simpa [ordTo, toldTo] using ⟨ho, hn⟩
 | k + 1, hk => by
  obtain ⟨h1, h2⟩ := ordTo_ok ho hn ht k (by omega)
  rw [ordTo_succ]
  split
  ·exact ⟨h1, h2⟩
  ·exact meetD_ok T h1 h2 (ht k (by omega))
theorem o7_ok {z : Nat} (ho : ∀ a ∈ o, a < z) (hn : o.Nodup) (ht : ∀ k, k ≤ m → T.gto x k < z) (k : Nat) : (∀ a ∈ o7 T m x o k, a < z) ∧ (o7 T m x o k).Nodup := by
 unfold o7
 split
 ·rename_i h; exact ordTo_ok ho hn ht k h
 ·obtain ⟨h1, h2⟩ := ordTo_ok ho hn ht m (Nat.le_refl m)
  exact meetD_ok T h1 h2 (ht m (Nat.le_refl m))
theorem o7_same {k : Nat} (hk : k < m) (h : T.gto x k = T.gto x m) (ls : List Int) : o7 T m x o (k + 1) = o7 T m x o k ∧ arcsTo T m ls (o7 T m x o (k + 1)) x (k + 1) = arcsTo T m ls (o7 T m x o k) x k := by
 have e : o7 T m x o (k + 1) = o7 T m x o k := by
  unfold o7
  rw [if_pos (show k + 1 ≤ m by omega), if_pos (show k ≤ m by omega), ordTo_succ, if_pos h]
 refine ⟨e, ?_⟩
 rw [e]
 unfold arcsTo
 rw [toldTo_succ, if_pos h]
theorem o7_arc {k : Nat} (hk : k < m) (h : T.gto x k ≠ T.gto x m) (ls : List Int) : o7 T m x o (k + 1) = meetD T (o7 T m x o k) (T.gto x k) ∧ arcsTo T m ls (o7 T m x o (k + 1)) x (k + 1) = arcsTo T m ls (o7 T m x o k) x k ++ [(ls.getD k 0, T.num (o7 T m x o (k + 1)) (T.gto x k))] := by
 have e : o7 T m x o (k + 1) = meetD T (o7 T m x o k) (T.gto x k) := by
  unfold o7
  rw [if_pos (show k + 1 ≤ m by omega), if_pos (show k ≤ m by omega), ordTo_succ, if_neg h]
 refine ⟨e, ?_⟩
 obtain ⟨r, hr⟩ := meetD_pre T (o7 T m x o k) (T.gto x k)
 have hkn : ∀ a ∈ toldTo T m x k, T.gto x a ∈ o7 T m x o k ∨ T.dead (T.gto x a) = true := by
  unfold o7
  rw [if_pos (show k ≤ m by omega)]
  exact ordTo_known T m x o k
 have e2 := arcsTo_pre (ls := ls) (r := r) hkn
 rw [← hr, ← e] at e2
 rw [← e2]
 unfold arcsTo
 rw [toldTo_succ, if_neg h, List.map_append]
 rfl
theorem o7_els (ls : List Int) : o7 T m x o (m + 1) = meetD T (o7 T m x o m) (T.gto x m) ∧ arcsTo T m ls (o7 T m x o (m + 1)) x m = arcsTo T m ls (o7 T m x o m) x m := by
 have e : o7 T m x o (m + 1) = meetD T (o7 T m x o m) (T.gto x m) := by
  unfold o7
  rw [if_neg (by omega), if_pos (Nat.le_refl m)]
 refine ⟨e, ?_⟩
 obtain ⟨r, hr⟩ := meetD_pre T (o7 T m x o m) (T.gto x m)
 have hkn : ∀ a ∈ toldTo T m x m, T.gto x a ∈ o7 T m x o m ∨ T.dead (T.gto x a) = true := by
  unfold o7
  rw [if_pos (Nat.le_refl m)]
  exact ordTo_known T m x o m
 have e2 := arcsTo_pre (ls := ls) (r := r) hkn
 rw [← hr, ← e] at e2
 exact e2
theorem state_dead {ls : List Int} {q : List Nat} (hf : T.fin x = false) (ht : ∀ a, a ≤ m → T.gto x a = x) (hd : T.dead x = true) : T.fin x = false ∧ arcsTo T m ls q x m = [] ∧ T.num q (T.gto x m) = -1 := by
 refine ⟨hf, ?_, ?_⟩
 ·unfold arcsTo toldTo
  have : (List.range m).filter (fun a => decide (T.gto x a ≠ T.gto x m)) = [] := by
   rw [List.filter_eq_nil_iff]
   intro a ha
   have := List.mem_range.1 ha
   rw [ht a (by omega), ht m (Nat.le_refl m)]
   simp
  rw [this]; rfl
 ·rw [ht m (Nat.le_refl m)]
  unfold Sys.num
  rw [if_pos hd]
theorem told_more {ls : List Int} {i : Nat} {D : List PSt} (hx : o[i]? = some x) (hD : D = (o.take i).map (T.state m ls o)) (hk : ∀ y ∈ o.take i, ∀ a, a ≤ m → T.gto y a ∈ o ∨ T.dead (T.gto y a) = true) :
  D ++ [T.state m ls (o7 T m x o (m + 1)) x] = ((o7 T m x o (m + 1)).take (i + 1)).map (T.state m ls (o7 T m x o (m + 1))) ∧ (∀ y ∈ (o7 T m x o (m + 1)).take (i + 1), ∀ a, a ≤ m → T.gto y a ∈ o7 T m x o (m + 1) ∨ T.dead (T.gto y a) = true) ∧ (o7 T m x o (m + 1))[i]? = some x ∧ i + 1 ≤ (o7 T m x o (m + 1)).length := by
 have h7 : (∀ a, a ≤ m → T.gto x a ∈ o7 T m x o (m + 1) ∨ T.dead (T.gto x a) = true) ∧ ∃ r, o7 T m x o (m + 1) = o ++ r := by
  refine ⟨fun a ha => ?_, by rw [o7_last]; exact meets_pre _ _⟩
  rw [o7_last]
  by_cases hd : T.dead (T.gto x a) = true
  ·exact Or.inr hd
  ·refine Or.inl (meets_mem.2 (Or.inr (List.mem_filter.2 ⟨?_, by simp [hd]⟩)))
   by_cases e : T.gto x a = T.gto x m
   ·rw [e]; exact List.mem_append_right _ (by simp)
   ·refine List.mem_append_left _ (List.mem_map.2 ⟨a, List.mem_filter.2 ⟨List.mem_range.2 ?_, decide_eq_true e⟩, rfl⟩)
    rcases Nat.lt_or_eq_of_le ha with h1 | h1
    ·exact h1
    ·exact absurd (by rw [h1]) e
 obtain ⟨hto, r, hr⟩ := h7
 have hil := (List.getElem?_eq_some_iff.1 hx).1
 have htk : (o7 T m x o (m + 1)).take (i + 1) = o.take i ++ [x] := by
  rw [hr, List.take_append_of_le_length (by omega), List.take_succ_eq_append_getElem hil, (List.getElem?_eq_some_iff.1 hx).2]
 refine ⟨?_, ?_, ?_, ?_⟩
 ·rw [htk, List.map_append, hD]
  congr 1
  rw [hr]
  exact List.map_congr_left fun y hy => (state_pre (hk y hy)).symm
 ·rw [htk]
  intro y hy a ha
  rcases List.mem_append.1 hy with h1 | h1
  ·rcases hk y h1 a ha with h2 | h2
   ·exact Or.inl (by rw [hr]; exact List.mem_append_left _ h2)
   ·exact Or.inr h2
  ·rw [List.mem_singleton.1 h1]; exact hto a ha
 ·rw [hr, List.getElem?_append_left hil]; exact hx
 ·rw [hr, List.length_append]; omega
end Go.Proofs.YtoinajfliogcdaaDoor
