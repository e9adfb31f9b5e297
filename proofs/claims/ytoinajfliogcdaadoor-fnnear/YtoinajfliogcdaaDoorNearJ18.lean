import Derived.Test.YtoinajfliogcdaaDoorNearJ05
import Derived.Test.YtoinajfliogcdaaDoorNearJ17
import Derived.Test.YtoinajfliogcdaaDoorNearJ02
import Derived.WalkMore
import Derived.Deep.RegionWith
import Derived.Test.YtoinajfliogcdaaDoorNearJ07
namespace Go.Proofs.YtoinajfliogcdaaDoor
open Go Go.RowKit
set_option linter.unusedVariables false

def ps0 : PSt := (false, [], 0)
def HDA (w : World) (a : Option Addr) (l : List (Int × Int)) : Prop :=
 l = [] ∨ ∃ b off, a = some ⟨b, off, none⟩ ∧ b < w.heap.size ∧ ∀ t, t < l.length → w.cell? ⟨b, off + t * 2, none⟩ = some (.int .i64 (l.getD t (0, 0)).1) ∧ w.cell? ⟨b, off + t * 2 + 1, none⟩ = some (.int .i64 (l.getD t (0, 0)).2)
theorem HDA.below {w w' : World} {a : Option Addr} {l : List (Int × Int)} (h : HDA w a l) (hb : Below w.heap.size w w') : HDA w' a l := by
 rcases h with h | ⟨b, off, h1, h2, h3⟩
 ·exact .inl h
 ·refine .inr ⟨b, off, h1, Nat.lt_of_lt_of_le h2 hb.size, fun t ht => ?_⟩
  obtain ⟨k1, k2⟩ := h3 t ht
  exact ⟨(hb.cell (p := ⟨b, off + t * 2, none⟩) h2).trans k1, (hb.cell (p := ⟨b, off + t * 2 + 1, none⟩) h2).trans k2⟩
def HDS (w : World) (a : Option Addr) (S : List PSt) : Prop :=
 S = [] ∨ ∃ b off, a = some ⟨b, off, none⟩ ∧ b < w.heap.size ∧ ∀ t, t < S.length → w.cell? ⟨b, off + t * 3, none⟩ = some (.bool (S.getD t ps0).1) ∧ ∃ ai ci, w.cell? ⟨b, off + t * 3 + 1, none⟩ = some (.slice ai (S.getD t ps0).2.1.length ci) ∧ HDA w ai (S.getD t ps0).2.1 ∧ w.cell? ⟨b, off + t * 3 + 2, none⟩ = some (.int .i64 (S.getD t ps0).2.2)
theorem HDS.below {w w' : World} {a : Option Addr} {S : List PSt} (h : HDS w a S) (hb : Below w.heap.size w w') : HDS w' a S := by
 rcases h with h | ⟨b, off, h1, h2, h3⟩
 ·exact .inl h
 ·refine .inr ⟨b, off, h1, Nat.lt_of_lt_of_le h2 hb.size, fun t ht => ?_⟩
  obtain ⟨k1, ai, ci, k2, k3, k4⟩ := h3 t ht
  exact ⟨(hb.cell (p := ⟨b, off + t * 3, none⟩) h2).trans k1, ai, ci, (hb.cell (p := ⟨b, off + t * 3 + 1, none⟩) h2).trans k2, k3.below hb, (hb.cell (p := ⟨b, off + t * 3 + 2, none⟩) h2).trans k4⟩
theorem arc_at (l : List (Int × Int)) : ∀ (i : Nat), i < l.length → (arcCells l)[i * 2]? = some (.int .i64 (l.getD i (0, 0)).1) ∧ (arcCells l)[i * 2 + 1]? = some (.int .i64 (l.getD i (0, 0)).2) := by
 induction l with
 | nil => intro i h; simp at h
 | cons x l ih =>
  intro i h
  cases i with
  | zero => exact ⟨rfl, rfl⟩
  | succ i =>
   have := ih i (by simpa using h)
   have e1 : (i + 1) * 2 = i * 2 + 1 + 1 := by omega
   have e2 : (i + 1) * 2 + 1 = i * 2 + 1 + 1 + 1 := by omega
   show (.int .i64 x.1 :: .int .i64 x.2 :: arcCells l)[(i + 1) * 2]? = _ ∧ (.int .i64 x.1 :: .int .i64 x.2 :: arcCells l)[(i + 1) * 2 + 1]? = _
   rw [e1]
   simpa using this
theorem st_at (l : List MSt) : ∀ (i : Nat) (s : MSt), l[i]? = some s → (stCells l)[i * 3]? = some (.bool s.2.1) ∧ (stCells l)[i * 3 + 1]? = some s.1 ∧ (stCells l)[i * 3 + 2]? = some (.int .i64 s.2.2.2) := by
 induction l with
 | nil => intro i s h; simp at h
 | cons x l ih =>
  intro i s h
  cases i with
  | zero =>
   have e : x = s := by simpa using h
   subst e
   exact ⟨rfl, rfl, rfl⟩
  | succ i =>
   have := ih i s (by simpa using h)
   have e1 : (i + 1) * 3 = i * 3 + 1 + 1 + 1 := by omega
   show (.bool x.2.1 :: x.1 :: .int .i64 x.2.2.2 :: stCells l)[(i + 1) * 3]? = _ ∧ (.bool x.2.1 :: x.1 :: .int .i64 x.2.2.2 :: stCells l)[(i + 1) * 3 + 1]? = _ ∧ (.bool x.2.1 :: x.1 :: .int .i64 x.2.2.2 :: stCells l)[(i + 1) * 3 + 2]? = _
   rw [e1]
   simpa using this
theorem arcs_hda {W : World} {base : Nat} {va : Value} {rs : List (Int × Int)} (h : W.ownsRow base 97 2 va rs.length (arcCells rs)) : ∃ a c, va = .slice a rs.length c ∧ HDA W a rs := by
 rcases h.2 with ⟨h1, h2⟩ | ⟨g, cap, cur, rfl, h2, h3, _⟩
 ·exact ⟨none, 0, by rw [h1, h2], Or.inl (List.length_eq_zero_iff.1 h2)⟩
 ·refine ⟨_, cap, rfl, Or.inr ⟨g, 0, rfl, (Array.getElem?_eq_some_iff.1 h3).1, fun t ht => ?_⟩⟩
  obtain ⟨e1, e2⟩ := arc_at rs t ht
  rw [Nat.zero_add]
  exact ⟨own_cellk h e1, own_cellk h e2⟩
theorem DfaM.hds {W : World} {base : Nat} {v : Value} {l : List MSt} (h : DfaM W base v l) : ∃ a c, v = .slice a (l.map Prod.snd).length c ∧ HDS W a (l.map Prod.snd) := by
 rw [List.length_map]
 rcases h.row.2 with ⟨h1, h2⟩ | ⟨g, cap, cur, rfl, h2, h3, _⟩
 ·exact ⟨none, 0, by rw [h1, h2], Or.inl (by rw [List.length_eq_zero_iff.1 h2]; rfl)⟩
 ·refine ⟨_, cap, rfl, Or.inr ⟨g, 0, rfl, (Array.getElem?_eq_some_iff.1 h3).1, fun t ht => ?_⟩⟩
  rw [List.length_map] at ht
  have hs := List.getElem?_eq_getElem ht
  obtain ⟨e1, e2, e3⟩ := st_at l t _ hs
  have eg : (l.map Prod.snd).getD t ps0 = l[t].2 := by rw [List.getD_eq_getElem?_getD, List.getElem?_map, hs]; rfl
  obtain ⟨ai, ci, q1, q2⟩ := arcs_hda (h.arcs _ (List.getElem_mem ht))
  rw [Nat.zero_add, eg]
  refine ⟨own_cellk h.row e1, ai, ci, ?_, q2, own_cellk h.row e3⟩
  rw [own_cellk h.row e2, q1]
end Go.Proofs.YtoinajfliogcdaaDoor

namespace Go.Proofs.YtoinajfliogcdaaDoor
open Go
set_option linter.unusedVariables false
set_option linter.unusedSimpArgs false

def stepP (D : List PSt) (at_ : Int) (r : Int) : Int :=
 if at_ < 0 then -1 else match D[at_.toNat]? with
  | none => -1
  | some s => match s.2.1.find? (fun a => a.1 == r) with
   | some a => a.2
   | none => s.2.2
def finP (D : List PSt) (at_ : Int) : Bool := if at_ < 0 then false else match D[at_.toNat]? with
 | none => false
 | some s => s.1
def symZ (ls : List Int) (r : Int) : Nat := ls.idxOf r
theorem symZ_le (ls : List Int) (r : Int) : symZ ls r ≤ ls.length := List.idxOf_le_length
theorem find_told {ls : List Int} (hn : ls.Nodup) (g : Nat → Int) (r : Int) : ∀ (ks : List Nat), (∀ k ∈ ks, k < ls.length) → ((ks.map fun k => (ls.getD k 0, g k)).find? fun a => a.1 == r) = if symZ ls r ∈ ks then some (r, g (symZ ls r)) else none
 | [], _ => by simp
 | k :: ks, h => by
  have hk := h k (by simp)
  have ih := find_told hn g r ks (fun x hx => h x (by simp [hx]))
  have hat : ls.getD k 0 = ls[k] := by rw [List.getD_eq_getElem?_getD, List.getElem?_eq_getElem hk]; rfl
  by_cases e : ls[k] = r
  ·have hs : symZ ls r = k := by
    unfold symZ
    rw [← e]
    exact hn.idxOf_getElem k hk
   rw [List.map_cons, List.find?_cons_of_pos (by show (ls.getD k 0 == r) = true; rw [hat, e]; simp), hs, if_pos (by simp), hat, e]
  ·have hs : symZ ls r ≠ k := by
    intro e2
    apply e
    have h1 : symZ ls r < ls.length := by rw [e2]; exact hk
    have h2 := List.getElem_idxOf (x := r) (xs := ls) h1
    have h3 : ls.idxOf r = k := e2
    simp only [h3] at h2
    exact h2
   rw [List.map_cons, List.find?_cons_of_neg (by show ¬ (ls.getD k 0 == r) = true; rw [hat]; simpa using e), ih]
   by_cases hm : symZ ls r ∈ ks
   ·rw [if_pos hm, if_pos (by simp [hm])]
   ·rw [if_neg hm, if_neg (by simp [hm, hs])]
theorem nexts_mem {m : Nat} {K : Lang} {a : Nat} (ha : a ≤ m) (he : toL K a ≠ emptyL) : toL K a ∈ sysL.nexts m K := by
 refine List.mem_filter.2 ⟨?_, by simp [sysL, he]⟩
 by_cases e : toL K a = toL K m
 ·rw [e]; exact List.mem_append_right _ (by simp [sysL])
 ·refine List.mem_append_left _ (List.mem_map.2 ⟨a, List.mem_filter.2 ⟨List.mem_range.2 ?_, decide_eq_true e⟩, rfl⟩)
  rcases Nat.lt_or_eq_of_le ha with h1 | h1
  ·exact h1
  ·exact absurd (by rw [h1]) e
theorem step_at {m : Nat} {ls : List Int} {o : List Lang} (hn : ls.Nodup) (hm : ls.length = m) {i : Nat} {K : Lang} (hi : o[i]? = some K) (r : Int) : stepP (o.map (sysL.state m ls o)) (i : Int) r = sysL.num o (toL K (symZ ls r)) := by
 unfold stepP
 rw [if_neg (by omega), Int.toNat_natCast, List.getElem?_map, hi]
 show (match ((sysL.told m K).map fun k => (ls.getD k 0, sysL.num o (sysL.gto K k))).find? (fun a => a.1 == r) with | some a => a.2 | none => sysL.num o (sysL.gto K m)) = _
 rw [find_told hn (fun k => sysL.num o (sysL.gto K k)) r (sysL.told m K) (fun k hk => by have := List.mem_range.1 (List.mem_filter.1 hk).1; omega)]
 by_cases h1 : symZ ls r ∈ sysL.told m K
 ·rw [if_pos h1]; rfl
 ·rw [if_neg h1]
  show sysL.num o (toL K m) = _
  have hle := symZ_le ls r
  rcases Nat.lt_or_eq_of_le hle with h2 | h2
  ·have h3 : toL K (symZ ls r) = toL K m := by
    apply Classical.byContradiction
    intro hne
    exact h1 (List.mem_filter.2 ⟨List.mem_range.2 (by omega), decide_eq_true hne⟩)
   rw [h3]
  ·rw [h2, hm]
theorem fin_at {m : Nat} {ls : List Int} {o : List Lang} {i : Nat} {K : Lang} (hi : o[i]? = some K) : finP (o.map (sysL.state m ls o)) (i : Int) = K [] := by
 unfold finP
 rw [if_neg (by omega), Int.toNat_natCast, List.getElem?_map, hi]
 rfl
theorem least_run {m : Nat} {ls : List Int} {L : Lang} {D : List PSt} (h : sysL.Least m ls L D) (hn : ls.Nodup) (hm : ls.length = m) (rs : List Int) : finP D (rs.foldl (stepP D) 0) = L (rs.map (symZ ls)) := by
 obtain ⟨o, h1, rfl⟩ := h
 have numk : ∀ K, (K ∈ o ∨ K = emptyL) → K ≠ emptyL → ∃ i : Nat, o[i]? = some K ∧ sysL.num o K = (i : Int) := by
  intro K hK hne
  have hmem := hK.resolve_right hne
  refine ⟨ix o K, ix_at hmem, ?_⟩
  unfold Sys.num
  rw [if_neg (by simp [sysL, hne])]
 have nume : sysL.num o emptyL = -1 := by
  unfold Sys.num
  rw [if_pos (by simp [sysL])]
 have toe : ∀ a, toL emptyL a = emptyL := fun a => rfl
 have next_in : ∀ K, K ∈ o → ∀ a, a ≤ m → (toL K a ∈ o ∨ toL K a = emptyL) := by
  intro K hK a ha
  by_cases he : toL K a = emptyL
  ·exact Or.inr he
  ·exact Or.inl (h1.closed K hK _ (nexts_mem ha he))
 have run : ∀ (rs : List Int) (K : Lang), (K ∈ o ∨ K = emptyL) → finP (o.map (sysL.state m ls o)) (rs.foldl (stepP (o.map (sysL.state m ls o))) (sysL.num o K)) = K (rs.map (symZ ls)) := by
  intro rs
  induction rs with
  | nil =>
   intro K hK
   by_cases he : K = emptyL
   ·subst he
    rw [nume]
    rfl
   ·obtain ⟨i, hi, hnum⟩ := numk K hK he
    rw [List.foldl_nil, hnum, fin_at hi]
    rfl
  | cons r rs ih =>
   intro K hK
   rw [List.foldl_cons]
   have hle : symZ ls r ≤ m := by rw [← hm]; exact symZ_le ls r
   by_cases he : K = emptyL
   ·subst he
    have e1 : stepP (o.map (sysL.state m ls o)) (sysL.num o emptyL) r = sysL.num o emptyL := by rw [nume]; rfl
    rw [e1, ih emptyL (Or.inr rfl)]
    rfl
   ·obtain ⟨i, hi, hnum⟩ := numk K hK he
    rw [hnum, step_at hn hm hi, ih _ (next_in K (List.mem_of_getElem? hi) _ hle)]
    rfl
 cases rs with
 | nil => exact fin_at h1.head
 | cons r rs =>
  rw [List.foldl_cons]
  have e0 := step_at hn hm h1.head r
  have e1 : stepP (o.map (sysL.state m ls o)) 0 r = sysL.num o (toL L (symZ ls r)) := e0
  rw [e1, run rs _ (next_in L (List.mem_of_getElem? h1.head) _ (by rw [← hm]; exact symZ_le ls r))]
  rfl
end Go.Proofs.YtoinajfliogcdaaDoor
