import Derived.Test.YtjndogajdlophaaMkW
import Derived.Deep.AppendLies
import Derived.Deep.RegionLaw
import Derived.Deep.RegionHeld3
import Derived.Deep.CutBlock
import Derived.BigQuiet
import Derived.Lib.Strings
namespace Go.Proofs.Ytjndogajdlophaa
open Go Go.RowKit
set_option linter.unusedVariables false
set_option maxRecDepth 100000

/-! spec's make: what it is asked and what it does. -/
def suf (ts : List Tx) (lo hi depth : Nat) : List Tx := ((ts.drop lo).take (hi - lo)).map (List.drop depth)
theorem suf_len (ts : List Tx) {lo hi depth : Nat} (h : lo ≤ hi) (h2 : hi ≤ ts.length) : (suf ts lo hi depth).length = hi - lo := by
  simp [suf]; omega
theorem suf_split (ts : List Tx) {lo i hi depth : Nat} (h1 : lo ≤ i) (h2 : i ≤ hi) (h3 : hi ≤ ts.length) : suf ts lo hi depth = suf ts lo i depth ++ suf ts i hi depth := by
  unfold suf
  rw [← List.map_append]
  congr 1
  rw [show hi - lo = (i - lo) + (hi - i) from by omega, List.take_add, List.drop_drop, show lo + (i - lo) = i from by omega]
theorem suf_one (ts : List Tx) {i depth : Nat} (h : i < ts.length) : suf ts i (i + 1) depth = [(ts.getD i []).drop depth] := by
  unfold suf
  rw [show i + 1 - i = 1 from by omega, List.drop_eq_getElem_cons h, List.take_succ_cons, List.take_zero]
  simp [h]
theorem suf_tail (ts : List Tx) (lo hi depth : Nat) : (suf ts lo hi depth).map List.tail = suf ts lo hi (depth + 1) := by
  unfold suf
  rw [List.map_map]
  congr 1
  funext t
  simp [List.tail_drop]
theorem suf_mem {ts : List Tx} {lo hi depth : Nat} {x : Tx} (h : x ∈ suf ts lo hi depth) : ∃ j, lo ≤ j ∧ j < hi ∧ j < ts.length ∧ x = (ts.getD j []).drop depth := by
  unfold suf at h
  obtain ⟨t, ht, rfl⟩ := List.mem_map.1 h
  obtain ⟨k, hk, e⟩ := List.getElem_of_mem ht
  have hk2 := hk
  rw [List.length_take, List.length_drop] at hk2
  refine ⟨lo + k, by omega, by omega, by omega, ?_⟩
  rw [← e]
  simp [show lo + k < ts.length by omega]
theorem suf_in {ts : List Tx} {lo hi depth j : Nat} (h1 : lo ≤ j) (h2 : j < hi) (h3 : j < ts.length) : (ts.getD j []).drop depth ∈ suf ts lo hi depth := by
  unfold suf
  refine List.mem_map.2 ⟨ts.getD j [], ?_, rfl⟩
  refine List.mem_iff_getElem?.2 ⟨j - lo, ?_⟩
  rw [List.getElem?_take, if_pos (by omega), List.getElem?_drop, show lo + (j - lo) = j from by omega]
  simp [h3]
def TsAt (w : World) (r : Nat → Role) (aT : Option Addr) (ts : List Tx) : Prop :=
  ts = [] ∨ ∃ g off, aT = some ⟨g, off, none⟩ ∧ g < w.heap.size ∧ r g = .oth ∧ ∀ j, j < ts.length → w.cell? ⟨g, off + j, none⟩ = some (.string ⟨(ts.getD j []).toArray⟩)
theorem TsAt.fr {w w' : World} {r r' : Nat → Role} {aT : Option Addr} {ts : List Tx} (h : TsAt w r aT ts) (hf : MkFr w w' r r') : TsAt w' r' aT ts := by
  rcases h with h | ⟨g, off, ha, hg, hr, hc⟩
  · exact Or.inl h
  · exact Or.inr ⟨g, off, ha, Nat.lt_of_lt_of_le hg hf.size, (hf.role g hg).trans hr, fun j hj => (World.cell?_of_block (hf.keep g hg (Or.inl hr))).trans (hc j hj)⟩
def MakePost (base bm bb : Nat) (aT : Option Addr) (nT cT : Nat) (O : List (List Tx)) (L : List Tx) (w : World) (r : Nat → Role) (e : Ending) (w' : World) : Prop :=
  ∃ (O' : List (List Tx)) (r' : Nat → Role) (vS' : Value) (vb' : Nat → Value) (xs' : List Value) (cs' : Array Value), e = .returned (.int .i64 ((O'.idxOf L : Nat) : Int)) ∧ MkAt w' r' base bm bb aT nT cT O' vS' vb' xs' cs' ∧ OkO O' ∧ O <+: O' ∧ L ∈ O' ∧ O'.length ≤ O.length + max 1 (szT L) ∧ MkFr w w' r r'
def MakeC (base bm bb : Nat) (aT : Option Addr) (cT : Nat) (ts : List Tx) (f : Nat) : Prop :=
  ∀ (lo hi depth : Nat) (w : World) (r : Nat → Role) (O : List (List Tx)) (vS : Value) (vb : Nat → Value) (xs : List Value) (cs : Array Value), lo ≤ hi → hi ≤ ts.length → ts.length ≤ 4096 → (∀ t ∈ suf ts lo hi depth, t.length < f) → depth + f ≤ 1000 → (∀ j, lo ≤ j → j < hi → depth ≤ (ts.getD j []).length) → RiseT (suf ts lo hi depth) →
    MkAt w r base bm bb aT ts.length cT O vS vb xs cs → OkO O → TsAt w r aT ts → O.length + szT (suf ts lo hi depth) + 1 ≤ 300000 → base ≤ w.heap.size →
    Calls Try.prog 66 #[.pointer (some ⟨bm, 0, none⟩), .int .i64 (lo : Int), .int .i64 (hi : Int), .int .i64 (depth : Int)] w fun e w' => MakePost base bm bb aT ts.length cT O (suf ts lo hi depth) w r e w'
/-- The same where there is a term. -/
def MakeN (base bm bb : Nat) (aT : Option Addr) (cT : Nat) (ts : List Tx) (f : Nat) : Prop :=
  ∀ (lo hi depth : Nat) (w : World) (r : Nat → Role) (O : List (List Tx)) (vS : Value) (vb : Nat → Value) (xs : List Value) (cs : Array Value), lo < hi → hi ≤ ts.length → ts.length ≤ 4096 → (∀ t ∈ suf ts lo hi depth, t.length < f) → depth + f ≤ 1000 → (∀ j, lo ≤ j → j < hi → depth ≤ (ts.getD j []).length) → RiseT (suf ts lo hi depth) →
    MkAt w r base bm bb aT ts.length cT O vS vb xs cs → OkO O → TsAt w r aT ts → O.length + szT (suf ts lo hi depth) + 1 ≤ 300000 → base ≤ w.heap.size →
    Calls Try.prog 66 #[.pointer (some ⟨bm, 0, none⟩), .int .i64 (lo : Int), .int .i64 (hi : Int), .int .i64 (depth : Int)] w fun e w' => MakePost base bm bb aT ts.length cT O (suf ts lo hi depth) w r e w'
theorem MakeC.some {base bm bb : Nat} {aT : Option Addr} {cT : Nat} {ts : List Tx} {f : Nat} (h : MakeC base bm bb aT cT ts f) : MakeN base bm bb aT cT ts f := fun lo hi depth w r O vS vb xs cs hlo => h lo hi depth w r O vS vb xs cs (Nat.le_of_lt hlo)
theorem MakeN.zero (base bm bb : Nat) (aT : Option Addr) (cT : Nat) (ts : List Tx) : MakeN base bm bb aT cT ts 0 := fun lo hi depth w r O vS vb xs cs hlo hhi _ hlen => absurd (hlen _ (suf_in (Nat.le_refl lo) hlo (by omega))) (by omega)
/-- A state under way: the box, its arcs. -/
structure Way (w : World) (r : Nat → Role) (base s : Nat) (fin : Bool) (va : Value) (l : List Ar) : Prop where
  box : w.heap[s]? = some (.cells #[.bool fin, va] 104)
  rs : r s = .oth
  row : w.ownsRow base 110 3 va l.length (aC l)
  rv : ∀ b, va.ownBlock = some b → r b = .oth ∧ b ≠ s ∧ b < w.heap.size
theorem Way.fr {w w' : World} {r r' : Nat → Role} {base s : Nat} {fin : Bool} {va : Value} {l : List Ar} (h : Way w r base s fin va l) (hf : MkFr w w' r r') : Way w' r' base s fin va l := by
  have hs : s < w.heap.size := (Array.getElem?_eq_some_iff.1 h.box).1
  refine ⟨(hf.keep s hs (Or.inl h.rs)).trans h.box, (hf.role s hs).trans h.rs, own_congr h.row fun b hb => ?_, fun b hb => ?_⟩
  · obtain ⟨h1, h2, h3⟩ := h.rv b hb
    exact hf.keep b h3 (Or.inl h1)
  · obtain ⟨h1, h2, h3⟩ := h.rv b hb
    exact ⟨(hf.role b h3).trans h1, h2, Nat.lt_of_lt_of_le h3 hf.size⟩
theorem rise_ne {A B : List Tx} (h : RiseT (A ++ B)) (ha : A ≠ []) : ∀ t ∈ B, t ≠ [] := by
  intro t ht e
  subst e
  obtain ⟨a, ha⟩ := List.exists_mem_of_ne_nil _ ha
  have := (List.pairwise_append.1 h).2.2 a ha [] ht
  cases a <;> simp [ltT] at this
theorem rise_left {A B : List Tx} (h : RiseT (A ++ B)) : RiseT A := (List.pairwise_append.1 h).1
theorem rise_right {A B : List Tx} (h : RiseT (A ++ B)) : RiseT B := (List.pairwise_append.1 h).2.1
theorem szT_ge (L : List Tx) : L.length ≤ szT L := by
  induction L with
  | nil => simp
  | cons t L ih => simp only [szT, List.map_cons, List.sum_cons, List.length_cons] at ih ⊢; omega
theorem szT_le {L : List Tx} {n : Nat} (h : ∀ t ∈ L, t.length ≤ n) : szT L ≤ L.length * (n + 1) := by
  induction L with
  | nil => simp [szT]
  | cons t L ih =>
    have h1 := ih (fun x hx => h x (by simp [hx]))
    have h2 := h t (by simp)
    simp only [szT, List.map_cons, List.sum_cons, List.length_cons, Nat.succ_mul] at h1 ⊢
    omega
theorem idx_run (t : Tx) (d : Nat) (W : World) (h : d < t.length) : (Instr.index 9 (.string ⟨t.toArray⟩) (.int .i64 (d : Int))).run Try.prog W = .ok (.int .u8 ((t.getD d 0).toNat : Int)) W := by
  have hs : (⟨t.toArray⟩ : ByteArray).size = t.length := by rw [Lib.size_eq]
  rw [run_index_string W 9 _ .i64 _ Try.underlying9, dif_pos ⟨by omega, by rw [hs]; omega⟩]
  congr 3
  simp only [Int.toNat_natCast]
  have : (⟨t.toArray⟩ : ByteArray)[d]'(by rw [hs]; exact h) = t[d] := rfl
  rw [this]
  simp [h]
end Go.Proofs.Ytjndogajdlophaa
