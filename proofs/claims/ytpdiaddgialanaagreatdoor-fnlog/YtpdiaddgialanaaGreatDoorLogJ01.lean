import Derived.Test.YtpdiaddgialanaaGreatDoorLogJ00
import Derived.Lib.RuneBytes
import Derived.ArgAppend
import Derived.Lib.Strings
import Derived.Lib.AppendStr
import Derived.Test.YtpdiaddgialanaaGreatDoorProg
import Derived.WalkLawsBesides
import Derived.WalkKit
import Derived.OrdersHeld
import Derived.Handy
import Derived.WalkSpells
import Derived.BigQuiet
import Derived.Deep.QuietTactic
import Derived.BigRegion
import Derived.Deep.Heap
import Derived.Deep.CutBlock
import Derived.Deep.RegionWith
namespace Go.Proofs.YtpdiaddgialanaaGreatDoor
open Go Go.RowKit
set_option linter.unusedVariables false

/-- The bytes l lie at the head of block g. -/
def BytesAtC (w : World) (g : Nat) (l : List UInt8) : Prop := ∀ j (hj : j < l.length), w.cell? ⟨g, j, none⟩ = some (.int .u8 (l[j].toNat : Int))
theorem BytesAtC.take {w : World} {g : Nat} {l : List UInt8} (h : BytesAtC w g l) (k : Nat) : BytesAtC w g (l.take k) := fun j hj => by
  rw [List.length_take] at hj
  rw [h j (by omega)]
  simp
theorem BytesAtC.text {w : World} {g : Nat} {l : List UInt8} (h : BytesAtC w g l) (k cap : Nat) (hk : l.length = k) :
    (convert 22 9 (.slice (some ⟨g, 0, none⟩) k cap)).run Tryz.prog w = .ok (.string ⟨l.toArray⟩) w := by
  subst hk
  exact run_convert_bytes_back w 22 9 5 ⟨g, 0, none⟩ cap l Tryz.underlying22 Tryz.underlying5 Tryz.underlying9 fun j hj => by rw [add_head]; exact h j hj
theorem BytesAtC.kept {w w' : World} {g b : Nat} {l : List UInt8} (h : BytesAtC w g l) (hg : w.grownBy w' (some b)) (hne : g ≠ b) : BytesAtC w' g l := fun j hj => hg.cell (h j hj) (by simpa using hne)
theorem cell_set_same {w : World} {g k : Nat} {v u : Value} (h : w.cell? ⟨g, k, none⟩ = some v) : (w.setCell ⟨g, k, none⟩ u).cell? ⟨g, k, none⟩ = some u := by
  exact World.cell?_setCell_same (h := h) ..
theorem cell_set_ne {w : World} {g k j : Nat} {u : Value} (hne : j ≠ k) : (w.setCell ⟨g, k, none⟩ u).cell? ⟨g, j, none⟩ = w.cell? ⟨g, j, none⟩ := by
  exact World.cell?_setCell_other (h := fun e => hne (by injection e with _ e2 _; exact e2.symm)) ..
theorem BytesAtC.set {w : World} {g : Nat} {l : List UInt8} (h : BytesAtC w g l) (hg : g < w.heap.size) (k : Nat) (hk : k < l.length) (u : UInt8) : BytesAtC (w.setCell ⟨g, k, none⟩ (.int .u8 (u.toNat : Int))) g (l.set k u) := fun j hj => by
  rw [List.length_set] at hj
  by_cases e : j = k
  · subst e
    rw [cell_set_same (h j hk)]
    simp
  · rw [cell_set_ne e, h j hj]
    simp [Ne.symm e]
theorem BytesAtC.snoc {w : World} {g : Nat} {l : List UInt8} (h : BytesAtC w g l) (hg : g < w.heap.size) (u : UInt8) (hc : (w.cell? ⟨g, l.length, none⟩).isSome = true) : BytesAtC (w.setCell ⟨g, l.length, none⟩ (.int .u8 (u.toNat : Int))) g (l ++ [u]) := fun j hj => by
  rw [List.length_append] at hj
  by_cases e : j = l.length
  · subst e
    obtain ⟨v, hv⟩ := Option.isSome_iff_exists.1 hc
    rw [cell_set_same hv]
    simp
  · have hjl : j < l.length := by simp at hj; omega
    rw [cell_set_ne e, h j hjl]
    simp [List.getElem_append_left hjl]
theorem SrcAt.other {w : World} {b : Nat} {cv : Value} {a sd : Int} (h : SrcAt w b cv a sd) (g k : Nat) (u : Value) (hne : g ≠ b) : SrcAt (w.setCell ⟨g, k, none⟩ u) b cv a sd := by
  unfold SrcAt at *
  rw [heap_setCell_other w ⟨g, k, none⟩ b u (fun e => hne e.symm)]
  exact h
theorem bytes_at (l : List UInt8) (j : Nat) (hj : j < l.length) : (Lib.byteCells l)[j]? = some (.int .u8 (l[j].toNat : Int)) := by
  simp [Lib.byteCells, hj]
theorem size_mk (l : List UInt8) : (⟨l.toArray⟩ : ByteArray).size = l.length := by rw [Lib.size_eq]
theorem Tryz.info5 : (Tryz.prog.info? 5).map (fun i => (i.zero, i.size, i.bytes)) = some (some (.int .u8 0), 1, 1) := by kernel_rfl
end Go.Proofs.YtpdiaddgialanaaGreatDoor

namespace Go.Proofs.YtpdiaddgialanaaGreatDoor
open Go Go.RowKit
set_option linter.unusedVariables false

set_option maxHeartbeats 1000000 in
theorem repeat_any (t : ByteArray) (N : Nat) (w : World) (ht : t.size ≤ 16) (hN : N ≤ 100000) :
    Calls Tryz.prog 35 #[.string t, .int .i64 (N : Int)] w fun e w' => ∃ r : ByteArray, e = .returned (.string r) ∧ r.size ≤ t.size * N ∧ Below w.heap.size w w' := by
  obtain ⟨i0, hi, hz0, hz1, hz2⟩ := info_parts Tryz.info5
  go_enter Tryz.func35, Tryz.ntmps35
  go_wp2
  go_loopw [5, 6] (fun v i wr => ∃ (k : Nat) (L : List UInt8), k ≤ N ∧ i = .int .i64 (k : Int) ∧ L.length ≤ t.size * k ∧ wr.ownsRow w.heap.size 5 1 v L.length (Lib.byteCells L) ∧ Below w.heap.size w wr ∧ v ≠ .slice none 0 0) (fun _ i _ => N - (intOf i).toNat)
  case atStart => exact ⟨0, [], Nat.zero_le _, rfl, by simp, own_empty w _, (Below.refl _ _).alloc (Nat.le_refl _) _, by simp⟩
  case round =>
    obtain ⟨k, L, hk, rfl, hL, hown, hbel, hnn⟩ := hrel
    have hL2 : L.length ≤ 16 * k := Nat.le_trans hL (Nat.mul_le_mul_right k ht)
    have HL := hidd hL
    clear hL
    have HO := hidd hown
    have HB := hidd hbel
    have hzr := hbel.size
    by_cases hlt : k < N
    · clear hown hbel
      go_wp2_with (at_builtin; refine Lib.wpList_append_own_string _ rfl _ _ 22 9 rfl w.heap.size 5 i0 Tryz.underlying22 Tryz.underlying9 hi hz0 hz1 hz2 _ _ _ rfl HO.out t rfl ?c1 ?c2 hzr ?_)
      case c1 => unfold maxLen; omega
      case c2 => omega
      intro v' w2 hown' hgrow hne
      have R : Hid (w2.ownsRow w.heap.size 5 1 v' (L ++ t.data.toList).length (Lib.byteCells (L ++ t.data.toList)) ∧ Below w.heap.size w w2) := by
        refine ⟨?_, HB.out.grown hgrow hzr (own_block HO.out)⟩
        rw [List.length_append, ← Lib.size_eq, Lib.byteCells_append]
        exact hown'
      have hne' : Hid (v' ≠ .slice none 0 0) := hne
      clear hown' hgrow hne
      go_wp2
      go_roundw
      case rel => exact ⟨k + 1, L ++ t.data.toList, by omega, by go_num, by rw [List.length_append, ← Lib.size_eq, Nat.mul_succ]; exact Nat.add_le_add_right HL.out _, R.out.1, R.out.2, hne'.out⟩
      case measure => simp [intOf]; omega
    · rcases own_cases hown with ⟨rfl, h0⟩ | ⟨g, cap, rfl, hbg, hgl⟩
      · exact absurd rfl hnn
      · have hbs : BytesAtC wr g L := fun j hj => by rw [hown.cellAt j (by omega)]; exact bytes_at L j hj
        have hcv := hbs.text L.length cap rfl
        clear hbs hown hbel
        go_wp2
        go_ret
        exact ⟨⟨L.toArray⟩, rfl, by rw [size_mk]; exact Nat.le_trans HL.out (Nat.mul_le_mul_left _ hk), HB.out⟩
set_option maxHeartbeats 1000000 in
theorem source_any (ao : Option Addr) (n cap : Nat) (w : World) (hn : n ≤ 1048576) :
    Calls Tryz.prog 12 #[.slice ao n cap] w fun e w' => e = .returned (.pointer (some ⟨w.heap.size, 0, none⟩)) ∧ SrcAt w' w.heap.size (.slice ao n cap) 0 ((n : Int) % 1000) ∧ w.grownBy w' none := by
  go_enter Tryz.func12, Tryz.ntmps12
  go_wp2
  go_ret
  exact ⟨rfl, heap_alloc_new w _, World.grownBy_alloc w _ none⟩
def CodeIn (w : World) (ao : Option Addr) (n : Nat) : Prop := ∀ j, j < n → ∃ blk off z, ao = some ⟨blk, off, none⟩ ∧ blk < w.heap.size ∧ 0 ≤ z ∧ z ≤ 255 ∧ w.cell? ⟨blk, off + j, none⟩ = some (.int .u8 z)
theorem CodeIn.code {w w' : World} {ao : Option Addr} {n : Nat} (h : CodeIn w ao n) (hg : w.grownBy w' none) : Code w' w.heap.size ao n := fun j hj => by
  obtain ⟨blk, off, z, h1, h2, h3, h4, h5⟩ := h j hj
  exact ⟨blk, off, z, h1, by omega, h3, h4, hg.cell h5 (by simp)⟩
theorem CodeIn.below {w w' : World} {ao : Option Addr} {n : Nat} (h : CodeIn w ao n) (hb : Below w.heap.size w w') : CodeIn w' ao n := fun j hj => by
  obtain ⟨blk, off, z, h1, h2, h3, h4, h5⟩ := h j hj
  exact ⟨blk, off, z, h1, Nat.lt_of_lt_of_le h2 hb.size, h3, h4, by rw [hb.cell (p := ⟨blk, off + j, none⟩) h2]; exact h5⟩
end Go.Proofs.YtpdiaddgialanaaGreatDoor

namespace Go.Proofs.YtpdiaddgialanaaGreatDoor
open Go

def bs (l : List UInt8) : ByteArray := ⟨l.toArray⟩
def lst (s : ByteArray) : List UInt8 := s.data.toList
theorem lst_bs (l : List UInt8) : lst (bs l) = l := by simp [bs, lst]
theorem lst_len (s : ByteArray) : (lst s).length = s.size := (Lib.size_eq s).symm
theorem bs_size (l : List UInt8) : (bs l).size = l.length := by rw [← lst_len, lst_bs]
def ends (l e : List UInt8) : Bool := Lib.hasSuffix l e
def small (c : UInt8) : Bool := decide (97 ≤ c.toNat ∧ c.toNat ≤ 122)
end Go.Proofs.YtpdiaddgialanaaGreatDoor

namespace Go.Proofs.YtpdiaddgialanaaGreatDoor
open Go Go.RowKit
set_option linter.unusedVariables false

end Go.Proofs.YtpdiaddgialanaaGreatDoor

namespace Go.Proofs.YtpdiaddgialanaaGreatDoor
open Go Go.RowKit
set_option linter.unusedVariables false

set_option maxHeartbeats 400000 in
theorem within_any (r lo hi : Int) (w : World) : Calls Tryz.prog 36 #[.int .i64 r, .int .i64 lo, .int .i64 hi] w fun e w' => e = .returned (.bool (decide (lo ≤ r) && decide (r ≤ hi))) ∧ w' = w := by
  by_cases h : lo ≤ r
  · have HB : Hid (decide (lo ≤ r) = true) := decide_eq_true h
    go_enter Tryz.func36, Tryz.ntmps36
    go_wp2
    go_ret
    rw [HB.out, Bool.true_and]
    exact ⟨rfl, rfl⟩
  · have HB : Hid (decide (lo ≤ r) = false) := decide_eq_false h
    go_enter Tryz.func36, Tryz.ntmps36
    go_wp2
    go_ret
    rw [HB.out, Bool.false_and]
    exact ⟨rfl, rfl⟩
end Go.Proofs.YtpdiaddgialanaaGreatDoor

namespace Go.Proofs.YtpdiaddgialanaaGreatDoor
open Go Go.RowKit
set_option linter.unusedVariables false

/-- A slice that holds these texts, wherever it lies. -/
def HoldS (w : World) (a : Option Addr) (l : List (List UInt8)) : Prop :=
  l = [] ∨ ∃ b off, a = some ⟨b, off, none⟩ ∧ b < w.heap.size ∧ ∀ t, t < l.length → w.cell? ⟨b, off + t, none⟩ = some (.string (bs (l.getD t [])))
theorem HoldS.below {w w' : World} {a : Option Addr} {l : List (List UInt8)} (h : HoldS w a l) (hb : Below w.heap.size w w') : HoldS w' a l := by
  rcases h with h | ⟨b, off, h1, h2, h3⟩
  · exact Or.inl h
  · exact Or.inr ⟨b, off, h1, Nat.lt_of_lt_of_le h2 hb.size, fun t ht => (hb.cell (p := ⟨b, off + t, none⟩) h2).trans (h3 t ht)⟩
/-- A slice of pairs of texts. -/
def HoldY (w : World) (a : Option Addr) (l : List (List UInt8 × List UInt8)) : Prop :=
  l = [] ∨ ∃ b off, a = some ⟨b, off, none⟩ ∧ b < w.heap.size ∧ ∀ t, t < l.length → w.cell? ⟨b, off + t * 2, none⟩ = some (.string (bs (l.getD t ([], [])).1)) ∧ w.cell? ⟨b, off + t * 2 + 1, none⟩ = some (.string (bs (l.getD t ([], [])).2))
theorem HoldY.below {w w' : World} {a : Option Addr} {l : List (List UInt8 × List UInt8)} (h : HoldY w a l) (hb : Below w.heap.size w w') : HoldY w' a l := by
  rcases h with h | ⟨b, off, h1, h2, h3⟩
  · exact Or.inl h
  · exact Or.inr ⟨b, off, h1, Nat.lt_of_lt_of_le h2 hb.size, fun t ht => ⟨(hb.cell (p := ⟨b, off + t * 2, none⟩) h2).trans (h3 t ht).1, (hb.cell (p := ⟨b, off + t * 2 + 1, none⟩) h2).trans (h3 t ht).2⟩⟩
def szS (l : List (List UInt8)) : Prop := ∀ t, t < l.length → (bs (l.getD t [])).size ≤ 1048576
def szY (l : List (List UInt8 × List UInt8)) : Prop := ∀ t, t < l.length → (bs (l.getD t ([], [])).1).size ≤ 1048576 ∧ (bs (l.getD t ([], [])).2).size ≤ 1048576
end Go.Proofs.YtpdiaddgialanaaGreatDoor

namespace Go.Proofs.YtpdiaddgialanaaGreatDoor
open Go Go.RowKit
set_option linter.unusedVariables false

theorem Tryz.infoSyn : (Tryz.prog.info? 151).map (fun i => (i.zero, i.size, i.bytes)) = some (some (.agg #[.string ⟨#[]⟩, .string ⟨#[]⟩]), 2, 32) := by kernel_rfl
def yCells (l : List (List UInt8 × List UInt8)) : List Value := l.flatMap fun y => [Value.string (bs y.1), Value.string (bs y.2)]
theorem yCells_len : ∀ l : List (List UInt8 × List UInt8), (yCells l).length = l.length * 2
  | [] => rfl
  | y :: t => by have := yCells_len t; simp only [yCells, List.flatMap_cons, List.length_append, List.length_cons, List.length_nil] at *; omega
theorem yCells_snoc (l : List (List UInt8 × List UInt8)) (y : List UInt8 × List UInt8) : yCells (l ++ [y]) = yCells l ++ [.string (bs y.1), .string (bs y.2)] := by simp [yCells]
theorem yCells_at : ∀ (l : List (List UInt8 × List UInt8)) (k : Nat), k < l.length → (yCells l)[k * 2]? = some (.string (bs (l.getD k ([], [])).1)) ∧ (yCells l)[k * 2 + 1]? = some (.string (bs (l.getD k ([], [])).2))
  | y :: t, 0, _ => ⟨rfl, rfl⟩
  | y :: t, k + 1, h => by
    have ih := yCells_at t k (by simpa using h)
    have e : yCells (y :: t) = [.string (bs y.1), .string (bs y.2)] ++ yCells t := by simp [yCells]
    rw [e, List.getElem?_append_right (by simp; omega), List.getElem?_append_right (by simp; omega)]
    simp only [List.length_cons, List.length_nil, List.getD_cons_succ]
    rw [show (k + 1) * 2 - (0 + 1 + 1) = k * 2 by omega, show (k + 1) * 2 + 1 - (0 + 1 + 1) = k * 2 + 1 by omega]
    exact ih
theorem own2_lt {w : World} {base e g n cap : Nat} {xs : List Value} (h : w.ownsRow base e 2 (.slice (some ⟨g, 0, none⟩) n cap) n xs) : g < w.heap.size := by
  rcases h.2 with ⟨h', _⟩ | ⟨g', cap', cur, h', _, hg, _⟩
  · simp at h'
  · simp only [Value.slice.injEq, Option.some.injEq, Addr.mk.injEq, and_true, true_and] at h'
    obtain ⟨rfl, rfl⟩ := h'
    exact (Array.getElem?_eq_some_iff.1 hg).1
theorem holdY_own {w : World} {base g cap : Nat} {l : List (List UInt8 × List UInt8)} (h : w.ownsRow base 151 2 (.slice (some ⟨g, 0, none⟩) l.length cap) l.length (yCells l)) : HoldY w (some ⟨g, 0, none⟩) l :=
  Or.inr ⟨g, 0, rfl, own2_lt h, fun t ht => by
    rw [Nat.zero_add]
    exact ⟨by rw [h.cellAt (t * 2) (by omega)]; exact (yCells_at l t ht).1, by rw [h.cellAt (t * 2 + 1) (by omega)]; exact (yCells_at l t ht).2⟩⟩
section
variable {ops : Array Oper} {Q : Exit → Act → World → Prop} {S : World → Prop} {md : Region.Mode} {a : Act} {w : World}
theorem wpAnyH_two (i j : Nat) {fuel : Nat} {listed : Array Bool} (hr : Region.ready md ops listed = [i, j])
    (h1 : wpOp Tryz.prog ops Q i (fun a' w' => S w' ∧ wpAnyH Tryz.prog md ops Q S fuel (listed.setIfInBounds i true) a' w') a w)
    (h2 : wpOp Tryz.prog ops Q j (fun a' w' => S w' ∧ wpAnyH Tryz.prog md ops Q S fuel (listed.setIfInBounds j true) a' w') a w) : wpAnyH Tryz.prog md ops Q S (fuel + 1) listed a w :=
  wpAnyH_all hr (by simp) (fun k hk => by
    have e : k = i ∨ k = j := by simpa using hk
    rcases e with rfl | rfl
    · exact h1
    · exact h2)
theorem wpAnyH_three (i j l : Nat) {fuel : Nat} {listed : Array Bool} (hr : Region.ready md ops listed = [i, j, l])
    (h1 : wpOp Tryz.prog ops Q i (fun a' w' => S w' ∧ wpAnyH Tryz.prog md ops Q S fuel (listed.setIfInBounds i true) a' w') a w)
    (h2 : wpOp Tryz.prog ops Q j (fun a' w' => S w' ∧ wpAnyH Tryz.prog md ops Q S fuel (listed.setIfInBounds j true) a' w') a w)
    (h3 : wpOp Tryz.prog ops Q l (fun a' w' => S w' ∧ wpAnyH Tryz.prog md ops Q S fuel (listed.setIfInBounds l true) a' w') a w) : wpAnyH Tryz.prog md ops Q S (fuel + 1) listed a w :=
  wpAnyH_all hr (by simp) (fun k hk => by
    have e : k = i ∨ k = j ∨ k = l := by simpa using hk
    rcases e with rfl | rfl | rfl
    · exact h1
    · exact h2
    · exact h3)
end
end Go.Proofs.YtpdiaddgialanaaGreatDoor

namespace Go.Proofs.YtpdiaddgialanaaGreatDoor
open Go Go.RowKit
set_option linter.unusedVariables false
set_option maxRecDepth 100000

theorem blkc {w : World} {b : Nat} {cs : Array Value} {t : TypeId} (h : w.heap[b]? = some (.cells cs t)) (k : Nat) : w.cell? ⟨b, k, none⟩ = cs[k]? := by
  simp [World.cell?, h]
theorem blko {w w' : World} {b : Nat} {o : Obj} (h : w.heap[b]? = some o) (hb : Below w.heap.size w w') : w'.heap[b]? = some o := (hb.block b (Array.getElem?_eq_some_iff.1 h).1).trans h
theorem blkf {w : World} {b : Nat} {cs : Array Value} {t : TypeId} (h : w.heap[b]? = some (.cells cs t)) (k : Nat) : w.frozen? ⟨b, k, none⟩ = false := by
  simp [World.frozen?, h]
theorem box_two (w : World) (o1 o2 : Obj) : ((w.alloc o1).alloc o2).heap[w.heap.size]? = some o1 ∧ ((w.alloc o1).alloc o2).heap[w.heap.size + 1]? = some o2 := by
  refine ⟨?_, ?_⟩
  · rw [Below.heap_alloc _ _ _ (by simp)]; exact heap_alloc_new _ _
  · have := heap_alloc_new (w.alloc o1) o2
    rw [World.size_alloc] at this
    exact this
theorem heap_set_other (w : World) (b k : Nat) (u : Value) (x : Nat) (hx : x ≠ b) : (w.setCell ⟨b, k, none⟩ u).heap[x]? = w.heap[x]? := heap_setCell_other w ⟨b, k, none⟩ x u hx
theorem blk_setk {w : World} {b : Nat} {cs : Array Value} {t : TypeId} (h : w.heap[b]? = some (.cells cs t)) (k : Nat) (u : Value) : (w.setCell ⟨b, k, none⟩ u).heap[b]? = some (.cells (cs.setIfInBounds k u) t) := by
  obtain ⟨hlt, hk⟩ := Array.getElem?_eq_some_iff.1 h
  show (w.heap.modify b _)[b]? = _
  rw [Array.getElem?_eq_getElem (by rw [Array.size_modify]; exact hlt), Array.getElem_modify_self, hk]
  rfl
theorem blk_set2 {w : World} {b : Nat} {u v x y : Value} {t : TypeId} (h : w.heap[b]? = some (.cells #[u, v] t)) : ((w.setCell ⟨b, 0, none⟩ x).setCell ⟨b, 1, none⟩ y).heap[b]? = some (.cells #[x, y] t) := by
  have h2 := blk_setk (blk_setk h 0 x) 1 y
  simpa using h2
theorem blk_ne {w : World} {a b : Nat} {c1 c2 : Array Value} {t1 t2 : TypeId} (h1 : w.heap[a]? = some (Obj.cells c1 t1)) (h2 : w.heap[b]? = some (Obj.cells c2 t2)) (hne : t1 ≠ t2) : a ≠ b := by
  rintro rfl
  rw [h1] at h2
  simp only [Option.some.injEq, Obj.cells.injEq] at h2
  exact hne h2.2.1
theorem box_grown {W V w6 : World} {QB : Nat} {o : Obj} {v : Value} (hQ : W.heap[QB]? = some o) (hV : Below W.heap.size W V) (hg : V.grownBy w6 v.ownBlock) (hv : v.ownBlock ≠ some QB) : w6.heap[QB]? = some o := by
  have h1 := (Array.getElem?_eq_some_iff.1 hQ).1
  have h2 := hV.size
  rw [hg.block QB (by omega) (fun e => hv e.symm), hV.block QB h1, hQ]
theorem own_congr {w w' : World} {base e size n : Nat} {v : Value} {xs : List Value} (h : w.ownsRow base e size v n xs) (hb : ∀ b, v.ownBlock = some b → w'.heap[b]? = w.heap[b]?) : w'.ownsRow base e size v n xs := by
  refine ⟨h.1, ?_⟩
  rcases h.2 with h' | ⟨g, cap, cur, rfl, h2, h3, h4⟩
  · exact Or.inl h'
  · exact Or.inr ⟨g, cap, cur, rfl, h2, by rw [hb g rfl]; exact h3, h4⟩
theorem own_blk {w : World} {base e size n : Nat} {v : Value} {xs : List Value} (h : w.ownsRow base e size v n xs) {b : Nat} (hb : v.ownBlock = some b) : base ≤ b ∧ ∃ cur, w.heap[b]? = some (.cells cur e) := by
  rcases h.2 with ⟨h', _⟩ | ⟨g, cap, cur, rfl, h2, h3, _⟩
  · rw [h'] at hb; cases hb
  · cases hb; exact ⟨h2, cur, h3⟩
end Go.Proofs.YtpdiaddgialanaaGreatDoor
