import Derived.Test.YtionicjnoogpjaaGreatDoorAnalyzJ02
import Derived.Test.YtionicjnoogpjaaGreatDoorAnalyzJ01
import Derived.Lib.RuneCount
import Derived.Lib.IndexBytes
import Derived.Test.YtionicjnoogpjaaGreatDoorProg
import Derived.Test.YtionicjnoogpjaaGreatDoorAnalyzJ00
import Derived.WalkLawsBesides
import Derived.WalkKit
import Derived.OrdersHeld
import Derived.Handy
import Derived.WalkSpells
import Derived.BigQuiet
import Derived.Deep.QuietTactic
import Derived.BigRegion
import Derived.Deep.Heap
import Derived.Deep.CutBlock
import Derived.Deep.RegionWith
namespace Go.Proofs.YtionicjnoogpjaaGreatDoor
open Go
set_option linter.unusedVariables false

/-- The grams that stand at the head of t: of n characters, of n + 1, .. (f sizes). -/
def gAt (t : List Int) : Nat → Nat → List (List UInt8)
  | _, 0 => []
  | n, f + 1 => if n ≤ t.length then encs (t.take n) :: gAt t (n + 1) f else []
def gAll (lo f : Nat) : List Int → List (List UInt8)
  | [] => []
  | r :: t => gAt (r :: t) lo f ++ gAll lo f t
def cntG (len : Nat) : Nat → Nat → Nat
  | _, 0 => 0
  | n, f + 1 => (len + 1 - n) + cntG len (n + 1) f
theorem gAt_none (t : List Int) (n f : Nat) (h : t.length < n) : gAt t n f = [] := by
  cases f with
  | zero => rfl
  | succ f => rw [gAt, if_neg (by omega)]
theorem gAt_step (t : List Int) (n f : Nat) (h : n ≤ t.length) : gAt t n (f + 1) = encs (t.take n) :: gAt t (n + 1) f := by rw [gAt, if_pos h]
theorem cntG_big (len : Nat) : ∀ n f, len < n → cntG len n f = 0
  | _, 0, _ => rfl
  | n, f + 1, h => by rw [cntG, cntG_big len (n + 1) f (by omega)]; omega
theorem cntG_succ (t : List Int) : ∀ (f n : Nat), 1 ≤ n → cntG t.length n f = cntG (t.length - 1) n f + (gAt t n f).length ∨ t.length = 0
  | 0, n, _ => Or.inl rfl
  | f + 1, n, hn => by
    by_cases h0 : t.length = 0
    · exact Or.inr h0
    · refine Or.inl ?_
      rcases cntG_succ t f (n + 1) (by omega) with ih | ih
      · rw [cntG, cntG, ih]
        by_cases h : n ≤ t.length
        · rw [gAt_step t n f h, List.length_cons]; omega
        · rw [gAt_none t n (f + 1) (by omega), gAt_none t (n + 1) f (by omega)]
          simp only [List.length_nil]
          omega
      · exact absurd ih h0
theorem gAll_len (lo f : Nat) (hlo : 1 ≤ lo) : ∀ l : List Int, (gAll lo f l).length = cntG l.length lo f
  | [] => by
    rw [gAll, List.length_nil]
    cases f with
    | zero => rfl
    | succ f => rw [cntG, cntG_big _ _ _ (by simp only [List.length_nil]; omega)]; simp only [List.length_nil]; omega
  | r :: t => by
    rw [gAll, List.length_append, gAll_len lo f hlo t]
    rcases cntG_succ (r :: t) f lo hlo with h | h
    · rw [h]; simp only [List.length_cons, Nat.add_sub_cancel]; omega
    · simp at h
theorem gAll_drop (lo f : Nat) (l : List Int) (k : Nat) (h : k < l.length) : gAll lo f (l.drop k) = gAt (l.drop k) lo f ++ gAll lo f (l.drop (k + 1)) := by
  rw [List.drop_eq_getElem_cons h, gAll]
theorem gAll_end (lo f : Nat) (l : List Int) (k : Nat) (h : ¬ k < l.length) : gAll lo f (l.drop k) = [] := by
  rw [List.drop_of_length_le (by omega), gAll]
def gOK (lo hi : Int) : Bool := decide (1 ≤ lo ∧ lo ≤ hi ∧ hi ≤ 8)
def gFull (s : ByteArray) (lo hi : Int) : List (List UInt8) := gAll lo.toNat (hi + 1 - lo).toNat (decList s)
def gCode (s : ByteArray) (lo hi : Int) : Int :=
  if decCode s = 0 then (if gOK lo hi = true then (if (gFull s lo hi).length ≤ 4096 then 0 else 11) else 1) else decCode s
def gList (s : ByteArray) (lo hi : Int) : List (List UInt8) := if gCode s lo hi = 0 then gFull s lo hi else []
theorem runeCount_len (s : ByteArray) : Lib.runeCount s = (runes s).length := by
  have key : ∀ f p, Lib.runeCountFrom s f p = (runesFrom s f p).length := by
    intro f
    induction f with
    | zero => intro p; rfl
    | succ f ih =>
      intro p
      by_cases h : p < s.size
      · rw [Lib.runeCountFrom, if_pos h, runesFrom_step s f p h, List.length_cons, ih]; omega
      · rw [Lib.runeCountFrom, if_neg h, runesFrom_end s _ p h]; rfl
  exact key _ _
theorem ext_bytes (s : ByteArray) (p : Nat) (h : p ≤ s.size) : (s.extract p s.size).data.toList = s.data.toList.drop p := by
  rw [Lib.extract_to_end]
theorem ext_decode (s : ByteArray) (p t : Nat) (h : p ≤ s.size) : Utf8.decode (s.extract p s.size) t = Utf8.decode s (p + t) := by
  rw [← Lib.decodeL_drop, ← Lib.decodeL_drop, ext_bytes s p h, List.drop_drop]
theorem ext_size (s : ByteArray) (p : Nat) (h : p ≤ s.size) : (s.extract p s.size).size = s.size - p := by
  rw [← data_len, ext_bytes s p h, List.length_drop, data_len]
theorem ext_valid (s : ByteArray) (p : Nat) (h : p ≤ s.size) : validB (s.extract p s.size) = vFrom s p := by
  rw [validB, vFrom, ext_bytes s p h]
theorem ext_runes (s : ByteArray) (p : Nat) (h : p ≤ s.size) : runes (s.extract p s.size) = Rs s p := by
  have key : ∀ f q, runesFrom (s.extract p s.size) f q = runesFrom s f (p + q) := by
    intro f
    induction f with
    | zero => intro q; rfl
    | succ f ih =>
      intro q
      by_cases hq : q < (s.extract p s.size).size
      · have hq2 : p + q < s.size := by rw [ext_size s p h] at hq; omega
        rw [runesFrom_step _ f q hq, runesFrom_step s f _ hq2, ih, ext_decode s p q h, Nat.add_assoc]
      · have hq2 : ¬ p + q < s.size := by rw [ext_size s p h] at hq; omega
        rw [runesFrom_end _ _ _ hq, runesFrom_end _ _ _ hq2]
  rw [runes, key, Nat.add_zero, ext_size s p h, Rs]
  exact runesFrom_fuel s _ _ _ (by omega) (by omega)
theorem head_cut (t : ByteArray) (k : Nat) (hv : validB t = true) : t.extract 0 (blen ((runes t).take k)) = bs (encs ((runes t).take k)) := by
  have hv0 : vFrom t 0 = true := by rw [vFrom_zero]; exact hv
  have h1 := Rs_take_bytes t k 0 hv0
  rw [Rs_zero, List.drop_zero] at h1
  rw [Lib.extract_eq, bs, h1]
  simp
theorem at_runes (t : ByteArray) (k : Nat) (hv : validB t = true) : Rs t (blen ((runes t).take k)) = (runes t).drop k ∧ vFrom t (blen ((runes t).take k)) = true := by
  have := Rs_drop t k 0 (by rw [vFrom_zero]; exact hv)
  rwa [Nat.zero_add, Rs_zero] at this
theorem at_lt (t : ByteArray) (k : Nat) (hv : validB t = true) : k < (runes t).length ↔ blen ((runes t).take k) < t.size := by
  have h := at_runes t k hv
  constructor
  · intro hk
    by_cases hp : blen ((runes t).take k) < t.size
    · exact hp
    · rw [Rs_end t _ hp] at h
      have := congrArg List.length h.1
      rw [List.length_drop] at this
      simp at this
      omega
  · intro hp
    by_cases hk : k < (runes t).length
    · exact hk
    · rw [List.drop_of_length_le (by omega), Rs_step t _ hp] at h
      cases h.1
theorem at_step (t : ByteArray) (k : Nat) (hv : validB t = true) (hp : blen ((runes t).take k) < t.size) :
    ((Utf8.decode t (blen ((runes t).take k))).1 : Int) = (runes t).getD k 0 ∧ blen ((runes t).take (k + 1)) = blen ((runes t).take k) + (Utf8.decode t (blen ((runes t).take k))).2 ∧ chr ((runes t).getD k 0) = true := by
  have h := at_runes t k hv
  have hk := (at_lt t k hv).2 hp
  have hg := good_of t _ hp h.2
  have e : (runes t).drop k = (runes t).getD k 0 :: (runes t).drop (k + 1) := by rw [List.drop_eq_getElem_cons hk]; simp [hk]
  rw [Rs_step t _ hp, e] at h
  have h1 := (List.cons.inj h.1).1
  refine ⟨h1, ?_, ?_⟩
  · rw [take_snoc _ k hk, blen_append, ← h1, blen_cons, rune_width t _ hp hg, blen_nil]
    rfl
  · rw [← h1]; exact rune_chr t _ hg
end Go.Proofs.YtionicjnoogpjaaGreatDoor

namespace Go.Proofs.YtionicjnoogpjaaGreatDoor
open Go
set_option linter.unusedVariables false

/-- Texts that may stand in an analyser. -/
def tOK (t : List UInt8) : Bool := decide (1 ≤ t.length) && decide (t.length ≤ 64) && validB (bs t)
def yOK (y : List UInt8 × List UInt8) : Bool := tOK y.1 && tOK y.2 && !(y.1 == y.2)
def rOK (lo hi : Int) : Bool := (decide (lo = 0) && decide (hi = 0)) || gOK lo hi
def tsOK (l : List (List UInt8)) : Bool := l.all tOK
def ysOK (l : List (List UInt8 × List UInt8)) : Bool := l.all yOK
def azOK (stops : List (List UInt8)) (syns : List (List UInt8 × List UInt8)) (lo hi : Int) : Bool :=
  decide (stops.length ≤ 64) && decide (syns.length ≤ 64) && tsOK stops && ysOK syns && rOK lo hi
theorem tsOK_snoc (l : List (List UInt8)) (k : Nat) (h : k < l.length) : tsOK (l.take (k + 1)) = (tsOK (l.take k) && tOK (l.getD k [])) := by
  rw [tsOK, List.take_succ_eq_append_getElem h, List.all_append, List.getD_eq_getElem?_getD, List.getElem?_eq_getElem h]
  simp only [List.all_cons, List.all_nil, Bool.and_true, Option.getD_some]
  rfl
theorem ysOK_snoc (l : List (List UInt8 × List UInt8)) (k : Nat) (h : k < l.length) : ysOK (l.take (k + 1)) = (ysOK (l.take k) && yOK (l.getD k ([], []))) := by
  rw [ysOK, List.take_succ_eq_append_getElem h, List.all_append, List.getD_eq_getElem?_getD, List.getElem?_eq_getElem h]
  simp only [List.all_cons, List.all_nil, Bool.and_true, Option.getD_some]
  rfl
theorem tsOK_no {l : List (List UInt8)} {k : Nat} (h : k < l.length) (hn : tOK (l.getD k []) = false) : tsOK l = false := by
  rw [tsOK, List.all_eq_false]
  refine ⟨l.getD k [], ?_, by rw [hn]; simp⟩
  rw [List.getD_eq_getElem?_getD, List.getElem?_eq_getElem h, Option.getD_some]
  exact List.getElem_mem _
theorem ysOK_no {l : List (List UInt8 × List UInt8)} {k : Nat} (h : k < l.length) (hn : yOK (l.getD k ([], [])) = false) : ysOK l = false := by
  rw [ysOK, List.all_eq_false]
  refine ⟨l.getD k ([], []), ?_, by rw [hn]; simp⟩
  rw [List.getD_eq_getElem?_getD, List.getElem?_eq_getElem h, Option.getD_some]
  exact List.getElem_mem _
theorem all_full {α : Type} (l : List α) (k : Nat) (h : ¬ k < l.length) : l.take k = l := List.take_of_length_le (by omega)
end Go.Proofs.YtionicjnoogpjaaGreatDoor

namespace Go.Proofs.YtionicjnoogpjaaGreatDoor
open Go Go.RowKit
set_option linter.unusedVariables false

set_option maxHeartbeats 400000 in
theorem within_any (r lo hi : Int) (w : World) : Calls Tryz.prog 88 #[.int .i64 r, .int .i64 lo, .int .i64 hi] w fun e w' => e = .returned (.bool (decide (lo ≤ r) && decide (r ≤ hi))) ∧ w' = w := by
  by_cases h : lo ≤ r
  · have HB : Hid (decide (lo ≤ r) = true) := decide_eq_true h
    go_enter Tryz.func88, Tryz.ntmps88
    go_wp2
    go_ret
    rw [HB.out, Bool.true_and]
    exact ⟨rfl, rfl⟩
  · have HB : Hid (decide (lo ≤ r) = false) := decide_eq_false h
    go_enter Tryz.func88, Tryz.ntmps88
    go_wp2
    go_ret
    rw [HB.out, Bool.false_and]
    exact ⟨rfl, rfl⟩
end Go.Proofs.YtionicjnoogpjaaGreatDoor

namespace Go.Proofs.YtionicjnoogpjaaGreatDoor
open Go Go.RowKit
set_option linter.unusedVariables false

/-- A slice that holds these texts, wherever it lies. -/
def HoldS (w : World) (a : Option Addr) (l : List (List UInt8)) : Prop :=
  l = [] ∨ ∃ b off, a = some ⟨b, off, none⟩ ∧ b < w.heap.size ∧ ∀ t, t < l.length → w.cell? ⟨b, off + t, none⟩ = some (.string (bs (l.getD t [])))
theorem HoldS.below {w w' : World} {a : Option Addr} {l : List (List UInt8)} (h : HoldS w a l) (hb : Below w.heap.size w w') : HoldS w' a l := by
  rcases h with h | ⟨b, off, h1, h2, h3⟩
  · exact Or.inl h
  · exact Or.inr ⟨b, off, h1, Nat.lt_of_lt_of_le h2 hb.size, fun t ht => (hb.cell (p := ⟨b, off + t, none⟩) h2).trans (h3 t ht)⟩
/-- A slice of pairs of texts. -/
def HoldY (w : World) (a : Option Addr) (l : List (List UInt8 × List UInt8)) : Prop :=
  l = [] ∨ ∃ b off, a = some ⟨b, off, none⟩ ∧ b < w.heap.size ∧ ∀ t, t < l.length → w.cell? ⟨b, off + t * 2, none⟩ = some (.string (bs (l.getD t ([], [])).1)) ∧ w.cell? ⟨b, off + t * 2 + 1, none⟩ = some (.string (bs (l.getD t ([], [])).2))
theorem HoldY.below {w w' : World} {a : Option Addr} {l : List (List UInt8 × List UInt8)} (h : HoldY w a l) (hb : Below w.heap.size w w') : HoldY w' a l := by
  rcases h with h | ⟨b, off, h1, h2, h3⟩
  · exact Or.inl h
  · exact Or.inr ⟨b, off, h1, Nat.lt_of_lt_of_le h2 hb.size, fun t ht => ⟨(hb.cell (p := ⟨b, off + t * 2, none⟩) h2).trans (h3 t ht).1, (hb.cell (p := ⟨b, off + t * 2 + 1, none⟩) h2).trans (h3 t ht).2⟩⟩
def szS (l : List (List UInt8)) : Prop := ∀ t, t < l.length → (bs (l.getD t [])).size ≤ 1048576
def szY (l : List (List UInt8 × List UInt8)) : Prop := ∀ t, t < l.length → (bs (l.getD t ([], [])).1).size ≤ 1048576 ∧ (bs (l.getD t ([], [])).2).size ≤ 1048576
end Go.Proofs.YtionicjnoogpjaaGreatDoor

namespace Go.Proofs.YtionicjnoogpjaaGreatDoor
open Go Go.RowKit
set_option linter.unusedVariables false

theorem Tryz.infoStr2 : (Tryz.prog.info? 9).map (fun i => (i.zero, i.size, i.bytes)) = some (some (.string ⟨#[]⟩), 1, 16) := by kernel_rfl
theorem Tryz.infoSyn : (Tryz.prog.info? 80).map (fun i => (i.zero, i.size, i.bytes)) = some (some (.agg #[.string ⟨#[]⟩, .string ⟨#[]⟩]), 2, 32) := by kernel_rfl
def yCells (l : List (List UInt8 × List UInt8)) : List Value := l.flatMap fun y => [Value.string (bs y.1), Value.string (bs y.2)]
theorem yCells_len : ∀ l : List (List UInt8 × List UInt8), (yCells l).length = l.length * 2
  | [] => rfl
  | y :: t => by have := yCells_len t; simp only [yCells, List.flatMap_cons, List.length_append, List.length_cons, List.length_nil] at *; omega
theorem yCells_snoc (l : List (List UInt8 × List UInt8)) (y : List UInt8 × List UInt8) : yCells (l ++ [y]) = yCells l ++ [.string (bs y.1), .string (bs y.2)] := by simp [yCells]
theorem yCells_at : ∀ (l : List (List UInt8 × List UInt8)) (k : Nat), k < l.length → (yCells l)[k * 2]? = some (.string (bs (l.getD k ([], [])).1)) ∧ (yCells l)[k * 2 + 1]? = some (.string (bs (l.getD k ([], [])).2))
  | y :: t, 0, _ => ⟨rfl, rfl⟩
  | y :: t, k + 1, h => by
    have ih := yCells_at t k (by simpa using h)
    have e : yCells (y :: t) = [.string (bs y.1), .string (bs y.2)] ++ yCells t := by simp [yCells]
    rw [e, List.getElem?_append_right (by simp; omega), List.getElem?_append_right (by simp; omega)]
    simp only [List.length_cons, List.length_nil, List.getD_cons_succ]
    rw [show (k + 1) * 2 - (0 + 1 + 1) = k * 2 by omega, show (k + 1) * 2 + 1 - (0 + 1 + 1) = k * 2 + 1 by omega]
    exact ih
theorem holdS_own {w : World} {base g cap : Nat} {l : List (List UInt8)} (h : w.ownsRow base 9 1 (.slice (some ⟨g, 0, none⟩) l.length cap) l.length (sCells l)) : HoldS w (some ⟨g, 0, none⟩) l :=
  Or.inr ⟨g, 0, rfl, own_lt h, fun t ht => by rw [Nat.zero_add]; exact ownS_cells h t ht⟩
theorem own2_lt {w : World} {base e g n cap : Nat} {xs : List Value} (h : w.ownsRow base e 2 (.slice (some ⟨g, 0, none⟩) n cap) n xs) : g < w.heap.size := by
  rcases h.2 with ⟨h', _⟩ | ⟨g', cap', cur, h', _, hg, _⟩
  · simp at h'
  · simp only [Value.slice.injEq, Option.some.injEq, Addr.mk.injEq, and_true, true_and] at h'
    obtain ⟨rfl, rfl⟩ := h'
    exact (Array.getElem?_eq_some_iff.1 hg).1
theorem holdY_own {w : World} {base g cap : Nat} {l : List (List UInt8 × List UInt8)} (h : w.ownsRow base 80 2 (.slice (some ⟨g, 0, none⟩) l.length cap) l.length (yCells l)) : HoldY w (some ⟨g, 0, none⟩) l :=
  Or.inr ⟨g, 0, rfl, own2_lt h, fun t ht => by
    rw [Nat.zero_add]
    exact ⟨by rw [h.cellAt (t * 2) (by omega)]; exact (yCells_at l t ht).1, by rw [h.cellAt (t * 2 + 1) (by omega)]; exact (yCells_at l t ht).2⟩⟩
section
variable {ops : Array Oper} {Q : Exit → Act → World → Prop} {S : World → Prop} {md : Region.Mode} {a : Act} {w : World}
theorem wpAnyH_two (i j : Nat) {fuel : Nat} {listed : Array Bool} (hr : Region.ready md ops listed = [i, j])
    (h1 : wpOp Tryz.prog ops Q i (fun a' w' => S w' ∧ wpAnyH Tryz.prog md ops Q S fuel (listed.setIfInBounds i true) a' w') a w)
    (h2 : wpOp Tryz.prog ops Q j (fun a' w' => S w' ∧ wpAnyH Tryz.prog md ops Q S fuel (listed.setIfInBounds j true) a' w') a w) : wpAnyH Tryz.prog md ops Q S (fuel + 1) listed a w :=
  wpAnyH_all hr (by simp) (fun k hk => by
    have e : k = i ∨ k = j := by simpa using hk
    rcases e with rfl | rfl
    · exact h1
    · exact h2)
theorem wpAnyH_three (i j l : Nat) {fuel : Nat} {listed : Array Bool} (hr : Region.ready md ops listed = [i, j, l])
    (h1 : wpOp Tryz.prog ops Q i (fun a' w' => S w' ∧ wpAnyH Tryz.prog md ops Q S fuel (listed.setIfInBounds i true) a' w') a w)
    (h2 : wpOp Tryz.prog ops Q j (fun a' w' => S w' ∧ wpAnyH Tryz.prog md ops Q S fuel (listed.setIfInBounds j true) a' w') a w)
    (h3 : wpOp Tryz.prog ops Q l (fun a' w' => S w' ∧ wpAnyH Tryz.prog md ops Q S fuel (listed.setIfInBounds l true) a' w') a w) : wpAnyH Tryz.prog md ops Q S (fuel + 1) listed a w :=
  wpAnyH_all hr (by simp) (fun k hk => by
    have e : k = i ∨ k = j ∨ k = l := by simpa using hk
    rcases e with rfl | rfl | rfl
    · exact h1
    · exact h2
    · exact h3)
end
end Go.Proofs.YtionicjnoogpjaaGreatDoor

namespace Go.Proofs.YtionicjnoogpjaaGreatDoor
open Go Go.RowKit
set_option linter.unusedVariables false
set_option maxRecDepth 100000

theorem blkc {w : World} {b : Nat} {cs : Array Value} {t : TypeId} (h : w.heap[b]? = some (.cells cs t)) (k : Nat) : w.cell? ⟨b, k, none⟩ = cs[k]? := by
  simp [World.cell?, h]
theorem blko {w w' : World} {b : Nat} {o : Obj} (h : w.heap[b]? = some o) (hb : Below w.heap.size w w') : w'.heap[b]? = some o := (hb.block b (Array.getElem?_eq_some_iff.1 h).1).trans h
theorem blkf {w : World} {b : Nat} {cs : Array Value} {t : TypeId} (h : w.heap[b]? = some (.cells cs t)) (k : Nat) : w.frozen? ⟨b, k, none⟩ = false := by
  simp [World.frozen?, h]
theorem box_two (w : World) (o1 o2 : Obj) : ((w.alloc o1).alloc o2).heap[w.heap.size]? = some o1 ∧ ((w.alloc o1).alloc o2).heap[w.heap.size + 1]? = some o2 := by
  refine ⟨?_, ?_⟩
  · rw [Below.heap_alloc _ _ _ (by simp)]; exact heap_alloc_new _ _
  · have := heap_alloc_new (w.alloc o1) o2
    rw [World.size_alloc] at this
    exact this
theorem heap_set_other (w : World) (b k : Nat) (u : Value) (x : Nat) (hx : x ≠ b) : (w.setCell ⟨b, k, none⟩ u).heap[x]? = w.heap[x]? := heap_setCell_other w ⟨b, k, none⟩ x u hx
theorem blk_setk {w : World} {b : Nat} {cs : Array Value} {t : TypeId} (h : w.heap[b]? = some (.cells cs t)) (k : Nat) (u : Value) : (w.setCell ⟨b, k, none⟩ u).heap[b]? = some (.cells (cs.setIfInBounds k u) t) := by
  obtain ⟨hlt, hk⟩ := Array.getElem?_eq_some_iff.1 h
  show (w.heap.modify b _)[b]? = _
  rw [Array.getElem?_eq_getElem (by rw [Array.size_modify]; exact hlt), Array.getElem_modify_self, hk]
  rfl
end Go.Proofs.YtionicjnoogpjaaGreatDoor
