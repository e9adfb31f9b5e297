import Derived.Test.YtgoklapafidpkaaGreatDoorDocOKJ04
import Derived.Deep.CutBlock
import Derived.Shelf.Abstract
import Derived.Deep.RegionWith
import Derived.Test.YtgoklapafidpkaaGreatDoorProg
import Derived.Test.YtgoklapafidpkaaGreatDoorDocOKJ00
import Derived.WalkLawsBesides
import Derived.WalkSpells
import Derived.Test.YtgoklapafidpkaaGreatDoorDocOKJ01
import Derived.BigQuiet
import Derived.Deep.QuietTactic
namespace Go.Proofs.YtgoklapafidpkaaGreatDoor
open Go Go.RowKit
set_option linter.unusedVariables false
set_option linter.unusedSimpArgs false
set_option maxRecDepth 100000

set_option maxHeartbeats 2000000 in
theorem specZero_any (f : Fd) (aS aY : Option Addr) (cS cY : Nat) (w : World) (hnS : f.stops.length ≤ 1048576) (hnY : f.syns.length ≤ 1048576) :
    Calls Tryz.prog 64 #[.agg #[.bool f.bf, .bool f.bsm, .bool f.bp, .slice aS f.stops.length cS, .slice aY f.syns.length cY, .int .i64 f.lo, .int .i64 f.hi]] w fun e w' => e = .returned (.bool (zrOK f)) ∧ Below w.heap.size w w' := by
  obtain ⟨R, hR⟩ : ∃ R, zrOK f = R := ⟨_, rfl⟩
  have HR := hidd hR
  rw [hR]
  clear hR
  rw [zrOK] at HR
  generalize f.bf = bf at *
  generalize f.bsm = bsm at *
  generalize f.bp = bp at *
  generalize f.stops.length = nS at *
  generalize f.syns.length = nY at *
  generalize f.lo = lo at *
  generalize f.hi = hi at *
  clear f
  go_enter Tryz.func64, Tryz.ntmps64
  go_wp2_with fail
  all_goals
    go_ret
    refine ⟨?_, (Below.refl _ _).alloc (Nat.le_refl _) _⟩
    rw [← HR.out]
    simp [*] <;> first | (intros; omega) | (rw [Bool.eq_iff_iff]; simp only [beq_iff_eq, decide_eq_true_eq]; done) | (rw [Bool.eq_iff_iff]; simp only [beq_iff_eq, Bool.and_eq_true, decide_eq_true_eq]; omega)
set_option maxHeartbeats 2000000 in
theorem isZero_any (f : Fd) (aS aY : Option Addr) (cS cY : Nat) (w : World) (hnS : f.stops.length ≤ 1048576) (hnY : f.syns.length ≤ 1048576) :
    Calls Tryz.prog 109 #[.agg #[.bool f.bf, .bool f.bsm, .bool f.bp, .slice aS f.stops.length cS, .slice aY f.syns.length cY, .int .i64 f.lo, .int .i64 f.hi]] w fun e w' => e = .returned (.bool (zrOK f)) ∧ Below w.heap.size w w' := by
  obtain ⟨R, hR⟩ : ∃ R, zrOK f = R := ⟨_, rfl⟩
  have HR := hidd hR
  rw [hR]
  clear hR
  rw [zrOK] at HR
  generalize f.bf = bf at *
  generalize f.bsm = bsm at *
  generalize f.bp = bp at *
  generalize f.stops.length = nS at *
  generalize f.syns.length = nY at *
  generalize f.lo = lo at *
  generalize f.hi = hi at *
  clear f
  go_enter Tryz.func109, Tryz.ntmps109
  go_wp2_with fail
  all_goals
    go_ret
    refine ⟨?_, (Below.refl _ _).alloc (Nat.le_refl _) _⟩
    rw [← HR.out]
    simp [*] <;> first | (intros; omega) | (rw [Bool.eq_iff_iff]; simp only [beq_iff_eq, decide_eq_true_eq]; done) | (rw [Bool.eq_iff_iff]; simp only [beq_iff_eq, Bool.and_eq_true, decide_eq_true_eq]; omega)
def FdAt (w : World) (b o : Nat) (f : Fd) : Prop :=
  w.cell? ⟨b, o, none⟩ = some (.string (bs f.name)) ∧ w.cell? ⟨b, o + 1, none⟩ = some (.int .i64 f.kind) ∧
  w.cell? ⟨b, o + 2, none⟩ = some (.bool f.bf) ∧ w.cell? ⟨b, o + 3, none⟩ = some (.bool f.bsm) ∧ w.cell? ⟨b, o + 4, none⟩ = some (.bool f.bp) ∧
  (∃ aS cS, w.cell? ⟨b, o + 5, none⟩ = some (.slice aS f.stops.length cS) ∧ HoldS w aS f.stops) ∧
  (∃ aY cY, w.cell? ⟨b, o + 6, none⟩ = some (.slice aY f.syns.length cY) ∧ HoldY w aY f.syns) ∧
  w.cell? ⟨b, o + 7, none⟩ = some (.int .i64 f.lo) ∧ w.cell? ⟨b, o + 8, none⟩ = some (.int .i64 f.hi)
theorem FdAt.below {w w' : World} {b o : Nat} {f : Fd} (h : FdAt w b o f) (hb : b < w.heap.size) (hw : Below w.heap.size w w') : FdAt w' b o f := by
  have k : ∀ j, w'.cell? ⟨b, j, none⟩ = w.cell? ⟨b, j, none⟩ := fun j => hw.cell (p := ⟨b, j, none⟩) hb
  obtain ⟨h0, h1, h2, h3, h4, ⟨aS, cS, h5, hS⟩, ⟨aY, cY, h6, hY⟩, h7, h8⟩ := h
  exact ⟨(k _).trans h0, (k _).trans h1, (k _).trans h2, (k _).trans h3, (k _).trans h4, ⟨aS, cS, (k _).trans h5, hS.below hw⟩, ⟨aY, cY, (k _).trans h6, hY.below hw⟩, (k _).trans h7, (k _).trans h8⟩
/-- A slice of fields, wherever it lies. -/
def HoldF (w : World) (a : Option Addr) (l : List Fd) : Prop :=
  l = [] ∨ ∃ b off, a = some ⟨b, off, none⟩ ∧ b < w.heap.size ∧ ∀ i, i < l.length → FdAt w b (off + i * 9) (l.getD i fd0)
theorem HoldF.below {w w' : World} {a : Option Addr} {l : List Fd} (h : HoldF w a l) (hb : Below w.heap.size w w') : HoldF w' a l := by
  rcases h with h | ⟨b, off, h1, h2, h3⟩
  · exact Or.inl h
  · exact Or.inr ⟨b, off, h1, Nat.lt_of_lt_of_le h2 hb.size, fun i hi => (h3 i hi).below h2 hb⟩
/-- Lengths that a law lets through. -/
def FdSz (f : Fd) : Prop := f.name.length ≤ 1048576 ∧ f.stops.length ≤ 1048576 ∧ f.syns.length ≤ 1048576 ∧ szS f.stops ∧ szY f.syns
end Go.Proofs.YtgoklapafidpkaaGreatDoor

namespace Go.Proofs.YtgoklapafidpkaaGreatDoor
open Go Go.RowKit
set_option linter.unusedVariables false
set_option maxRecDepth 100000

def fldZ (l : List Fd) (n : List UInt8) : Int := if fldIx l n < l.length then (fldIx l n : Int) else -1
theorem bs_toList (x : List UInt8) : (bs x).toList = x := by rw [Lib.toList_data]; exact lst_bs x
set_option maxHeartbeats 2000000 in
theorem fieldPred_any (f : Fd) (aS aY : Option Addr) (cS cY : Nat) (n : List UInt8) (B : Nat) (w : World) (hB : w.heap[B]? = some (.cells #[.string (bs n)] 9)) :
    Calls Tryz.prog 82 #[.agg #[.string (bs f.name), .int .i64 f.kind, .bool f.bf, .bool f.bsm, .bool f.bp, .slice aS f.stops.length cS, .slice aY f.syns.length cY, .int .i64 f.lo, .int .i64 f.hi], .pointer (some ⟨B, 0, none⟩)] w fun e w' => e = .returned (.bool (f.name == n)) ∧ Below w.heap.size w w' := by
  have HB := hidd ((Below.refl w.heap.size w).alloc (Nat.le_refl _) (.cells #[.string (bs f.name), .int .i64 f.kind, .bool f.bf, .bool f.bsm, .bool f.bp, .slice aS f.stops.length cS, .slice aY f.syns.length cY, .int .i64 f.lo, .int .i64 f.hi] 79))
  have hbl : B < w.heap.size := (Array.getElem?_eq_some_iff.1 hB).1
  have q0 : (w.alloc (.cells #[.string (bs f.name), .int .i64 f.kind, .bool f.bf, .bool f.bsm, .bool f.bp, .slice aS f.stops.length cS, .slice aY f.syns.length cY, .int .i64 f.lo, .int .i64 f.hi] 79)).cell? ⟨B, 0, none⟩ = some (.string (bs n)) := blkc (blko hB HB.out) 0
  go_enter Tryz.func82, Tryz.ntmps82
  go_wp2_with fail
  go_ret
  refine ⟨?_, HB.out⟩
  show Ending.returned (Value.bool ((bs f.name).toList == (bs n).toList)) = _
  rw [bs_toList, bs_toList]
set_option maxHeartbeats 8000000 in
theorem fieldIndex_any (a : Option Addr) (cap : Nat) (l : List Fd) (n : List UInt8) (B : Nat) (w : World) (hn : l.length ≤ 1048576) (hS : HoldF w a l) (hB : w.heap[B]? = some (.cells #[.string (bs n)] 9)) :
    Calls Tryz.prog 81 #[.slice a l.length cap, .func (.func 82) #[] #[.pointer (some ⟨B, 0, none⟩)]] w fun e w' => e = .returned (.int .i64 (fldZ l n)) ∧ Below w.heap.size w w' := by
  have HS := hidd hS
  have HBx := hidd hB
  clear hS hB
  go_enter Tryz.func81, Tryz.ntmps81
  go_wp2_with fail
  go_loopw [8] (fun i wx => ∃ k : Nat, k ≤ l.length ∧ i = .int .i64 k ∧ (∀ j, j < k → ((l.getD j fd0).name == n) = false) ∧ Below w.heap.size w wx) (fun i _ => l.length - (intOf i).toNat)
  case atStart => exact ⟨0, by omega, rfl, fun j hj => absurd hj (by omega), Below.refl _ _⟩
  case round =>
    obtain ⟨k, hk, rfl, hno, hbx⟩ := hrel
    have HN := hidd hno
    have HB := hidd hbx
    clear hno hbx
    by_cases hlt : k < l.length
    · obtain ⟨b, off, rfl, hbl, hc⟩ := (HS.out.below HB.out).resolve_left (fun h => by rw [h] at hlt; simp at hlt)
      obtain ⟨q0, q1, q2, q3, q4, ⟨aS, cS, q5, hSt⟩, ⟨aY, cY, q6, hYt⟩, q7, q8⟩ := hc k hlt
      clear hc hSt hYt
      have HBr := hidd (blko HBx.out HB.out)
      obtain ⟨f, hf⟩ : ∃ f, l.getD k fd0 = f := ⟨_, rfl⟩
      rw [hf] at q0 q1 q2 q3 q4 q5 q6 q7 q8
      have HF := hidd hf
      clear hf
      have HPk := hidd (fieldPred_any f aS aY cS cY n B wr HBr.out)
      cases hp : (f.name == n) with
      | false =>
        have HPn : Hid (∀ j, j < k + 1 → ((l.getD j fd0).name == n) = false) := fun j hj => by
          by_cases h : j < k
          · exact HN.out j h
          · have : j = k := by omega
            subst this
            rw [HF.out]; exact hp
        rw [hp] at HPk
        clear hp
        go_wp2_with (go_at_call 82; refine HPk.out.mono ?_; rintro e w2 ⟨rfl, hb2⟩)
        go_roundw
        case rel => exact ⟨k + 1, by omega, by go_num, HPn.out, HB.out.trans (hb2.mono HB.out.size)⟩
        case measure => simp [intOf]; omega
      | true =>
        have HR : Hid (fldZ l n = (k : Int)) := by
          show _ = _
          have h2 : fldIx l n = k := by
            unfold fldIx
            rw [List.findIdx_eq hlt]
            have e : ∀ j (hj : j < l.length), l.getD j fd0 = l[j] := fun j hj => by simp [hj]
            refine ⟨by rw [← e k hlt, HF.out]; exact hp, fun j hj => ?_⟩
            rw [← e j (by omega)]; exact HN.out j hj
          rw [fldZ, h2, if_pos hlt]
        rw [hp] at HPk
        clear hp
        go_wp2_with (go_at_call 82; refine HPk.out.mono ?_; rintro e w2 ⟨rfl, hb2⟩)
        go_ret
        rw [HR.out]
        exact ⟨rfl, HB.out.trans (hb2.mono HB.out.size)⟩
    · have HR : Hid (fldZ l n = -1) := by
        show _ = _
        rw [fldZ, if_neg]
        intro h
        have := HN.out (fldIx l n) (by omega)
        rw [fldIx_mem h] at this
        simp at this
      go_wp2_with fail
      go_ret
      rw [HR.out]
      exact ⟨rfl, HB.out⟩
end Go.Proofs.YtgoklapafidpkaaGreatDoor

namespace Go.Proofs.YtgoklapafidpkaaGreatDoor
open Go Go.RowKit
set_option linter.unusedVariables false

end Go.Proofs.YtgoklapafidpkaaGreatDoor

namespace Go.Proofs.YtgoklapafidpkaaGreatDoor
open Go Go.RowKit
set_option linter.unusedVariables false

/-- A row of texts, as cells. -/
def sCells (l : List (List UInt8)) : List Value := l.map fun t => Value.string (bs t)
theorem sCells_len (l : List (List UInt8)) : (sCells l).length = l.length := by simp [sCells]
theorem sCells_snoc (l : List (List UInt8)) (t : List UInt8) : sCells (l ++ [t]) = sCells l ++ [.string (bs t)] := by simp [sCells]
theorem sCells_at (l : List (List UInt8)) (k : Nat) (h : k < l.length) : (sCells l)[k]? = some (.string (bs (l.getD k []))) := by
  simp [sCells, h]
theorem ownS_cells {w : World} {base e g cap : Nat} {l : List (List UInt8)} (h : w.ownsRow base e 1 (.slice (some ⟨g, 0, none⟩) l.length cap) l.length (sCells l)) :
    ∀ t, t < l.length → w.cell? ⟨g, t, none⟩ = some (.string (bs (l.getD t []))) := by
  intro t ht
  rw [h.cellAt t (by omega), sCells_at l t ht]
end Go.Proofs.YtgoklapafidpkaaGreatDoor

namespace Go.Proofs.YtgoklapafidpkaaGreatDoor
open Go Go.RowKit
set_option linter.unusedVariables false

set_option maxHeartbeats 400000 in
theorem eqStrs_same (b1 c1 b2 c2 n : Nat) (l : List (List UInt8)) (w : World) (hn : n ≤ 1048576)
    (h1 : ∀ t, t < n → w.cell? ⟨b1, t, none⟩ = some (.string (bs (l.getD t [])))) (h2 : ∀ t, t < n → w.cell? ⟨b2, t, none⟩ = some (.string (bs (l.getD t [])))) :
    Calls Tryz.prog 116 #[.slice (some ⟨b1, 0, none⟩) n c1, .slice (some ⟨b2, 0, none⟩) n c2] w fun e w' => e = .returned (.bool true) ∧ ∃ m, w' = w.drewN m := by
  have H1 := hidd h1
  have H2 := hidd h2
  clear h1 h2
  go_enter Tryz.func116, Tryz.ntmps116
  go_wp2
  go_loopw [5] (fun i wr => ∃ k : Nat, k ≤ n ∧ i = .int .i64 k ∧ ∃ m, wr = w.drewN m) (fun i _ => n - (intOf i).toNat)
  case atStart => exact ⟨0, Nat.zero_le _, rfl, 0, rfl⟩
  case round =>
    obtain ⟨k, hk, rfl, m, rfl⟩ := hrel
    by_cases hlt : k < n
    · have g1 := H1.out k hlt
      have g2 := H2.out k hlt
      generalize bs (l.getD k []) = t at g1 g2
      go_wp2
      go_quiet (fail)
      go_wp2
      go_roundw
      case rel => exact ⟨k + 1, by omega, by go_num, _, rfl⟩
      case measure => simp [intOf]; omega
    · go_wp2
      go_ret
      exact ⟨rfl, m, rfl⟩
end Go.Proofs.YtgoklapafidpkaaGreatDoor

namespace Go.Proofs.YtgoklapafidpkaaGreatDoor
open Go Go.RowKit
set_option linter.unusedVariables false

def szGo (left : Int) : List (List UInt8) → Int
  | [] => left
  | t :: ts => if left - (t.length : Int) < 0 then -1 else szGo (left - (t.length : Int)) ts
def szStr (left : Int) (l : List (List UInt8)) : Int := if left - (l.length : Int) < 0 then -1 else szGo (left - (l.length : Int)) l
def syGo (left : Int) : List (List UInt8 × List UInt8) → Int
  | [] => left
  | t :: ts => if left - (t.1.length : Int) < 0 then -1 else if left - (t.1.length : Int) - (t.2.length : Int) < 0 then -1 else syGo (left - (t.1.length : Int) - (t.2.length : Int)) ts
def szSyn (left : Int) (l : List (List UInt8 × List UInt8)) : Int := if left - (l.length : Int) < 0 then -1 else syGo (left - (l.length : Int)) l
def szAz (left : Int) (s : List (List UInt8)) (y : List (List UInt8 × List UInt8)) : Int := if szStr left s < 0 then -1 else if szSyn (szStr left s) y < 0 then -1 else szSyn (szStr left s) y
theorem szGo_ok : ∀ (l : List (List UInt8)) (left : Int), 0 ≤ szGo left l → szGo left l ≤ left ∧ ∀ t ∈ l, (t.length : Int) ≤ left
  | [], left, h => ⟨Int.le_refl _, fun _ ht => by cases ht⟩
  | t :: ts, left, h => by
    rw [szGo] at h ⊢
    by_cases h1 : left - (t.length : Int) < 0
    · rw [if_pos h1] at h; omega
    · rw [if_neg h1] at h ⊢
      have ih := szGo_ok ts _ h
      refine ⟨by omega, fun u hu => ?_⟩
      rcases List.mem_cons.1 hu with rfl | hu
      · omega
      · have := ih.2 u hu; omega
theorem syGo_ok : ∀ (l : List (List UInt8 × List UInt8)) (left : Int), 0 ≤ syGo left l → syGo left l ≤ left ∧ ∀ t ∈ l, (t.1.length : Int) ≤ left ∧ (t.2.length : Int) ≤ left
  | [], left, h => ⟨Int.le_refl _, fun _ ht => by cases ht⟩
  | t :: ts, left, h => by
    rw [syGo] at h ⊢
    by_cases h1 : left - (t.1.length : Int) < 0
    · rw [if_pos h1] at h; omega
    · rw [if_neg h1] at h ⊢
      by_cases h2 : left - (t.1.length : Int) - (t.2.length : Int) < 0
      · rw [if_pos h2] at h; omega
      · rw [if_neg h2] at h ⊢
        have ih := syGo_ok ts _ h
        refine ⟨by omega, fun u hu => ?_⟩
        rcases List.mem_cons.1 hu with rfl | hu
        · omega
        · have := ih.2 u hu; omega
theorem getD_memS (l : List (List UInt8)) (k : Nat) (h : k < l.length) : l.getD k [] ∈ l := by
  rw [List.getD_eq_getElem?_getD, List.getElem?_eq_getElem h, Option.getD_some]
  exact List.getElem_mem _
theorem getD_memY (l : List (List UInt8 × List UInt8)) (k : Nat) (h : k < l.length) : l.getD k ([], []) ∈ l := by
  rw [List.getD_eq_getElem?_getD, List.getElem?_eq_getElem h, Option.getD_some]
  exact List.getElem_mem _
theorem szGo_step (l : List (List UInt8)) (k : Nat) (left : Int) (h : k < l.length) : szGo left (l.drop k) = if left - ((l.getD k []).length : Int) < 0 then -1 else szGo (left - ((l.getD k []).length : Int)) (l.drop (k + 1)) := by
  rw [List.drop_eq_getElem_cons h, szGo]
  simp [h]
theorem syGo_step (l : List (List UInt8 × List UInt8)) (k : Nat) (left : Int) (h : k < l.length) : syGo left (l.drop k) = if left - ((l.getD k ([], [])).1.length : Int) < 0 then -1 else if left - ((l.getD k ([], [])).1.length : Int) - ((l.getD k ([], [])).2.length : Int) < 0 then -1 else syGo (left - ((l.getD k ([], [])).1.length : Int) - ((l.getD k ([], [])).2.length : Int)) (l.drop (k + 1)) := by
  rw [List.drop_eq_getElem_cons h, syGo]
  simp [h]
set_option maxHeartbeats 2000000 in
theorem szStrs_any (a : Option Addr) (cap : Nat) (l : List (List UInt8)) (left : Int) (w : World) (h0 : 0 ≤ left) (h1 : left ≤ 1048576) (hn : l.length ≤ 9223372036854775807) (hS : HoldS w a l) (hz : ∀ t, t < l.length → (bs (l.getD t [])).size ≤ 9223372036854775807) :
    Calls Tryz.prog 100 #[.slice a l.length cap, .int .i64 left] w fun e w' => e = .returned (.int .i64 (szStr left l)) ∧ w' = w := by
  have HS := hidd hS
  have HZ := hidd hz
  clear hS hz
  by_cases hb : left - (l.length : Int) < 0
  · have HR : Hid (szStr left l = -1) := by show _ = _; rw [szStr, if_pos hb]
    go_enter Tryz.func100, Tryz.ntmps100
    go_wp2
    go_ret
    rw [HR.out]
    exact ⟨rfl, rfl⟩
  · have HR : Hid (szStr left l = szGo (left - (l.length : Int)) l) := by show _ = _; rw [szStr, if_neg hb]
    generalize hG : szGo (left - (l.length : Int)) l = G at HR
    have HG := hidd hG
    clear hG
    go_enter Tryz.func100, Tryz.ntmps100
    go_wp2
    go_loop [1, 5] (fun c i => ∃ (k : Nat) (z : Int), k ≤ l.length ∧ i = .int .i64 k ∧ c = .int .i64 z ∧ 0 ≤ z ∧ z ≤ 1048576 ∧ szGo z (l.drop k) = G) (fun _ i => l.length - (intOf i).toNat)
    case atStart => exact ⟨0, _, by omega, rfl, rfl, by omega, by omega, HG.out⟩
    case round =>
      obtain ⟨k, z, hk, rfl, rfl, hz0, hz1, hg⟩ := hrel
      have HGk := hidd hg
      clear hg
      by_cases hlt : k < l.length
      · obtain ⟨b, off, rfl, hbl, hc⟩ := HS.out.resolve_left (fun h => by rw [h] at hlt; simp at hlt)
        have g1 := hc k hlt
        have hsz := HZ.out k hlt
        have HSt := hidd (szGo_step l k z hlt)
        have HLn : Hid ((l.getD k []).length = (bs (l.getD k [])).size) := (bs_size _).symm
        rw [HLn.out] at HSt
        clear hc HLn
        generalize bs (l.getD k []) = s at *
        by_cases hneg : z - (s.size : Int) < 0
        · have HF : Hid (G = -1) := by show _ = _; rw [← HGk.out, HSt.out, if_pos hneg]
          go_wp2
          go_ret
          rw [HR.out, HF.out]
          exact ⟨rfl, rfl⟩
        · have HF : Hid (szGo (z - (s.size : Int)) (l.drop (k + 1)) = G) := by show _ = _; rw [← HGk.out, HSt.out, if_neg hneg]
          go_wp2
          go_round
          case rel => exact ⟨k + 1, _, by omega, by go_num, rfl, by omega, by omega, HF.out⟩
          case measure => simp [intOf]; omega
      · have HF : Hid (G = z) := by show _ = _; rw [← HGk.out, List.drop_of_length_le (by omega), szGo]
        go_wp2
        go_ret
        rw [HR.out, HF.out]
        exact ⟨rfl, rfl⟩
end Go.Proofs.YtgoklapafidpkaaGreatDoor
