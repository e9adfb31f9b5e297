import Derived.Test.YtifgcimmlonagaaDoorSuggestJ08
import Derived.Test.YtifgcimmlonagaaDoorSuggestJ09
import Derived.Test.YtifgcimmlonagaaDoorSuggestJ10
namespace Go.Proofs.YtifgcimmlonagaaDoor
open Go Go.RowKit
set_option linter.unusedVariables false
set_option maxRecDepth 100000
set_option linter.unusedSimpArgs false

/-! Where the automaton of what is near stands: how many were read, and five numbers. -/
def nsC (r : Int) (f : Nat → Int) : Array Value := #[.int .i64 r, .int .i64 (f 0), .int .i64 (f 1), .int .i64 (f 2), .int .i64 (f 3), .int .i64 (f 4)]
theorem five {i : Nat} (h : i < 5) : i = 0 ∨ i = 1 ∨ i = 2 ∨ i = 3 ∨ i = 4 := by omega
theorem nsC_at (r : Int) (f : Nat → Int) (i : Nat) (h : i < 5) : (nsC r f)[1 + i]? = some (.int .i64 (f i)) := by
  rcases five h with rfl | rfl | rfl | rfl | rfl <;> rfl
def putF (f : Nat → Int) (i : Nat) (z : Int) : Nat → Int := fun j => if j = i then z else f j
theorem nsC_set (r : Int) (f : Nat → Int) (i : Nat) (z : Int) (h : i < 5) : (nsC r f).setIfInBounds (1 + i) (.int .i64 z) = nsC r (putF f i z) := by
  rcases five h with rfl | rfl | rfl | rfl | rfl <;> rfl
theorem putF_same (f : Nat → Int) (i : Nat) (z : Int) : putF f i z i = z := by simp [putF]
theorem putF_other (f : Nat → Int) {i j : Nat} (z : Int) (h : j ≠ i) : putF f i z j = f j := by simp [putF, h]
theorem nsC_congr (r : Int) (f g : Nat → Int) (h : ∀ j, j < 5 → f j = g j) : nsC r f = nsC r g := by
  unfold nsC
  rw [h 0 (by omega), h 1 (by omega), h 2 (by omega), h 3 (by omega), h 4 (by omega)]
theorem six {w : World} {B : Nat} {r : Int} {f : Nat → Int} {t : TypeId} (h : w.heap[B]? = some (.cells (nsC r f) t)) : w.cell? ⟨B, 0, none⟩ = some (.int .i64 r) ∧ w.cell? ⟨B, 1, none⟩ = some (.int .i64 (f 0)) ∧ w.cell? ⟨B, 2, none⟩ = some (.int .i64 (f 1)) ∧ w.cell? ⟨B, 3, none⟩ = some (.int .i64 (f 2)) ∧ w.cell? ⟨B, 4, none⟩ = some (.int .i64 (f 3)) ∧ w.cell? ⟨B, 5, none⟩ = some (.int .i64 (f 4)) :=
  ⟨blkc h 0, blkc h 1, blkc h 2, blkc h 3, blkc h 4, blkc h 5⟩
theorem set6 {w : World} {B : Nat} {r r' : Int} {f f' : Nat → Int} {t : TypeId} (h : w.heap[B]? = some (.cells (nsC r f) t)) : ((((((w.setCell ⟨B, 0, none⟩ (.int .i64 r')).setCell ⟨B, 1, none⟩ (.int .i64 (f' 0))).setCell ⟨B, 2, none⟩ (.int .i64 (f' 1))).setCell ⟨B, 3, none⟩ (.int .i64 (f' 2))).setCell ⟨B, 4, none⟩ (.int .i64 (f' 3))).setCell ⟨B, 5, none⟩ (.int .i64 (f' 4))).heap[B]? = some (.cells (nsC r' f') t) :=
  blk_setk (blk_setk (blk_setk (blk_setk (blk_setk (blk_setk h 0 _) 1 _) 2 _) 3 _) 4 _) 5 _
def bF (a b : List Int) : Nat → Int := fun j => (bnd a b j : Int)
def nsV (a b : List Int) : Value := .agg (nsC (b.length : Int) (bF a b))
set_option maxHeartbeats 1000000 in
theorem size_any (r : Int) (f : Nat → Int) (i : Nat) (w : World) (hr0 : 0 ≤ r) (hr : r ≤ 1048576) (hi : i ≤ 4) :
    Calls Tryd.prog 48 #[.agg #[.int .i64 r, .int .i64 (f 0), .int .i64 (f 1), .int .i64 (f 2), .int .i64 (f 3), .int .i64 (f 4)], .int .i64 (i : Int)] w fun e w' => e = .returned (.int .i64 (r + (i : Int) - 2)) ∧ Below w.heap.size w w' := by
  go_enter Tryd.func48, Tryd.ntmps48
  go_wp2
  go_ret
  exact ⟨rfl, (Below.refl _ _).alloc (Nat.le_refl _) _⟩
/-- A walk in its box: the text, and what was found. -/
def TxAt (w : World) (s : Option Addr) (a : List Int) : Prop := a = [] ∨ ∃ g off, s = some ⟨g, off, none⟩ ∧ g < w.heap.size ∧ ∀ t, t < a.length → w.cell? ⟨g, off + t, none⟩ = some (.int .i64 (a.getD t 0))
theorem TxAt.below {w w' : World} {s : Option Addr} {a : List Int} (h : TxAt w s a) (hb : Below w.heap.size w w') : TxAt w' s a := by
  rcases h with h | ⟨g, off, h1, h2, h3⟩
  · exact .inl h
  · exact .inr ⟨g, off, h1, Nat.lt_of_lt_of_le h2 hb.size, fun t ht => (hb.cell (p := ⟨g, off + t, none⟩) h2).trans (h3 t ht)⟩
set_option maxHeartbeats 4000000 in
theorem first_any (a : List Int) (s : Option Addr) (ca pw : Nat) (v : Value) (w : World) (hal : a.length ≤ 200) (hbx : w.heap[pw]? = some (.cells #[.slice s a.length ca, v] 51)) :
    Calls Tryd.prog 29 #[.pointer (some ⟨pw, 0, none⟩)] w fun e w' => e = .returned (nsV a []) ∧ Below w.heap.size w w' := by
  have hpl : pw < w.heap.size := (Array.getElem?_eq_some_iff.1 hbx).1
  have HBx := hidd hbx
  have hb0 := box_two w (.cells (nsC 0 (fun _ => 0)) 55) (.cells (nsC 0 (fun _ => 0)) 55)
  have Hb0 := hidd hb0
  have HB0 : Hid (Below w.heap.size w ((w.alloc (.cells (nsC 0 (fun _ => 0)) 55)).alloc (.cells (nsC 0 (fun _ => 0)) 55))) := ((Below.refl _ w).alloc (Nat.le_refl _) _).alloc (by simp) _
  clear hb0 hbx
  unfold nsC at Hb0 HB0
  go_enter Tryd.func29, Tryd.ntmps29
  go_wp2_with fail
  go_loopw [6] (fun iv wr => ∃ (i : Nat) (f : Nat → Int), i ≤ 5 ∧ iv = .int .i64 (i : Int) ∧ (∀ j, j < i → f j = (bnd a [] j : Int)) ∧ wr.heap[w.heap.size + 1]? = some (.cells (nsC 0 f) 55) ∧ wr.heap[w.heap.size]? = some (.cells (nsC 0 (fun _ => 0)) 55) ∧ Below w.heap.size w wr) (fun iv _ => 5 - (intOf iv).toNat)
  case atStart => exact ⟨0, fun _ => 0, by omega, rfl, fun j h => by omega, Hb0.out.2, Hb0.out.1, HB0.out⟩
  case round =>
    obtain ⟨i, f, hi, rfl, hf, hb3, hb2, hbel⟩ := hrel
    clear Hb0 HB0
    have HF := hidd hf
    have H3 := hidd hb3
    have H2 := hidd hb2
    have HB := hidd hbel
    have q3 := blkc hb3 
    have l3 := (Array.getElem?_eq_some_iff.1 hb3).1
    clear hf
    by_cases hlt : i < 5
    · have hltz : (i : Int) < 5 := by omega
      have c3 : wr.cell? ⟨w.heap.size + 1, 1 + i, none⟩ = some (.int .i64 (f i)) := (q3 _).trans (nsC_at 0 f i hlt)
      have f3 : wr.frozen? ⟨w.heap.size + 1, 1 + i, none⟩ = false := blkf hb3 _
      clear q3 hb3 hb2 hbel
      have hn3 := blk_setk H3.out (1 + i) (.int .i64 3)
      rw [nsC_set 0 f i 3 hlt] at hn3
      have hn2 := (heap_set_other wr (w.heap.size + 1) (1 + i) (.int .i64 3) w.heap.size (by omega)).trans H2.out
      have hnB := HB.out.setCell (p := ⟨w.heap.size + 1, 1 + i, none⟩) (by show w.heap.size ≤ w.heap.size + 1; omega) (.int .i64 3)
      go_upto_region 6 with fail
      generalize wr.setCell ⟨w.heap.size + 1, 1 + i, none⟩ (.int .i64 3) = w1 at *
      clear c3 f3 H3 H2 HB
      obtain ⟨d0, d1, d2, d3, d4, d5⟩ := six hn3
      have HS := hidd (size_any 0 (putF f i 3) i w1 (by omega) (by omega) (by omega))
      have H3 := hidd hn3
      have H2 := hidd hn2
      have HB := hidd hnB
      clear hn3 hn2 hnB
      go_wp2_with fail
      refine HS.out.mono ?_
      rintro e w2 ⟨rfl, hb2⟩
      have e0 : (0 : Int) + (i : Int) - 2 = (i : Int) - 2 := by omega
      rw [e0]
      have K3 := hidd (blko H3.out hb2)
      have K2 := hidd (blko H2.out hb2)
      have KB := hidd (HB.out.trans (hb2.mono HB.out.size))
      have t0 : w2.cell? ⟨pw, 0, none⟩ = some (.slice s a.length ca) := blkc ((KB.out.block pw hpl).trans HBx.out) 0
      clear d0 d1 d2 d3 d4 d5 HS hb2 H3 H2 HB e0
      go_wp2_with fail
      refine (within_any _ _ _ _).mono ?_
      rintro e w3 ⟨rfl, hw3⟩
      obtain rfl := hw3.symm
      by_cases hin : 2 ≤ i ∧ i ≤ a.length + 2
      · have hb : (decide ((0 : Int) ≤ (i : Int) - 2) && decide ((i : Int) - 2 ≤ (a.length : Int))) = true := by simp; omega
        rw [hb]
        have HV : Hid (((i : Int) - 2) = (bnd a [] i : Int)) := by
          show _ = _
          rw [bnd_nil, if_pos hin]
          omega
        have c3 : w2.cell? ⟨w.heap.size + 1, 1 + i, none⟩ = some (.int .i64 (putF f i 3 i)) := (blkc K3.out _).trans (nsC_at 0 _ i hlt)
        have f3 : w2.frozen? ⟨w.heap.size + 1, 1 + i, none⟩ = false := blkf K3.out _
        have hn3 := blk_setk K3.out (1 + i) (.int .i64 ((i : Int) - 2))
        rw [nsC_set 0 _ i _ hlt] at hn3
        have hn2 := (heap_set_other w2 (w.heap.size + 1) (1 + i) (.int .i64 ((i : Int) - 2)) w.heap.size (by omega)).trans K2.out
        have hnB := KB.out.setCell (p := ⟨w.heap.size + 1, 1 + i, none⟩) (by show w.heap.size ≤ w.heap.size + 1; omega) (.int .i64 ((i : Int) - 2))
        have HN3 := hidd hn3
        have HN2 := hidd hn2
        have HNB := hidd hnB
        clear hn3 hn2 hnB K3 K2 KB hb hin
        go_wp2_with fail
        go_roundw
        case rel =>
          refine ⟨i + 1, _, by omega, by go_num, fun j hj => ?_, HN3.out, HN2.out, HNB.out⟩
          by_cases e : j = i
          · subst e; rw [putF_same]; exact HV.out
          · rw [putF_other _ _ e, putF_other _ _ e]; exact HF.out j (by omega)
        case measure => simp [intOf]; omega
      · have hb : (decide ((0 : Int) ≤ (i : Int) - 2) && decide ((i : Int) - 2 ≤ (a.length : Int))) = false := by
          rw [Bool.and_eq_false_iff, decide_eq_false_iff_not, decide_eq_false_iff_not]
          omega
        rw [hb]
        have HV : Hid ((3 : Int) = (bnd a [] i : Int)) := by
          show _ = _
          rw [bnd_nil, if_neg hin]
          rfl
        clear hb hin
        go_wp2_with fail
        go_roundw
        case rel =>
          refine ⟨i + 1, _, by omega, by go_num, fun j hj => ?_, K3.out, K2.out, KB.out⟩
          by_cases e : j = i
          · subst e; rw [putF_same]; exact HV.out
          · rw [putF_other _ _ e]; exact HF.out j (by omega)
        case measure => simp [intOf]; omega
    · have hltz : ¬ (i : Int) < 5 := by omega
      obtain rfl : i = 5 := by omega
      have hE := nsC_congr 0 f (bF a []) (fun j hj => HF.out j hj)
      rw [hE] at hb3
      obtain ⟨d0, d1, d2, d3, d4, d5⟩ := six hb3
      obtain ⟨g0, g1, g2, g3, g4, g5⟩ := six hb2
      have fz : ∀ k, wr.frozen? ⟨w.heap.size, k, none⟩ = false := blkf hb2
      have z0 := fz 0
      have z1 := fz 1
      have z2 := fz 2
      have z3 := fz 3
      have z4 := fz 4
      have z5 := fz 5
      have H2s := hidd hb2
      clear fz q3 hb3 hb2 hbel H3 H2 hE HF
      have HFin : Hid (nsV a [] = .agg (nsC 0 (bF a []))) := rfl
      unfold nsC at HFin
      generalize bF a [] = F at *
      have HQ := hidd (set6 (r' := 0) (f' := F) H2s.out)
      have HQB := hidd ((((((HB.out.setCell (p := ⟨w.heap.size, 0, none⟩) (Nat.le_refl _) (.int .i64 0)).setCell (p := ⟨w.heap.size, 1, none⟩) (Nat.le_refl _) (.int .i64 (F 0))).setCell (p := ⟨w.heap.size, 2, none⟩) (Nat.le_refl _) (.int .i64 (F 1))).setCell (p := ⟨w.heap.size, 3, none⟩) (Nat.le_refl _) (.int .i64 (F 2))).setCell (p := ⟨w.heap.size, 4, none⟩) (Nat.le_refl _) (.int .i64 (F 3))).setCell (p := ⟨w.heap.size, 5, none⟩) (Nat.le_refl _) (.int .i64 (F 4)))
      go_wp2_with fail
      generalize (((((wr.setCell { block := w.heap.size, off := 0 } (Value.int IntKind.i64 0)).setCell { block := w.heap.size, off := 1 } (Value.int IntKind.i64 (F 0))).setCell { block := w.heap.size, off := 2 } (Value.int IntKind.i64 (F 1))).setCell { block := w.heap.size, off := 3 } (Value.int IntKind.i64 (F 2))).setCell { block := w.heap.size, off := 4 } (Value.int IntKind.i64 (F 3))).setCell { block := w.heap.size, off := 5 } (Value.int IntKind.i64 (F 4)) = wq at *
      obtain ⟨k0, k1, k2, k3, k4, k5⟩ := six HQ.out
      refine bodyPost_ret (v := .agg #[.int .i64 0, .int .i64 (F 0), .int .i64 (F 1), .int .i64 (F 2), .int .i64 (F 3), .int .i64 (F 4)]) (by simp [results, Tryd.results29, go_sem, k0, k1, k2, k3, k4, k5]) rfl ?_
      exact ⟨by rw [HFin.out], HQB.out⟩
end Go.Proofs.YtifgcimmlonagaaDoor
