import Derived.Test.YtoinajfliogcdaaDoorNearJ08
import Derived.Deep.CutBlock
import Derived.Deep.RegionWith
import Derived.Test.YtoinajfliogcdaaDoorNearJ07
namespace Go.Proofs.YtoinajfliogcdaaDoor
open Go Go.RowKit
set_option linter.unusedVariables false
set_option linter.unusedSimpArgs false
set_option maxRecDepth 100000

def allN (len : Nat) : Nat := 2 ^ (len + 1) - 1
theorem allN_lt {len : Nat} (h : len ≤ 30) : allN len < 2147483648 := by
 have := Nat.pow_le_pow_right (show 0 < 2 by omega) (show len + 1 ≤ 31 by omega)
 unfold allN
 omega
set_option maxHeartbeats 2000000 in
theorem all_any (v : Value) (zs : List Int) (k head : Int) (w : World) (hl : zs.length ≤ 30) (h : HoldI w v zs) :
  Calls Tryd.prog 79 #[.agg #[v, .int .i64 k, .int .i64 head]] w fun e w' => e = .returned (.int .u64 (allN zs.length : Nat)) ∧ Below w.heap.size w w' := by
 obtain ⟨ad, cap, rfl, hc⟩ := h
 clear hc
 have hp : 2 ^ zs.length ≤ 1073741824 := by
  have := Nat.pow_le_pow_right (show 0 < 2 by omega) hl
  simpa using this
 have HA : Hid (allN zs.length = 2 * 2 ^ zs.length - 1) := by show _ = _; unfold allN; rw [Nat.pow_succ, Nat.mul_comm]
 have hp0 : 0 < 2 ^ zs.length := Nat.pow_pos (by omega)
 have HB : Hid (Below w.heap.size w (w.alloc (.cells #[.slice ad zs.length cap, .int .i64 k, .int .i64 head] 68))) := (Below.refl _ _).alloc (Nat.le_refl _) _
 obtain ⟨P, hP⟩ : ∃ P : Nat, 2 ^ zs.length = P := ⟨_, rfl⟩
 have hPz : (2 : Int) ^ zs.length = (P : Int) := by rw [← hP]; norm_cast
 rw [hP] at hp hp0
 have HP := hidd hP
 clear hP
 go_enter Tryd.func79, Tryd.ntmps79
 go_wp2_with fail
 go_ret
 refine ⟨?_, HB.out⟩
 rw [HA.out, HP.out]
 show Ending.returned (Value.int .u64 (2 * (P : Int) - 1)) = _
 rw [show ((2 * P - 1 : Nat) : Int) = 2 * (P : Int) - 1 by omega]
def atFN (len i c : Nat) : Nat := if c < i then (2 ^ (c + 1) - 1) &&& allN len else 0
def firstI (len k : Nat) : Near := (atFN len (k + 1) 0, atFN len (k + 1) 1, atFN len (k + 1) 2, 0)
theorem firstI_near {len k head : Nat} (hk : k ≤ 2) : nearOf len k head (firstS len k) = firstI len k := by
 rw [firstS_near hk]
 have e0 := firstS_set (len := len) (k := k) (c := 0) (by omega)
 unfold firstI atFN allN
 rw [e0, if_pos (show 0 < k + 1 by omega)]
 by_cases h1 : 1 ≤ k
 ·have e1 := firstS_set (len := len) (k := k) (c := 1) h1
  rw [if_pos h1, e1, if_pos (show 1 < k + 1 by omega)]
  by_cases h2 : 2 ≤ k
  ·have e2 := firstS_set (len := len) (k := k) (c := 2) h2
   rw [if_pos h2, e2, if_pos (show 2 < k + 1 by omega)]
  ·rw [if_neg h2, if_neg (show ¬ 2 < k + 1 by omega)]
 ·rw [if_neg h1, if_neg (show ¬ 1 < k + 1 by omega), if_neg (show ¬ 2 ≤ k by omega), if_neg (show ¬ 2 < k + 1 by omega)]
abbrev nearV (a b c d : Nat) : Array Value := #[.int .u64 (a : Int), .int .u64 (b : Int), .int .u64 (c : Int), .int .i64 (d : Int)]
theorem near_at (a b c d i : Nat) (h : i < 3) : ∃ x : Nat, (nearV a b c d)[i]? = some (.int .u64 (x : Int)) := by
 match i, h with
 | 0, _ => exact ⟨a, rfl⟩
 | 1, _ => exact ⟨b, rfl⟩
 | 2, _ => exact ⟨c, rfl⟩
theorem atFN_step (len i X : Nat) (h : i ≤ 2) (hX : X = (2 ^ (i + 1) - 1) &&& allN len) : (nearV (atFN len i 0) (atFN len i 1) (atFN len i 2) 0).setIfInBounds i (.int .u64 (X : Int)) = nearV (atFN len (i + 1) 0) (atFN len (i + 1) 1) (atFN len (i + 1) 2) 0 := by
 subst hX
 match i, h with
 | 0, _ => simp [nearV, atFN]
 | 1, _ => simp [nearV, atFN]
 | 2, _ => simp [nearV, atFN]
theorem four_set {W : World} {b : Nat} {x0 x1 x2 x3 : Value} {t : TypeId} (h : W.heap[b]? = some (.cells #[x0, x1, x2, x3] t)) (y0 y1 y2 y3 : Value) : ((((W.setCell ⟨b, 0, none⟩ y0).setCell ⟨b, 1, none⟩ y1).setCell ⟨b, 2, none⟩ y2).setCell ⟨b, 3, none⟩ y3).heap[b]? = some (.cells #[y0, y1, y2, y3] t) := by
 have h1 := blk_setk (blk_setk (blk_setk (blk_setk h 0 y0) 1 y1) 2 y2) 3 y3
 simpa using h1
structure Fi (w W : World) (vw : Value) (k head : Int) (a b c : Nat) : Prop where
 f : W.heap[w.heap.size]? = some (.cells #[vw, .int .i64 k, .int .i64 head] 68)
 r : W.heap[w.heap.size + 1]? = some (.cells (nearV 0 0 0 0) 72)
 n : W.heap[w.heap.size + 2]? = some (.cells (nearV a b c 0) 72)
 bel : Below w.heap.size w W
theorem Fi.below {w W W' : World} {vw : Value} {k head : Int} {a b c : Nat} (h : Fi w W vw k head a b c) (hb : Below W.heap.size W W') : Fi w W' vw k head a b c :=
 ⟨blko h.f hb, blko h.r hb, blko h.n hb, h.bel.trans (hb.mono h.bel.size)⟩
theorem Fi.set {w W : World} {vw : Value} {k head : Int} {a b c : Nat} (h : Fi w W vw k head a b c) (j x a' b' c' : Nat) (hj : (nearV a b c 0).setIfInBounds j (.int .u64 (x : Int)) = nearV a' b' c' 0) : Fi w (W.setCell ⟨w.heap.size + 2, j, none⟩ (.int .u64 (x : Int))) vw k head a' b' c' := by
 refine ⟨(heap_set_other W _ j _ _ (by omega)).trans h.f, (heap_set_other W _ j _ _ (by omega)).trans h.r, ?_, h.bel.setCell (by show w.heap.size ≤ w.heap.size + 2; omega) _⟩
 rw [blk_setk h.n j, hj]
set_option maxHeartbeats 4000000 in
theorem first_any (v : Value) (zs : List Int) (k : Nat) (head : Int) (w : World) (hl : zs.length ≤ 30) (hk : k ≤ 2) (h : HoldI w v zs) :
  Calls Tryd.prog 40 #[.agg #[v, .int .i64 (k : Int), .int .i64 head]] w fun e w' => e = .returned (.agg (nearV (firstI zs.length k).1 (firstI zs.length k).2.1 (firstI zs.length k).2.2.1 0)) ∧ Below w.heap.size w w' := by
 have HH := hidd h
 have HALL : Hid (∀ W, Below w.heap.size w W → Calls Tryd.prog 79 #[.agg #[v, .int .i64 (k : Int), .int .i64 head]] W fun e w' => e = .returned (.int .u64 (allN zs.length : Nat)) ∧ Below W.heap.size W w') := fun W hW => all_any v zs k head W hl (h.below hW)
 obtain ⟨ad, cap, rfl, _⟩ := h
 have hAl := allN_lt hl
 have HF0 : Hid (Fi w (((w.alloc (.cells #[.slice ad zs.length cap, .int .i64 (k : Int), .int .i64 head] 68)).alloc (.cells (nearV 0 0 0 0) 72)).alloc (.cells (nearV 0 0 0 0) 72)) (.slice ad zs.length cap) k head 0 0 0) := by
  have hz1 : (w.alloc (.cells #[.slice ad zs.length cap, .int .i64 (k : Int), .int .i64 head] 68)).heap.size = w.heap.size + 1 := by simp
  have hz2 : ((w.alloc (.cells #[.slice ad zs.length cap, .int .i64 (k : Int), .int .i64 head] 68)).alloc (.cells (nearV 0 0 0 0) 72)).heap.size = w.heap.size + 2 := by rw [World.size_alloc, hz1]
  refine ⟨?_, ?_, ?_, (((Below.refl _ _).alloc (Nat.le_refl _) _).alloc (by simp) _).alloc (by simp; omega) _⟩
  ·rw [Below.heap_alloc _ _ _ (by rw [hz2]; omega), Below.heap_alloc _ _ _ (by rw [hz1]; omega)]; exact heap_alloc_new w _
  ·rw [Below.heap_alloc _ _ _ (by rw [hz2]; omega), ← hz1]; exact heap_alloc_new _ _
  ·rw [← hz2]; exact heap_alloc_new _ _
 have x0 := blkc HF0.out.f 1
 go_enter Tryd.func40, Tryd.ntmps40
 go_wp2_with fail
 go_loopw [8] (fun iv wx => ∃ i : Nat, i ≤ k + 1 ∧ iv = .int .i64 (i : Int) ∧ Fi w wx (.slice ad zs.length cap) k head (atFN zs.length i 0) (atFN zs.length i 1) (atFN zs.length i 2)) (fun iv _ => k + 1 - (intOf iv).toNat)
 case atStart => exact ⟨0, by omega, rfl, HF0.out⟩
 case round =>
  obtain ⟨i, hi, rfl, hF⟩ := hrel
  have HF := hidd hF
  by_cases hlt : i < k + 1
  ·have hz : (i : Int) < (k : Int) + 1 := by omega
   obtain ⟨P, hP, hp0, hp1⟩ : ∃ P : Nat, (2 : Int) ^ i = (P : Int) ∧ 0 < P ∧ P ≤ 4 := ⟨2 ^ i, by norm_cast, Nat.pow_pos (by omega), by have := Nat.pow_le_pow_right (show 0 < 2 by omega) (show i ≤ 2 by omega); simpa using this⟩
   have HPn : Hid (2 ^ (i + 1) - 1 = 2 * P - 1) := by
    show _ = _
    have : ((2 ^ i : Nat) : Int) = (P : Int) := by rw [← hP]; norm_cast
    have : 2 ^ i = P := by omega
    rw [Nat.pow_succ, this]; omega
   have han := u64_and_nat (2 * P - 1) (allN zs.length) (by omega) (by omega)
   rw [show ((2 * P - 1 : Nat) : Int) = 2 * (P : Int) - 1 by omega] at han
   obtain ⟨x, hx⟩ := near_at (atFN zs.length i 0) (atFN zs.length i 1) (atFN zs.length i 2) 0 i (by omega)
   have hi3 : (i : Int) < 3 := by omega
   have hi3n : i < 3 := by omega
   have hw1 : IntKind.u64.wrap (2 * (P : Int)) = 2 * (P : Int) := by rw [IntKind.wrap_u64]; omega
   have hw2 : IntKind.u64.wrap (2 * (P : Int) - 1) = 2 * (P : Int) - 1 := by rw [IntKind.wrap_u64]; omega
   have y0 := blkc hF.f 0
   have y1 := blkc hF.f 1
   have y2 := blkc hF.f 2
   clear hF
   go_wp2_with fail
   go_region_with (go_at_call 79; refine (HALL.out _ (HF.out.below ((Below.refl _ _).drew)).bel).mono ?_; rintro e w1 ⟨rfl, hb1⟩; have hF1 := (HF.out.below (W' := w1) ((Below.refl _ _).drew.trans hb1)); have z0 := (blkc hF1.n i).trans hx; have fz := frozen_of_row _ _ i _ _ hF1.n)
   have hFs := hF1.set i ((2 * P - 1) &&& allN zs.length) _ _ _ (atFN_step zs.length i _ (by omega) (by rw [HPn.out]))
   have HFs := hidd hFs
   clear hFs hF1 z0 fz hb1
   go_wp2_with fail
   go_roundw
   case rel => exact ⟨i + 1, by omega, by go_num, HFs.out⟩
   case measure => simp [intOf]; omega
  ·have hz : ¬ (i : Int) < (k : Int) + 1 := by omega
   obtain rfl : i = k + 1 := by omega
   have n0 := blkc hF.n 0
   have n1 := blkc hF.n 1
   have n2 := blkc hF.n 2
   have n3 := blkc hF.n 3
   have r0 := blkc hF.r 0
   have r1 := blkc hF.r 1
   have r2 := blkc hF.r 2
   have r3 := blkc hF.r 3
   have fz := fun j => frozen_of_row _ _ j _ _ hF.r
   have hfs := four_set hF.r (.int .u64 ((atFN zs.length (k + 1) 0 : Nat) : Int)) (.int .u64 ((atFN zs.length (k + 1) 1 : Nat) : Int)) (.int .u64 ((atFN zs.length (k + 1) 2 : Nat) : Int)) (.int .i64 0)
   have hbf : Below w.heap.size w _ := (((hF.bel.setCell (p := ⟨w.heap.size + 1, 0, none⟩) (by show _ ≤ _; simp) (.int .u64 ((atFN zs.length (k + 1) 0 : Nat) : Int))).setCell (p := ⟨w.heap.size + 1, 1, none⟩) (by show _ ≤ _; simp) (.int .u64 ((atFN zs.length (k + 1) 1 : Nat) : Int))).setCell (p := ⟨w.heap.size + 1, 2, none⟩) (by show _ ≤ _; simp) (.int .u64 ((atFN zs.length (k + 1) 2 : Nat) : Int))).setCell (p := ⟨w.heap.size + 1, 3, none⟩) (by show _ ≤ _; simp) (.int .i64 0)
   have Hfs := hidd hfs
   have Hbf := hidd hbf
   clear hF hfs hbf
   go_wp2_with fail
   have q0 := blkc Hfs.out 0
   have q1 := blkc Hfs.out 1
   have q2 := blkc Hfs.out 2
   have q3 := blkc Hfs.out 3
   have Hbf2 := Hbf.out
   clear Hbf Hfs n0 n1 n2 n3 r0 r1 r2 r3 fz
   generalize (((wr.setCell ⟨w.heap.size + 1, 0, none⟩ (.int .u64 ((atFN zs.length (k + 1) 0 : Nat) : Int))).setCell ⟨w.heap.size + 1, 1, none⟩ (.int .u64 ((atFN zs.length (k + 1) 1 : Nat) : Int))).setCell ⟨w.heap.size + 1, 2, none⟩ (.int .u64 ((atFN zs.length (k + 1) 2 : Nat) : Int))).setCell ⟨w.heap.size + 1, 3, none⟩ (.int .i64 0) = Wf at *
   have HBf := hidd Hbf2
   clear Hbf2
   refine bodyPost_ret (v := .agg (nearV (atFN zs.length (k + 1) 0) (atFN zs.length (k + 1) 1) (atFN zs.length (k + 1) 2) 0)) (by simp [results, Tryd.results40, go_sem, *]) rfl ?_
   exact ⟨rfl, HBf.out⟩
end Go.Proofs.YtoinajfliogcdaaDoor

namespace Go.Proofs.YtoinajfliogcdaaDoor
open Go Go.RowKit
set_option linter.unusedVariables false
set_option linter.unusedSimpArgs false
set_option maxRecDepth 100000

def hitP (zs : List Int) (r : Int) (i : Nat) : Bool := decide (zs.getD i 0 = r)
theorem bset_congr {p q : Nat → Bool} : ∀ (n : Nat), (∀ i, i < n → p i = q i) → bset p n = bset q n
 | 0, _ => rfl
 | n + 1, h => by simp only [bset]; rw [bset_congr n (fun i hi => h i (by omega)), h n (by omega)]
theorem fit_hit {zs : List Int} {r : Int} (hz : ∀ z ∈ zs, 0 ≤ z) : bset (fitP zs r) zs.length = bset (hitP zs r) zs.length := bset_congr _ fun i hi => by
 have : 0 ≤ zs.getD i 0 := by
  rw [List.getD_eq_getElem?_getD, List.getElem?_eq_getElem hi]
  exact hz _ (List.getElem_mem hi)
 unfold fitP hitP
 rw [show decide (zs.getD i 0 = -2) = false by rw [decide_eq_false_iff_not]; omega, Bool.or_false]
def nvN (len fit : Nat) (s : Near) : Nat → Nat
 | 0 => q0N len fit s.1
 | 1 => q1N len fit s.2.1 s.1 (q0N len fit s.1)
 | _ => q1N len fit s.2.2.1 s.2.1 (q1N len fit s.2.1 s.1 (q0N len fit s.1))
def atV (len fit : Nat) (s : Near) (i c : Nat) : Nat := if c < i then nvN len fit s c else 0
theorem stepI_at {len k head : Nat} {hit : Nat → Bool} {s : Near} (hk : k ≤ 2) (h : ¬ (s.2.2.2 < head ∧ hit s.2.2.2 = false)) :
  stepI len k head hit s = (atV len (bset hit len) s (k + 1) 0, atV len (bset hit len) s (k + 1) 1, atV len (bset hit len) s (k + 1) 2, min (s.2.2.2 + 1) head) := by
 unfold stepI
 rw [if_neg h]
 unfold atV
 rw [if_pos (show 0 < k + 1 by omega)]
 by_cases h1 : 1 ≤ k
 ·rw [if_pos (show 1 < k + 1 by omega)]
  by_cases h2 : 2 ≤ k
  ·rw [if_pos (show 2 < k + 1 by omega)]
   simp only [if_pos h1, if_pos h2, nvN]
  ·rw [if_neg (show ¬ 2 < k + 1 by omega)]
   simp only [if_pos h1, if_neg h2, nvN]
 ·rw [if_neg (show ¬ 1 < k + 1 by omega), if_neg (show ¬ 2 < k + 1 by omega)]
  simp only [if_neg h1, if_neg (show ¬ 2 ≤ k by omega), nvN]
theorem q0N_lt {len fit p : Nat} (h : len ≤ 30) : q0N len fit p < 2147483648 := by
 have h1 := allN_lt h
 have h2 : ((p &&& fit) <<< 1) &&& allN len ≤ allN len := Nat.and_le_right
 unfold q0N; unfold allN at h1 h2
 omega
theorem q1N_lt {len fit p q r : Nat} (h : len ≤ 30) : q1N len fit p q r < 2147483648 := by
 have h1 := allN_lt h
 have h2 : (((p &&& fit) <<< 1) ||| (q ||| ((q ||| r) <<< 1))) &&& allN len ≤ allN len := Nat.and_le_right
 unfold q1N; unfold allN at h1 h2
 omega
theorem nvN_lt {len fit : Nat} {s : Near} {c : Nat} (h : len ≤ 30) : nvN len fit s c < 2147483648 := by
 unfold nvN
 split
 ·exact q0N_lt h
 ·exact q1N_lt h
 ·exact q1N_lt h
theorem atV_step (len fit i rd : Nat) (s : Near) (h : i ≤ 2) : (nearV (atV len fit s i 0) (atV len fit s i 1) (atV len fit s i 2) rd).setIfInBounds i (.int .u64 (nvN len fit s i : Int)) = nearV (atV len fit s (i + 1) 0) (atV len fit s (i + 1) 1) (atV len fit s (i + 1) 2) rd := by
 match i, h with
 | 0, _ => simp [nearV, atV]
 | 1, _ => simp [nearV, atV]
 | 2, _ => simp [nearV, atV]
theorem nv_read (len fit rd : Nat) (s : Near) (i : Nat) (h : i ≤ 2) : ∃ x : Nat, (nearV s.1 s.2.1 s.2.2.1 s.2.2.2)[i]? = some (.int .u64 (x : Int)) ∧ (x = s.1 ∨ x = s.2.1 ∨ x = s.2.2.1) ∧
  ((i = 0 ∧ nvN len fit s i = q0N len fit x) ∨ ∃ j y z : Nat, i = j + 1 ∧ (nearV s.1 s.2.1 s.2.2.1 s.2.2.2)[j]? = some (.int .u64 (y : Int)) ∧ (nearV (atV len fit s i 0) (atV len fit s i 1) (atV len fit s i 2) rd)[j]? = some (.int .u64 (z : Int)) ∧ (y = s.1 ∨ y = s.2.1 ∨ y = s.2.2.1) ∧ z = nvN len fit s j ∧ nvN len fit s i = q1N len fit x y z) := by
 match i, h with
 | 0, _ => exact ⟨s.1, rfl, Or.inl rfl, Or.inl ⟨rfl, rfl⟩⟩
 | 1, _ => exact ⟨s.2.1, rfl, Or.inr (Or.inl rfl), Or.inr ⟨0, s.1, _, rfl, rfl, rfl, Or.inl rfl, rfl, rfl⟩⟩
 | 2, _ => exact ⟨s.2.2.1, rfl, Or.inr (Or.inr rfl), Or.inr ⟨1, s.2.1, _, rfl, rfl, rfl, Or.inr (Or.inl rfl), rfl, rfl⟩⟩
structure Fo (w W : World) (vw : Value) (k head : Int) (s : Near) (b3 a b c rd : Nat) : Prop where
 f : W.heap[w.heap.size]? = some (.cells #[vw, .int .i64 k, .int .i64 head] 68)
 s : W.heap[w.heap.size + 1]? = some (.cells (nearV s.1 s.2.1 s.2.2.1 s.2.2.2) 72)
 r : W.heap[w.heap.size + 2]? = some (.cells (nearV 0 0 0 0) 72)
 n : W.heap[b3]? = some (.cells (nearV a b c rd) 72)
 b3 : w.heap.size + 2 < b3
 bel : Below w.heap.size w W
theorem Fo.below {w W W' : World} {vw : Value} {k head : Int} {s : Near} {b3 a b c rd : Nat} (h : Fo w W vw k head s b3 a b c rd) (hb : Below W.heap.size W W') : Fo w W' vw k head s b3 a b c rd :=
 ⟨blko h.f hb, blko h.s hb, blko h.r hb, blko h.n hb, h.b3, h.bel.trans (hb.mono h.bel.size)⟩
theorem Fo.set {w W : World} {vw : Value} {k head : Int} {s : Near} {b3 a b c rd : Nat} (h : Fo w W vw k head s b3 a b c rd) (j x a' b' c' : Nat) (hj : (nearV a b c rd).setIfInBounds j (.int .u64 (x : Int)) = nearV a' b' c' rd) : Fo w (W.setCell ⟨b3, j, none⟩ (.int .u64 (x : Int))) vw k head s b3 a' b' c' rd := by
 have := h.b3
 refine ⟨(heap_set_other W _ j _ _ (by omega)).trans h.f, (heap_set_other W _ j _ _ (by omega)).trans h.s, (heap_set_other W _ j _ _ (by omega)).trans h.r, ?_, h.b3, h.bel.setCell (by show w.heap.size ≤ b3; omega) _⟩
 rw [blk_setk h.n j, hj]
end Go.Proofs.YtoinajfliogcdaaDoor

namespace Go.Proofs.YtoinajfliogcdaaDoor
open Go Go.RowKit
set_option linter.unusedVariables false
set_option maxRecDepth 100000

def letN (ls : List Int) (a : Nat) : Int := if a < ls.length then ls.getD a 0 else -1
def nrK (word ls : List Int) (k head : Nat) : Kaut Near := ⟨fun s a => stepI word.length k head (hitP word (letN ls a)) s, finI word.length k head⟩
def toN (K : Kaut Near) (Z : List Near) (x : Near) (j : Nat) : List Nat := (List.range j).map fun a => ix Z (K.step x a)
def metN (K : Kaut Near) (Z : List Near) (x : Near) (j : Nat) : List Near := meets Z ((List.range j).map (K.step x))
theorem metN_succ (K : Kaut Near) (Z : List Near) (x : Near) (j : Nat) : metN K Z x (j + 1) = meet (metN K Z x j) (K.step x j) := by
 unfold metN
 rw [List.range_succ, List.map_append, List.map_singleton, meets_snoc]
theorem metN_pre (K : Kaut Near) (Z : List Near) (x : Near) (j : Nat) : ∃ r, metN K Z x j = Z ++ r := meets_pre _ _
theorem metN_mem {K : Kaut Near} {Z : List Near} {x : Near} {j a : Nat} (h : a < j) : K.step x a ∈ metN K Z x j := meets_mem.2 (Or.inr (List.mem_map.2 ⟨a, List.mem_range.2 h, rfl⟩))
theorem toN_succ (K : Kaut Near) (Z : List Near) (x : Near) (j : Nat) : toN K (metN K Z x (j + 1)) x (j + 1) = toN K (metN K Z x j) x j ++ [ix (metN K Z x (j + 1)) (K.step x j)] := by
 unfold toN
 rw [List.range_succ, List.map_append, List.map_singleton]
 congr 1
 refine List.map_congr_left fun a ha => ?_
 obtain ⟨r, hr⟩ := meet_pre (metN K Z x j) (K.step x j)
 rw [metN_succ, hr]
 exact ix_pre (metN_mem (List.mem_range.1 ha))
theorem toN_len (K : Kaut Near) (Z : List Near) (x : Near) (j : Nat) : (toN K Z x j).length = j := by simp [toN]
structure FgN (K : Kaut Near) (S : Nat) (x0 : Near) (i : Nat) (Z : List Near) (nxt : List (List Nat)) (fins : List Bool) : Prop where
 bf : bfs (K.nexts S) i 0 [x0] = Z
 le : i ≤ Z.length
 nlen : nxt.length = i
 flen : fins.length = i
 nx : ∀ q, q < i → nxt.getD q [] = toN K Z (Z.getD q x0) S
 mem : ∀ q, q < i → ∀ a, a < S → K.step (Z.getD q x0) a ∈ Z
 fin : ∀ q, q < i → fins.getD q false = K.fin (Z.getD q x0)
theorem FgN.zero (K : Kaut Near) (S : Nat) (x0 : Near) : FgN K S x0 0 [x0] [] [] :=
 ⟨rfl, by simp, rfl, rfl, fun q h => absurd h (by omega), fun q h => absurd h (by omega), fun q h => absurd h (by omega)⟩
theorem FgN.nodup {K : Kaut Near} {S : Nat} {x0 : Near} {i : Nat} {Z : List Near} {nxt : List (List Nat)} {fins : List Bool} (h : FgN K S x0 i Z nxt fins) : Z.Nodup := by
 rw [← h.bf]; exact bfs_nodup _ _ _ _ (by simp)
theorem FgN.step {K : Kaut Near} {S : Nat} {x0 : Near} {i : Nat} {Z : List Near} {nxt : List (List Nat)} {fins : List Bool} (h : FgN K S x0 i Z nxt fins) (hi : i < Z.length) :
  FgN K S x0 (i + 1) (metN K Z (Z.getD i x0) S) (nxt ++ [toN K (metN K Z (Z.getD i x0) S) (Z.getD i x0) S]) (fins ++ [K.fin (Z.getD i x0)]) := by
 have hx : Z[i]? = some (Z.getD i x0) := by rw [List.getD_eq_getElem?_getD, List.getElem?_eq_getElem hi]; rfl
 obtain ⟨r, hr⟩ := metN_pre K Z (Z.getD i x0) S
 have hat : ∀ q, q ≤ i → (metN K Z (Z.getD i x0) S).getD q x0 = Z.getD q x0 := by
  intro q hq
  rw [hr, List.getD_eq_getElem?_getD, List.getElem?_append_left (by omega), ← List.getD_eq_getElem?_getD]
 refine ⟨bfs_step h.bf hx, by rw [hr, List.length_append]; omega, by simp [h.nlen], by simp [h.flen], fun q hq => ?_, fun q hq a ha => ?_, fun q hq => ?_⟩
 ·rw [hat q (by omega)]
  by_cases e : q = i
  ·rw [e, List.getD_eq_getElem?_getD, ← h.nlen]; simp
  ·rw [List.getD_eq_getElem?_getD, List.getElem?_append_left (by rw [h.nlen]; omega), ← List.getD_eq_getElem?_getD, h.nx q (by omega)]
   unfold toN
   refine List.map_congr_left fun a ha => ?_
   rw [hr]
   exact (ix_pre (h.mem q (by omega) a (List.mem_range.1 ha))).symm
 ·rw [hat q (by omega)]
  by_cases e : q = i
  ·rw [e]; exact metN_mem ha
  ·rw [hr]; exact List.mem_append_left _ (h.mem q (by omega) a ha)
 ·rw [hat q (by omega)]
  by_cases e : q = i
  ·rw [e, List.getD_eq_getElem?_getD, ← h.flen]; simp
  ·rw [List.getD_eq_getElem?_getD, List.getElem?_append_left (by rw [h.flen]; omega), ← List.getD_eq_getElem?_getD, h.fin q (by omega)]
theorem FgN.done {K : Kaut Near} {S : Nat} {x0 : Near} {Z : List Near} {nxt : List (List Nat)} {fins : List Bool} (h : FgN K S x0 Z.length Z nxt fins) (hp : 0 < Z.length) :
  IsBfs (K.nexts S) x0 Z ∧ (autR fins nxt).lang S 0 = K.lang S x0 ∧ (∀ q, q < fins.length → (nxt.getD q []).length = S ∧ ∀ a, a < S → (nxt.getD q []).getD a 0 < fins.length) := by
 have hb : IsBfs (K.nexts S) x0 Z := ⟨_, h.bf, Nat.le_refl _⟩
 have hto : ∀ q a, q < Z.length → a < S → (nxt.getD q []).getD a 0 = ix Z (K.step (Z.getD q x0) a) := by
  intro q a hq ha
  rw [h.nx q hq]
  simp [toN, ha]
 refine ⟨hb, ?_, fun q hq => ?_⟩
 ·rw [← K.lang_zero hb]
  refine (Aut.lang_congr (n := Z.length) (K.shut hb) (fun q hq => ?_) (fun q a hq ha => ?_) hp).symm
  ·exact (h.fin q hq).symm
  ·exact (hto q a hq ha).symm
 ·rw [h.flen] at hq ⊢
  refine ⟨by rw [h.nx q hq, toN_len], fun a ha => ?_⟩
  rw [hto q a hq ha]
  exact ix_lt (h.mem q hq a ha)
theorem runs_lastN : ∀ (n : Nat) (l : List Nat), l.length = n → l ≠ [] → ∃ s, (runs l).getLast? = some s ∧ l.getLast? = some s.2
 | 0, l, hl, h => absurd (List.length_eq_zero_iff.1 hl) h
 | n + 1, l, hl, h => by
  obtain ⟨l', v, rfl⟩ : ∃ l' v, l = l' ++ [v] := ⟨l.dropLast, l.getLast h, (List.dropLast_concat_getLast h).symm⟩
  rw [runs_snoc]
  by_cases e : l'.getLast? = some v
  ·have hl' : l' ≠ [] := by rintro rfl; simp at e
   obtain ⟨s, h1, h2⟩ := runs_lastN n l' (by simpa using hl) hl'
   rw [if_pos e, List.append_nil]
   refine ⟨s, h1, ?_⟩
   rw [e] at h2
   rw [List.getLast?_append]
   simpa using h2
  ·rw [if_neg e]
   exact ⟨(l'.length, v), by simp, by simp⟩
theorem runs_last {l : List Nat} (h : l ≠ []) : ∃ s, (runs l).getLast? = some s ∧ l.getLast? = some s.2 := runs_lastN _ l rfl h
def rowN (K : Kaut Near) (Z : List Near) (x : Near) (j : Nat) : List (Nat × Nat) := runs (toN K (metN K Z x j) x j)
theorem toN_last (K : Kaut Near) (Z : List Near) (x : Near) (j : Nat) : (toN K Z x (j + 1)).getLast? = some (ix Z (K.step x j)) := by
 unfold toN
 rw [List.range_succ, List.map_append, List.map_singleton]
 simp
theorem rowN_last (K : Kaut Near) (Z : List Near) (x : Near) (j : Nat) : ∃ s, (rowN K Z x (j + 1)).getLast? = some s ∧ (metN K Z x (j + 1))[s.2]? = some (K.step x j) := by
 have hl : toN K (metN K Z x (j + 1)) x (j + 1) ≠ [] := by
  intro e
  have := toN_len K (metN K Z x (j + 1)) x (j + 1)
  rw [e] at this
  simp at this
 obtain ⟨s, h1, h2⟩ := runs_last hl
 rw [toN_last] at h2
 refine ⟨s, h1, ?_⟩
 rw [← Option.some.inj h2]
 exact ix_at (metN_mem (by omega))
theorem rowN_same {K : Kaut Near} {Z : List Near} {x : Near} {j : Nat} (h : K.step x (j + 1) = K.step x j) : metN K Z x (j + 2) = metN K Z x (j + 1) ∧ rowN K Z x (j + 2) = rowN K Z x (j + 1) := by
 have hm : metN K Z x (j + 2) = metN K Z x (j + 1) := by
  rw [metN_succ]
  have : K.step x (j + 1) ∈ metN K Z x (j + 1) := by rw [h]; exact metN_mem (by omega)
  unfold meet
  rw [if_pos this]
 refine ⟨hm, ?_⟩
 unfold rowN
 rw [toN_succ, runs_snoc, if_pos, List.append_nil]
 rw [toN_last, hm, h]
theorem rowN_new {K : Kaut Near} {Z : List Near} {x : Near} {j : Nat} (hn : Z.Nodup) (h : ∀ i, j = i + 1 → K.step x (i + 1) ≠ K.step x i) : rowN K Z x (j + 1) = rowN K Z x j ++ [(j, ix (metN K Z x (j + 1)) (K.step x j))] := by
 unfold rowN
 rw [toN_succ, runs_snoc, toN_len, if_neg]
 intro e
 cases j with
 | zero => simp [toN] at e
 | succ i =>
  rw [toN_last] at e
  have e2 := Option.some.inj e
  have hnd : (metN K Z x (i + 2)).Nodup := meets_nodup hn
  obtain ⟨r, hr⟩ := meet_pre (metN K Z x (i + 1)) (K.step x (i + 1))
  have h1 : ix (metN K Z x (i + 2)) (K.step x i) = ix (metN K Z x (i + 1)) (K.step x i) := by
   rw [metN_succ, hr]; exact ix_pre (metN_mem (by omega))
  have h2 := ix_at (metN_mem (K := K) (Z := Z) (x := x) (j := i + 2) (a := i) (by omega))
  have h3 := ix_at (metN_mem (K := K) (Z := Z) (x := x) (j := i + 2) (a := i + 1) (by omega))
  rw [h1, e2, h3] at h2
  exact h i rfl (Option.some.inj h2)
end Go.Proofs.YtoinajfliogcdaaDoor
