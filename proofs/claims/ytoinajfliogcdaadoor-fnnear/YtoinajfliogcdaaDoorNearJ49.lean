import Derived.Test.YtoinajfliogcdaaDoorNearJ48
import Derived.Deep.RegionLaw
import Derived.BigQuiet
import Derived.Deep.RegionHeld
import Derived.Test.YtoinajfliogcdaaDoorNearJ01
namespace Go.Proofs.YtoinajfliogcdaaDoor
open Go Go.RowKit
set_option linter.unusedVariables false

theorem edCode_tx (s t : ByteArray) : edCode s t = if txCode [s, t] = 0 then (if 200 < (runes s).length ∨ 200 < (runes t).length then 12 else 0) else txCode [s, t] := by
 rw [txCode_two, edCode]
 by_cases h : 65536 < s.size ∨ 65536 < t.size
 ·rw [if_pos h, if_pos h]; rfl
 ·rw [if_neg h, if_neg h]
  cases validB s <;> cases validB t <;> simp
theorem texts_new (w : World) (s t : ByteArray) (ty : TypeId) : TextsAt (w.alloc (.cells #[.string s, .string t] ty)) w.heap.size [s, t] := by
 intro k hk
 rw [cell_of_row _ w.heap.size k #[.string s, .string t] ty (0, 0) (by show (w.heap.push _)[w.heap.size]? = _; simp)]
 match k, hk with
 | 0, _ => rfl
 | 1, _ => rfl
theorem textsTwo_any (g cap : Nat) (s t : ByteArray) (w : World) (hs : s.size ≤ 1048576) (ht : t.size ≤ 1048576) (hg : g < w.heap.size) (hc : TextsAt w g [s, t]) (hT : Tabs w) :
  Calls Tryd.prog 48 #[.slice (some ⟨g, 0, none⟩) 2 cap] w fun e w' => e = .returned (.int .i64 (txCode [s, t])) ∧ Below w.heap.size w w' :=
 textsCode_any g cap [s, t] w (by simp) (fun x hx => by simp at hx; rcases hx with rfl | rfl <;> assumption) hg hc hT
theorem fnRow_zero (n : Nat) : zI (fnRow (fun _ => 0) n) = List.replicate n (.int .i64 0) := by
 apply List.ext_getElem?
 intro j
 by_cases hj : j < n
 ·rw [fnRow_at _ hj]; simp [hj]
 ·rw [List.getElem?_eq_none (by rw [fnRow_len]; omega), List.getElem?_eq_none (by simp; omega)]
theorem RunesAt.set {w : World} {g B k : Nat} {zs : List Int} (h : RunesAt w g zs) (v : Value) (hne : g ≠ B) : RunesAt (w.setCell ⟨B, k, none⟩ v) g zs := fun t ht => by
 rw [World.cell?_setCell_far _ _ _ _ (fun e => hne e.symm)]
 exact h t ht
def upE (k : Nat) : Nat → Int := fun j => if j < k then (j : Int) else 0
theorem upE_zero (n : Nat) : fnRow (upE 0) n = fnRow (fun _ => 0) n := fnRow_congr fun j _ => by rw [upE, if_neg (by omega)]
theorem upE_step (k n : Nat) : fnRow (fun j => if j = k then (k : Int) else upE k j) n = fnRow (upE (k + 1)) n := fnRow_congr fun j _ => by
 by_cases h : j = k
 ·subst h; rw [if_pos rfl, upE, if_pos (by omega)]
 ·rw [if_neg h, upE, upE]
  by_cases h2 : j < k
  ·rw [if_pos h2, if_pos (by omega)]
  ·rw [if_neg h2, if_neg (by omega)]
theorem upE_end (a b : List Int) : fnRow (upE (b.length + 1)) (b.length + 1) = fnRow (edZ a b 0) (b.length + 1) := fnRow_congr fun j hj => by
 rw [upE, if_pos hj, edZ, edAt_zero_left a b j (by omega)]
def mixE (a b : List Int) (i k : Nat) : Nat → Int := fun j => if j ≤ k then edZ a b (i + 1) j else edZ a b i j
theorem mixE_end (a b : List Int) (i n : Nat) : fnRow (mixE a b i n) (n + 1) = fnRow (edZ a b (i + 1)) (n + 1) := fnRow_congr fun j hj => by rw [mixE, if_pos (by omega)]
theorem mixE_start (a b : List Int) (i n : Nat) : fnRow (fun j => if j = 0 then edZ a b (i + 1) 0 else edZ a b i j) n = fnRow (mixE a b i 0) n := fnRow_congr fun j _ => by
 by_cases h : j = 0
 ·subst h; simp [mixE]
 ·rw [if_neg h, mixE, if_neg (by omega)]
theorem mixE_step (a b : List Int) (i k n : Nat) : fnRow (fun j => if j = k + 1 then edZ a b (i + 1) (k + 1) else mixE a b i k j) n = fnRow (mixE a b i (k + 1)) n := fnRow_congr fun j _ => by
 by_cases h : j = k + 1
 ·subst h; rw [if_pos rfl, mixE, if_pos (Nat.le_refl _)]
 ·rw [if_neg h, mixE, mixE]
  by_cases h2 : j ≤ k
  ·rw [if_pos h2, if_pos (by omega)]
  ·rw [if_neg h2, if_neg (by omega)]
set_option maxHeartbeats 8000000 in
set_option maxRecDepth 100000 in
theorem implEdits_any (s t : ByteArray) (w : World) (hs : s.size ≤ 1048576) (ht : t.size ≤ 1048576) (hT : Tabs w) :
  Calls Tryd.prog 13 #[.string s, .string t] w fun e w' => e = .returned (.tuple #[.int .i64 (edVal s t), .int .i64 (edCode s t)]) ∧ Below w.heap.size w w' := by
 obtain ⟨i0, hi, hz0, hz1, hz2⟩ := info_parts Tryd.infoInt
 have HT := hidd hT
 clear hT
 have HBa : Hid (Below w.heap.size w (w.alloc (.cells #[.string s, .string t] 9))) := (Below.refl _ _).alloc (Nat.le_refl _) _
 have Htx := hidd (textsTwo_any w.heap.size 2 s t (w.alloc (.cells #[.string s, .string t] 9)) hs ht (by simp) (texts_new w s t _) (HT.out.below HBa.out))
 by_cases hc : txCode [s, t] = 0
 ·have HC := hidd hc
  have HE := hidd (edCode_tx s t)
  rw [hc, if_pos rfl] at HE
  clear hc
  go_enter Tryd.func13, Tryd.ntmps13
  go_wp2_with fail
  refine Htx.out.mono ?_
  rintro e w1 ⟨rfl, hb1⟩
  rw [HC.out]
  have HB1 := hidd (HBa.out.trans (hb1.mono HBa.out.size))
  clear hb1
  obtain ⟨cf, wf, hcf, hbf, hsf, hrf⟩ := run_runes s w1 hs
  obtain ⟨ct, wt, hct, hbt, hst, hrt⟩ := run_runes t wf ht
  have HRf := hidd (hrf.below hbt)
  have HRt := hidd hrt
  have HB2 := hidd (HB1.out.trans ((hbf.trans (hbt.mono hbf.size)).mono HB1.out.size))
  have hzw := HB1.out.size
  clear hrf hrt hbf hbt
  have hln1 := runes_le s
  have hln2 := runes_le t
  by_cases h5 : 200 < (runes s).length
  ·have HX : Hid (edCode s t = 12) := by show _ = _; rw [HE.out, if_pos (Or.inl h5)]
   have HV := hidd (edVal_ne (s := s) (t := t) (by rw [HX.out]; omega))
   have hz : (200 : Int) < ((runes s).length : Int) := by omega
   go_wp2
   go_ret2
   rw [HV.out, HX.out]
   exact ⟨rfl, HB2.out⟩
  have hz5 : ¬ (200 : Int) < ((runes s).length : Int) := by omega
  by_cases h6 : 200 < (runes t).length
  ·have HX : Hid (edCode s t = 12) := by show _ = _; rw [HE.out, if_pos (Or.inr h6)]
   have HV := hidd (edVal_ne (s := s) (t := t) (by rw [HX.out]; omega))
   have hz : (200 : Int) < ((runes t).length : Int) := by omega
   go_wp2
   go_ret2
   rw [HV.out, HX.out]
   exact ⟨rfl, HB2.out⟩
  have hz6 : ¬ (200 : Int) < ((runes t).length : Int) := by omega
  have HX : Hid (edCode s t = 0) := by show _ = _; rw [HE.out, if_neg (by omega)]
  have HV : Hid (edVal s t = ((edits (runes s) (runes t) : Nat) : Int)) := by show _ = _; rw [edVal, if_pos HX.out]
  have hzt := HB2.out.size
  generalize runes s = a at *
  generalize runes t = b at *
  have hal : a.length ≤ 200 := by omega
  have hbl : b.length ≤ 200 := by omega
  have hnz : ((b.length : Int) + 1).toNat = b.length + 1 := by omega
  go_wp2_with (at_make; refine wpList_make_full _ rfl _ _ 30 rfl w.heap.size 3 i0 (.int .i64 0) 1 Tryd.underlying30 hi hz0 hz1 _ _ _ _ (b.length + 1) rfl rfl (by omega) (by omega) ?b2 ?b3 hzt ?_)
  case b2 => rw [hz2]; omega
  case b3 => unfold maxLen; omega
  intro w0 hown0 hgrow0
  try rw [hsf] at HRt
  have HO0 : Hid (w0.ownsRow w.heap.size 3 1 (.slice (some ⟨w1.heap.size + 1 + 1, 0, none⟩) (b.length + 1) (b.length + 1)) (b.length + 1) (zI (fnRow (upE 0) (b.length + 1)))) := by
   have e0 : (madeCells #[Value.int .i64 0] (b.length + 1)).toList = List.replicate (b.length + 1) (Value.int .i64 0) := toList_madeCells_one _ _
   rw [e0] at hown0
   show World.ownsRow _ _ _ _ _ _ _
   rw [upE_zero, fnRow_zero]
   exact hown0
  have HB0 : Hid (Below w.heap.size w w0) := HB2.out.grown hgrow0 hzt (fun k h => by cases h)
  have HRf0 : Hid (RunesAt w0 w1.heap.size a) := HRf.out.below ((Below.refl _ _).grown hgrow0 (Nat.le_refl _) (fun k h => by cases h))
  have HRt0 : Hid (RunesAt w0 (w1.heap.size + 1) b) := HRt.out.below ((Below.refl _ _).grown hgrow0 (Nat.le_refl _) (fun k h => by cases h))
  have hz0s : w1.heap.size + 1 + 1 < w0.heap.size := own_lt HO0.out
  clear hown0 hgrow0 HRf HRt HB2 hcf hct hsf hst hzt HE Htx HBa HB1 HT
  obtain ⟨B3, hB3⟩ : ∃ B, w1.heap.size + 1 + 1 = B := ⟨_, rfl⟩
  rw [hB3] at HO0 hz0s ⊢
  obtain ⟨B2, hB2⟩ : ∃ B, w1.heap.size + 1 = B := ⟨_, rfl⟩
  rw [hB2] at HRt0 ⊢
  obtain ⟨B1, hB1⟩ : ∃ B, w1.heap.size = B := ⟨_, rfl⟩
  rw [hB1] at hzw HRf0 ⊢
  have h13 : B1 < B3 := by omega
  have h23 : B2 < B3 := by omega
  have hw3 : w.heap.size ≤ B3 := by omega
  clear hB1 hB2 hB3 hz5 hz6 h5 h6 hnz
  go_wp2
  go_loopw [42] (fun kv wr => ∃ k : Nat, k ≤ b.length + 1 ∧ kv = .int .i64 (k : Int) ∧ wr.ownsRow w.heap.size 3 1 (.slice (some ⟨B3, 0, none⟩) (b.length + 1) (b.length + 1)) (b.length + 1) (zI (fnRow (upE k) (b.length + 1))) ∧ Below w.heap.size w wr ∧ RunesAt wr B1 a ∧ RunesAt wr B2 b) (fun kv _ => b.length + 1 - (intOf kv).toNat)
  case atStart => exact ⟨0, Nat.zero_le _, rfl, HO0.out, HB0.out, HRf0.out, HRt0.out⟩
  case round =>
   obtain ⟨k, hk, rfl, hown, hbel, hra, hrb⟩ := hrel
   clear HO0 HB0 HRf0 HRt0
   have HO := hidd hown
   have HB := hidd hbel
   have HRa := hidd hra
   have HRb := hidd hrb
   clear hown hbel hra hrb
   by_cases hlt : k < b.length + 1
   ·have hltz : (k : Int) < (b.length : Int) + 1 := by omega
    have f1 := HO.out.frozenAt k
    have c1 := (HO.out.cellAt k (by omega)).trans (fnRow_at (upE k) hlt)
    have st := hidd (HO.out.stored k (.int .i64 (k : Int)))
    have Hst := hidd ((fnRow_set (upE k) (b.length + 1) k (k : Int)).trans (congrArg zI (upE_step k (b.length + 1))))
    have HRa2 : Hid (RunesAt (wr.setCell ⟨B3, k, none⟩ (.int .i64 (k : Int))) B1 a) := HRa.out.set _ (by omega)
    have HRb2 : Hid (RunesAt (wr.setCell ⟨B3, k, none⟩ (.int .i64 (k : Int))) B2 b) := HRb.out.set _ (by omega)
    clear HO
    go_wp2
    go_roundw
    case rel =>
     have h := st.out.1
     rw [Hst.out] at h
     exact ⟨k + 1, by omega, by go_num, h, HB.out.setCell (p := ⟨B3, k, none⟩) hw3 _, HRa2.out, HRb2.out⟩
    case measure => simp [intOf]; omega
   ·have hltz : ¬ (k : Int) < (b.length : Int) + 1 := by omega
    obtain rfl : k = b.length + 1 := by omega
    rw [upE_end a b] at HO
    go_wp2
    go_loopw [52] (fun iv wr => ∃ i : Nat, i ≤ a.length ∧ iv = .int .i64 (i : Int) ∧ wr.ownsRow w.heap.size 3 1 (.slice (some ⟨B3, 0, none⟩) (b.length + 1) (b.length + 1)) (b.length + 1) (zI (fnRow (edZ a b i) (b.length + 1))) ∧ Below w.heap.size w wr ∧ RunesAt wr B1 a ∧ RunesAt wr B2 b) (fun iv _ => a.length - (intOf iv).toNat)
    case atStart => exact ⟨0, Nat.zero_le _, rfl, HO.out, HB.out, HRa.out, HRb.out⟩
    case round =>
     obtain ⟨i, hi', rfl, hown, hbel, hra, hrb⟩ := hrel
     clear HO HB HRa HRb
     have HO := hidd hown
     have HB := hidd hbel
     have HRa := hidd hra
     have HRb := hidd hrb
     clear hown hbel hra hrb
     by_cases hlt : i < a.length
     ·have hltz : (i : Int) < (a.length : Int) := by omega
      have g1 := HRa.out i hlt
      have f1 := HO.out.frozenAt 0
      have c1 := (HO.out.cellAt 0 (by omega)).trans (fnRow_at (edZ a b i) (show 0 < b.length + 1 by omega))
      have e1 : edZ a b i 0 = (i : Int) := by rw [edZ, edAt_zero_right a b i (by omega)]
      have e2 : edZ a b (i + 1) 0 = (i : Int) + 1 := by rw [edZ, edAt_zero_right a b (i + 1) (by omega)]; omega
      have E2 := hidd e2
      have E1 := hidd e1
      rw [e1] at c1
      clear e1 e2
      have hbz : (0 : Int) < (b.length : Int) + 1 := by omega
      have st := hidd (HO.out.stored 0 (.int .i64 ((i : Int) + 1)))
      have Hst : Hid ((zI (fnRow (edZ a b i) (b.length + 1))).set 0 (.int .i64 ((i : Int) + 1)) = zI (fnRow (mixE a b i 0) (b.length + 1))) := by
       show _ = _
       rw [fnRow_set, ← E2.out, mixE_start]
      have HRa2 : Hid (RunesAt (wr.setCell ⟨B3, 0, none⟩ (.int .i64 ((i : Int) + 1))) B1 a) := HRa.out.set _ (by omega)
      have HRb2 : Hid (RunesAt (wr.setCell ⟨B3, 0, none⟩ (.int .i64 ((i : Int) + 1))) B2 b) := HRb.out.set _ (by omega)
      have HB2 := hidd (HB.out.setCell (p := ⟨B3, 0, none⟩) hw3 (.int .i64 ((i : Int) + 1)))
      have HO2 := hidd st.out.1
      rw [Hst.out] at HO2
      obtain ⟨x, hx⟩ : ∃ x, a.getD i 0 = x := ⟨_, rfl⟩
      rw [hx] at g1
      have Hx := hidd hx
      clear hx
      clear HO st Hst HB HRb
      go_wp2
      generalize wr.setCell ⟨B3, 0, none⟩ (.int .i64 ((i : Int) + 1)) = ws at *
      go_loopw [13, 66] (fun cv kv wr => ∃ k : Nat, k ≤ b.length ∧ kv = .int .i64 (k : Int) ∧ cv = .int .i64 (edZ a b i k) ∧ wr.ownsRow w.heap.size 3 1 (.slice (some ⟨B3, 0, none⟩) (b.length + 1) (b.length + 1)) (b.length + 1) (zI (fnRow (mixE a b i k) (b.length + 1))) ∧ Below w.heap.size w wr ∧ RunesAt wr B1 a ∧ RunesAt wr B2 b) (fun _ kv _ => b.length - (intOf kv).toNat)
      case atStart => exact ⟨0, Nat.zero_le _, rfl, by rw [E1.out], HO2.out, HB2.out, HRa2.out, HRb2.out⟩
      case round =>
       obtain ⟨k, hk, rfl, rfl, hown, hbel, hra, hrb⟩ := hrel
       clear HO2 HB2 HRa2 HRb2
       have HO := hidd hown
       have HB := hidd hbel
       have HRa := hidd hra
       have HRb := hidd hrb
       clear hown hbel hra hrb
       by_cases hkl : k < b.length
       ·have hkz : (k : Int) < (b.length : Int) := by omega
        have hkz1 : (k : Int) + 1 < (b.length : Int) + 1 := by omega
        have hkz2 : (k : Int) < (b.length : Int) + 1 := by omega
        have g2 := HRb.out k hkl
        obtain ⟨y, hy⟩ : ∃ y, b.getD k 0 = y := ⟨_, rfl⟩
        rw [hy] at g2
        have Hy := hidd hy
        clear hy
        have f2 := HO.out.frozenAt (k + 1)
        have c0 := (HO.out.cellAt k (by omega)).trans (fnRow_at (mixE a b i k) (show k < b.length + 1 by omega))
        have c2 := (HO.out.cellAt (k + 1) (by omega)).trans (fnRow_at (mixE a b i k) (show k + 1 < b.length + 1 by omega))
        rw [show mixE a b i k k = edZ a b (i + 1) k from by rw [mixE, if_pos (Nat.le_refl _)]] at c0
        rw [show mixE a b i k (k + 1) = edZ a b i (k + 1) from by rw [mixE, if_neg (by omega)]] at c2
        have b0 := edZ_bd a b i k
        have b1 := edZ_bd a b i (k + 1)
        have b2 := edZ_bd a b (i + 1) k
        have b3 := edZ_bd a b (i + 1) (k + 1)
        by_cases hxy : x = y
        ·have hxb : (x != y) = false := by simp [hxy]
         have hd3 := (edZ_same hlt hkl (Hx.out.trans (hxy.trans Hy.out.symm)))
         have Hst := hidd ((fnRow_set (mixE a b i k) (b.length + 1) (k + 1) (edZ a b (i + 1) (k + 1))).trans (congrArg zI (mixE_step a b i k (b.length + 1))))
         have st := hidd (HO.out.stored (k + 1) (.int .i64 (edZ a b (i + 1) (k + 1))))
         rw [Hst.out] at st
         clear Hst hxy Hx Hy
         generalize edZ a b i k = d0 at *
         generalize hd1 : edZ a b i (k + 1) = d1 at *
         have Hd1 := hidd hd1
         clear hd1
         generalize edZ a b (i + 1) k = d2 at *
         generalize edZ a b (i + 1) (k + 1) = d3 at *
         subst hd3
         have HRa3 : Hid (RunesAt (wr.setCell ⟨B3, k + 1, none⟩ (.int .i64 d3)) B1 a) := HRa.out.set _ (by omega)
         have HRb3 : Hid (RunesAt (wr.setCell ⟨B3, k + 1, none⟩ (.int .i64 d3)) B2 b) := HRb.out.set _ (by omega)
         have HB3 := hidd (HB.out.setCell (p := ⟨B3, k + 1, none⟩) hw3 (.int .i64 d3))
         clear HO HB HRa HRb
         go_wp2
         go_roundw
         case rel => exact ⟨k + 1, by omega, by go_num, by rw [Hd1.out], st.out.1, HB3.out, HRa3.out, HRb3.out⟩
         case measure => simp [intOf]; omega
        ·have hxb : (x != y) = true := by simp [hxy]
         have hd3 := (edZ_other hlt hkl (fun e => hxy (Hx.out.symm.trans (e.trans Hy.out))))
         have Hst := hidd ((fnRow_set (mixE a b i k) (b.length + 1) (k + 1) (edZ a b (i + 1) (k + 1))).trans (congrArg zI (mixE_step a b i k (b.length + 1))))
         clear hxy Hx Hy
         generalize edZ a b i k = d0 at *
         generalize hd1 : edZ a b i (k + 1) = d1 at *
         have Hd1 := hidd hd1
         clear hd1
         generalize edZ a b (i + 1) k = d2 at *
         generalize edZ a b (i + 1) (k + 1) = d3 at *
         have hmn := min3' d0 d2 d1 d3 hd3
         have hw3' : IntKind.i64.wrap d3 = d3 := IntWalk.i64_in _ ⟨by omega, by omega⟩
         have hwk : IntKind.i64.wrap ((k : Int) + 1) = (k : Int) + 1 := IntWalk.i64_in _ ⟨by omega, by omega⟩
         clear hd3
         go_wp2
         go_quiet (fail)
         have HOq := hidd (own_drewN HO.out nq)
         have HBq := hidd (below_drewN HB.out nq)
         have HRaq : Hid (RunesAt (wr.drewN nq) B1 a) := HRa.out.below (below_drewN (Below.refl _ _) nq)
         have HRbq : Hid (RunesAt (wr.drewN nq) B2 b) := HRb.out.below (below_drewN (Below.refl _ _) nq)
         have f2q : (wr.drewN nq).frozen? ⟨B3, k + 1, none⟩ = false := HOq.out.frozenAt (k + 1)
         have c2q : (wr.drewN nq).cell? ⟨B3, k + 1, none⟩ = some (.int .i64 d1) := by simpa using c2
         clear HO HB HRa HRb f2 c2 c0 g1 g2
         generalize wr.drewN nq = wq at *
         have st := hidd (HOq.out.stored (k + 1) (.int .i64 d3))
         rw [Hst.out] at st
         have HRa3 : Hid (RunesAt (wq.setCell ⟨B3, k + 1, none⟩ (.int .i64 d3)) B1 a) := HRaq.out.set _ (by omega)
         have HRb3 : Hid (RunesAt (wq.setCell ⟨B3, k + 1, none⟩ (.int .i64 d3)) B2 b) := HRbq.out.set _ (by omega)
         have HB3 := hidd (HBq.out.setCell (p := ⟨B3, k + 1, none⟩) hw3 (.int .i64 d3))
         clear HOq HBq HRaq HRbq
         go_wp2
         go_roundw
         case rel => exact ⟨k + 1, by omega, by go_num, by rw [Hd1.out], st.out.1, HB3.out, HRa3.out, HRb3.out⟩
         case measure => simp [intOf]; omega
       ·have hkz : ¬ (k : Int) < (b.length : Int) := by omega
        obtain rfl : k = b.length := by omega
        have HOe := hidd HO.out
        rw [mixE_end] at HOe
        go_wp2
        go_roundw
        case rel => exact ⟨i + 1, by omega, by go_num, HOe.out, HB.out, HRa.out, HRb.out⟩
        case measure => simp [intOf]; omega
     ·have hltz : ¬ (i : Int) < (a.length : Int) := by omega
      obtain rfl : i = a.length := by omega
      have c1 := (HO.out.cellAt b.length (by omega)).trans (fnRow_at (edZ a b a.length) (show b.length < b.length + 1 by omega))
      have hbz : (b.length : Int) < (b.length : Int) + 1 := by omega
      go_wp2
      go_ret2
      rw [HV.out, HX.out]
      exact ⟨rfl, HB.out⟩
 ·have hcn : (txCode [s, t] != 0) = true := by rw [bne_iff_ne]; exact hc
  have HE := hidd (edCode_tx s t)
  rw [if_neg hc] at HE
  have HV := hidd (edVal_ne (s := s) (t := t) (by rw [HE.out]; exact hc))
  clear hc
  go_enter Tryd.func13, Tryd.ntmps13
  go_wp2_with fail
  refine Htx.out.mono ?_
  rintro e w1 ⟨rfl, hb1⟩
  have HB1 := hidd (HBa.out.trans (hb1.mono HBa.out.size))
  clear hb1
  go_wp2
  go_ret2
  rw [HV.out, HE.out]
  exact ⟨rfl, HB1.out⟩
end Go.Proofs.YtoinajfliogcdaaDoor

namespace Go.Proofs.YtoinajfliogcdaaDoor
open Go Go.RowKit
set_option linter.unusedVariables false

set_option maxHeartbeats 2000000 in
set_option maxRecDepth 100000 in
theorem drawText5_any (b : Nat) (ao : Option Addr) (n cap : Nat) (a sd : Int) (w : World) (hn : n ≤ 1048576) (ha0 : 0 ≤ a) (ha2 : a ≤ 274877906944) (hs0 : 0 ≤ sd) (hs1 : sd < 2147483648)
  (hs : SrcAt w b (.slice ao n cap) a sd) (hc : Code w b ao n) :
  Calls Tryd.prog 30 #[.pointer (some ⟨b, 0, none⟩)] w fun e w' => DrawnT w b (.slice ao n cap) a 18 80 e w' := by
 have HS := hidd hs
 have HC := hidd hc
 have hb := hs.lt
 clear hs hc
 go_enter Tryd.func30, Tryd.ntmps30
 go_wp2_with fail
 refine (next_any b ao n cap a sd 6 _ hn (by omega) (by omega) ha0 (by omega) hs0 hs1 HS.out HC.out).mono ?_
 rintro e w1 ⟨y, a1, sd1, rfl, hy0, hy1, ha3, ha4, hsd0, hsd1, hs1', hg1⟩
 obtain ⟨N, rfl⟩ := Int.eq_ofNat_of_zero_le hy0
 have HS1 := hidd hs1'
 have HG1 := hidd hg1
 clear hs1' hg1
 go_wp2
 go_loopw [3, 4] (fun ov kv wr => ∃ (k : Nat) (t : ByteArray) (a2 sd2 : Int), k ≤ N ∧ kv = .int .i64 (k : Int) ∧ ov = .string t ∧ t.size + 16 * k ≤ 16 * N ∧ a ≤ a2 ∧ a2 + 3 * (k : Int) ≤ a + 3 + 3 * (N : Int) ∧ 0 ≤ sd2 ∧ sd2 < 2147483648 ∧ SrcAt wr b (.slice ao n cap) a2 sd2 ∧ w.grownBy wr (some b)) (fun _ kv _ => (intOf kv).toNat)
 case atStart => exact ⟨N, ⟨#[]⟩, a1, sd1, Nat.le_refl _, rfl, rfl, by show 0 + 16 * N ≤ 16 * N; omega, by omega, by omega, hsd0, hsd1, HS1.out, HG1.out⟩
 case round =>
  obtain ⟨k, t, a2, sd2, hkN, rfl, rfl, htk, ha5, ha6, hd0, hd1, hsr, hgr⟩ := hrel
  have HSr := hidd hsr
  have HGr := hidd hgr
  have hbr := hsr.lt
  clear hsr hgr
  by_cases hk : 0 < k
  ·have hkz : (0 : Int) < (k : Int) := by omega
   go_wp2_with fail
   refine (next_any b ao n cap a2 sd2 7 _ hn (by omega) (by omega) (by omega) (by omega) hd0 hd1 (by exact HSr.out.alloc _) (by exact (HC.out.kept HGr.out).alloc _)).mono ?_
   rintro e w3 ⟨x, a3, sd3, rfl, hx0, hx1, ha7, ha8, hd4, hd5, hs3, hg3⟩
   obtain ⟨X, rfl⟩ := Int.eq_ofNat_of_zero_le hx0
   obtain ⟨v, hv, hvm⟩ := table_str hg3 hbr 16 (by decide +kernel) X (by show X < 7; omega)
   have HR := hidd (And.intro hs3 (grown_trans HGr.out (grown_trans (World.grownBy_alloc wr _ (some b)) hg3)))
   clear hs3 hg3 HSr HGr
   have hxz : (X : Int) < 7 := by omega
   go_wp2
   go_roundw
   case rel => exact ⟨k - 1, t ++ v, a3, sd3, by omega, by go_num, rfl, by rw [ByteArray.size_append]; omega, by omega, by omega, hd4, hd5, HR.out.1, HR.out.2⟩
   case measure => simp [intOf]; omega
  ·have HK : Hid (k = 0) := by show k = 0; omega
   have hkz : ¬ (0 : Int) < (k : Int) := by omega
   go_wp2
   go_ret
   unfold DrawnT
   exact ⟨t, a2, sd2, rfl, by omega, by omega, by omega, hd0, hd1, HSr.out, HGr.out⟩
def Drw3 (w : World) (e : Ending) (w' : World) : Prop := ∃ (s : ByteArray) (k h : Int), e = .returned (.tuple #[.string s, .int .i64 k, .int .i64 h]) ∧ s.size ≤ 1048576 ∧ Below w.heap.size w w'
set_option maxHeartbeats 4000000 in
set_option maxRecDepth 100000 in
theorem drawFuzzy_any (ao : Option Addr) (n cap : Nat) (w : World) (hn : n ≤ 1048576) (hc : CodeIn w ao n) :
  Calls Tryd.prog 7 #[.slice ao n cap] w fun e w' => Drw3 w e w' := by
 have HC := hidd hc
 clear hc
 go_enter Tryd.func7, Tryd.ntmps7
 go_wp2_with fail
 refine (source_any ao n cap _ hn).mono ?_
 rintro e w1 ⟨rfl, hs1, hg1⟩
 have HG1 := hidd hg1
 have HC1 := hidd (HC.out.code hg1)
 have HS1 := hidd hs1
 have hm0 : 0 ≤ (n : Int) % 1000 := Int.emod_nonneg _ (by omega)
 have hm1 : (n : Int) % 1000 < 2147483648 := by have := Int.emod_lt_of_pos (n : Int) (by omega : (0 : Int) < 1000); omega
 generalize (n : Int) % 1000 = sd0 at *
 clear hs1 hg1
 go_wp2_with fail
 refine (drawText5_any w.heap.size ao n cap 0 sd0 _ hn (by omega) (by omega) hm0 hm1 HS1.out HC1.out).mono ?_
 rintro e w2 ⟨s, a2, sd2, rfl, hss, ha2, ha2', hd2, hd2', hs2, hg2⟩
 have HS2 := hidd hs2
 have HG2 := hidd hg2
 have HC2 := hidd (HC1.out.kept hg2)
 clear hs2 hg2 HS1 HC1
 go_wp2_with fail
 refine (next_any w.heap.size ao n cap a2 sd2 3 _ hn (by omega) (by omega) (by omega) (by omega) hd2 hd2' HS2.out HC2.out).mono ?_
 rintro e w3 ⟨k, a3, sd3, rfl, hk0, hk1, ha3, ha3', hd3, hd3', hs3, hg3⟩
 have HS3 := hidd hs3
 have HG3 := hidd (grown_trans HG2.out hg3)
 have HC3 := hidd (HC2.out.kept hg3)
 clear hs3 hg3 HS2 HC2 HG2
 go_wp2_with fail
 refine (next_any w.heap.size ao n cap a3 sd3 3 _ hn (by omega) (by omega) (by omega) (by omega) hd3 hd3' HS3.out HC3.out).mono ?_
 rintro e w4 ⟨h, a4, sd4, rfl, hh0, hh1, ha4, ha4', hd4, hd4', hs4, hg4⟩
 have HS4 := hidd hs4
 have HG4 := hidd (grown_trans HG3.out hg4)
 have HC4 := hidd (HC3.out.kept hg4)
 clear hs4 hg4 HS3 HC3 HG3
 go_wp2_with fail
 refine (next_any w.heap.size ao n cap a4 sd4 12 _ hn (by omega) (by omega) (by omega) (by omega) hd4 hd4' HS4.out HC4.out).mono ?_
 rintro e w5 ⟨z, a5, sd5, rfl, hz0, hz1, ha5, ha5', hd5, hd5', hs5, hg5⟩
 have HS5 := hidd hs5
 have HG5 := hidd (grown_trans HG4.out hg5)
 have HC5 := hidd (HC4.out.kept hg5)
 clear hs5 hg5 HS4 HC4 HG4
 have HB5 := hidd (below_src HG1.out HG5.out)
 by_cases h0 : z = 0
 ·subst h0
  go_wp2_with fail
  refine (spoil_any w.heap.size ao n cap a5 sd5 s _ hn (by omega) (by omega) (by omega) hd5 hd5' HS5.out HC5.out).mono ?_
  rintro e w6 ⟨u, a6, sd6, rfl, hus, ha6, ha6', hd6, hd6', hs6, hg6⟩
  have HB6 := hidd (below_src HG1.out (grown_trans HG5.out hg6))
  clear hs6 hg6
  go_wp2_with fail
  go_ret3
  exact ⟨u, k, h, rfl, by omega, HB6.out⟩
 ·have z0 : (z == 0) = false := by simpa using h0
  by_cases h1 : z = 1
  ·subst h1
   go_wp2_with fail
   refine (next_any w.heap.size ao n cap a5 sd5 5 _ hn (by omega) (by omega) (by omega) (by omega) hd5 hd5' HS5.out HC5.out).mono ?_
   rintro e w6 ⟨x, a6, sd6, rfl, hx0, hx1, ha6, ha6', hd6, hd6', hs6, hg6⟩
   have HS6 := hidd hs6
   have HG6 := hidd (grown_trans HG5.out hg6)
   have HC6 := hidd (HC5.out.kept hg6)
   clear hs6 hg6
   go_wp2_with fail
   refine (next_any w.heap.size ao n cap a6 sd6 12 _ hn (by omega) (by omega) (by omega) (by omega) hd6 hd6' HS6.out HC6.out).mono ?_
   rintro e w7 ⟨y, a7, sd7, rfl, hy0, hy1, ha7, ha7', hd7, hd7', hs7, hg7⟩
   have HB7 := hidd (below_src HG1.out (grown_trans HG6.out hg7))
   clear hs7 hg7
   go_wp2_with fail
   go_ret3
   exact ⟨s, x - 1, y - 1, rfl, by omega, HB7.out⟩
  ·have z1 : (z == 1) = false := by simpa using h1
   by_cases h2 : z = 2
   ·subst h2
    have HR1 : Hid (∀ W : World, Calls Tryd.prog 33 #[.string ⟨#[120, 121]⟩, .int .i64 15] W fun e w' => ∃ r : ByteArray, e = .returned (.string r) ∧ r.size ≤ 30 ∧ Below W.heap.size W w') := fun W => by
     have := repeat_any ⟨#[120, 121]⟩ 15 W (by decide) (by omega)
     exact this
    go_wp2_with fail
    refine (HR1.out _).mono ?_
    rintro e w6 ⟨r1, rfl, hr1, hb6⟩
    have hg6 : w5.grownBy w6 (some w.heap.size) := ⟨hb6.os, hb6.tape, hb6.output, hb6.size, fun b hb _ => hb6.block b hb⟩
    have HG6 := hidd (grown_trans HG5.out hg6)
    have HS6 : Hid (SrcAt w6 w.heap.size (.slice ao n cap) a5 sd5) := (hb6.block _ (HS5.out : SrcAt _ _ _ _ _).lt).trans HS5.out
    have HC6 := hidd (HC5.out.kept hg6)
    clear hb6 hg6 HR1
    go_wp2_with fail
    refine (next_any w.heap.size ao n cap a5 sd5 2 _ hn (by omega) (by omega) (by omega) (by omega) hd5 hd5' HS6.out HC6.out).mono ?_
    rintro e w7 ⟨y, a7, sd7, rfl, hy0, hy1, ha7, ha7', hd7, hd7', hs7, hg7⟩
    have HG7 := hidd (grown_trans HG6.out hg7)
    clear hs7 hg7
    obtain ⟨Y, rfl⟩ := Int.eq_ofNat_of_zero_le hy0
    have HR2 := hidd (repeat_any ⟨#[122]⟩ Y w7 (by decide) (by omega))
    go_wp2_with fail
    refine HR2.out.mono ?_
    rintro e w8 ⟨r2, rfl, hr2, hb8⟩
    have hb7 := below_src HG1.out HG7.out
    have HB8 := hidd (hb7.trans (hb8.mono hb7.size))
    have hr3 : r2.size ≤ 1 := by
     have h9 : (⟨#[122]⟩ : ByteArray).size = 1 := rfl
     rw [h9] at hr2
     omega
    clear hb8 hb7 hr2
    go_wp2_with fail
    go_ret3
    exact ⟨r1 ++ r2, _, _, rfl, by rw [ByteArray.size_append]; omega, HB8.out⟩
   ·have z2 : (z == 2) = false := by simpa using h2
    go_wp2_with fail
    all_goals
     go_ret3
     exact ⟨s, k, _, rfl, by omega, HB5.out⟩
end Go.Proofs.YtoinajfliogcdaaDoor
