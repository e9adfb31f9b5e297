import Derived.Test.YtifgcimmlonagaaDoorSuggestJ11
namespace Go.Proofs.YtifgcimmlonagaaDoor
open Go Go.RowKit
set_option linter.unusedVariables false
set_option maxRecDepth 100000
set_option linter.unusedSimpArgs false

/-! One character more. -/
def upF (F G : Nat → Int) (i : Nat) : Int := min (if i < 4 then F (i + 1) + 1 else 3) (if 0 < i then G (i - 1) + 1 else 3)
structure NextF (a : List Int) (L : Nat) (r : Int) (F G : Nat → Int) : Prop where
  f : ∀ j, 0 ≤ F j ∧ F j ≤ 3
  g : ∀ j, 0 ≤ G j ∧ G j ≤ 3
  out : ∀ i, ¬ (2 ≤ L + 1 + i ∧ L + 1 + i ≤ a.length + 2) → G i = 3
  zero : ∀ i, i < 5 → L + 1 + i = 2 → G i = min 3 (upF F G i)
  same : ∀ i s, i < 5 → L + 1 + i = s + 3 → s < a.length → a.getD s 0 = r → G i = min (min 3 (upF F G i)) (F i)
  other : ∀ i s, i < 5 → L + 1 + i = s + 3 → s < a.length → ¬ a.getD s 0 = r → G i = min (min 3 (upF F G i)) (F i + 1)
theorem upF_up (a b : List Int) (r : Int) (i : Nat) : upF (bF a b) (bF a (b ++ [r])) i = (up1 a b r i : Int) := by
  unfold upF up1 bF
  split <;> split <;> omega
theorem nextF (a b : List Int) (r : Int) : NextF a b.length r (bF a b) (bF a (b ++ [r])) where
  f := fun j => by have := bnd_le a b j; unfold bF; omega
  g := fun j => by have := bnd_le a (b ++ [r]) j; unfold bF; omega
  out := fun i h => by unfold bF; rw [bnd_out a (b ++ [r]) i (by simpa using h)]; rfl
  zero := fun i hi h => by
    rw [upF_up]
    unfold bF
    rw [bnd_zero a b r i hi (by omega)]
    omega
  same := fun i s hi h hs e => by
    rw [upF_up]
    unfold bF
    rw [bnd_next a b r i s hi (by omega) hs, ne1, if_pos e]
    have := bnd_le a b i
    omega
  other := fun i s hi h hs e => by
    rw [upF_up]
    unfold bF
    rw [bnd_next a b r i s hi (by omega) hs, ne1, if_neg e]
    omega
theorem min_all (f : Nat → Int) (hf : ∀ j, 0 ≤ f j ∧ f j ≤ 3) : (Lib.minOf [f 0, f 1, f 2, f 3, f 4] == 3) = true ↔ ∀ j, j < 5 → f j = 3 := by
  have h0 := hf 0
  have h1 := hf 1
  have h2 := hf 2
  have h3 := hf 3
  have h4 := hf 4
  simp only [Lib.minOf, beq_iff_eq]
  constructor
  · intro h j hj
    simp [List.foldl] at h
    rcases five hj with rfl | rfl | rfl | rfl | rfl <;> omega
  · intro h
    rw [h 0 (by omega), h 1 (by omega), h 2 (by omega), h 3 (by omega), h 4 (by omega)]
    rfl
set_option maxHeartbeats 8000000 in
theorem follow_any (a b : List Int) (r : Int) (s : Option Addr) (ca pw : Nat) (v : Value) (w : World) (hal : a.length ≤ 200) (hbl : b.length ≤ 100000) (hbx : w.heap[pw]? = some (.cells #[.slice s a.length ca, v] 51)) (hT : TxAt w s a) :
    Calls Tryd.prog 45 #[.pointer (some ⟨pw, 0, none⟩), nsV a b, .int .i64 r] w fun e w' => ∃ V, e = .returned V ∧ ((dead a (b ++ [r]) ∧ V = .agg (nsC 0 fun _ => 0)) ∨ (¬ dead a (b ++ [r]) ∧ V = nsV a (b ++ [r]))) ∧ Below w.heap.size w w' := by
  have hpl : pw < w.heap.size := (Array.getElem?_eq_some_iff.1 hbx).1
  have HBx := hidd hbx
  have HT := hidd hT
  have HN := hidd (nextF a b r)
  have HD : Hid (dead a (b ++ [r]) ↔ ∀ j, j < 5 → bF a (b ++ [r]) j = 3) := by
    show _ ↔ _
    unfold dead bF
    exact ⟨fun h j hj => by rw [h j hj]; rfl, fun h j hj => by have := h j hj; omega⟩
  have HV : Hid (nsV a (b ++ [r]) = .agg (nsC ((b.length : Int) + 1) (bF a (b ++ [r])))) := by
    show _ = _
    unfold nsV
    rw [List.length_append, List.length_singleton]
    rfl
  have hV0 : nsV a b = .agg (nsC (b.length : Int) (bF a b)) := rfl
  rw [hV0]
  clear hV0 hbx hT
  generalize dead a (b ++ [r]) = DD at *
  generalize nsV a (b ++ [r]) = VV at *
  generalize bF a (b ++ [r]) = G at *
  generalize bF a b = F at *
  generalize b.length = L at *
  have HZ : Hid (VV = VV) := rfl
  clear HZ
  have Hw0 : Hid (∃ W, W = ((w.alloc (.cells (nsC (L : Int) F) 55)).alloc (.cells (nsC 0 fun _ => 0) 55)).alloc (.cells (nsC ((L : Int) + 1) fun _ => 0) 55) ∧ W.heap[w.heap.size]? = some (.cells (nsC (L : Int) F) 55) ∧ W.heap[w.heap.size + 1]? = some (.cells (nsC 0 fun _ => 0) 55) ∧ W.heap[w.heap.size + 2]? = some (.cells (nsC ((L : Int) + 1) fun _ => 0) 55) ∧ Below w.heap.size w W) := by
    have hb := box_two w (.cells (nsC (L : Int) F) 55) (.cells (nsC 0 fun _ => 0) 55)
    refine ⟨_, rfl, ?_, ?_, ?_, (((Below.refl _ w).alloc (Nat.le_refl _) _).alloc (by simp) _).alloc (by simp; omega) _⟩
    · rw [Below.heap_alloc _ _ _ (by simp; omega)]; exact hb.1
    · rw [Below.heap_alloc _ _ _ (by simp)]; exact hb.2
    · have := heap_alloc_new ((w.alloc (.cells (nsC (L : Int) F) 55)).alloc (.cells (nsC 0 fun _ => 0) 55)) (.cells (nsC ((L : Int) + 1) fun _ => 0) 55)
      simpa using this
  unfold nsC at Hw0
  go_enter Tryd.func45, Tryd.ntmps45
  unfold nsC
  go_wp2_with fail
  obtain ⟨W0, hW0, hb4, hb6, hb7, hbW⟩ := Hw0.out
  rw [← hW0]
  have H4 := hidd hb4
  have H6 := hidd hb6
  have H7 := hidd hb7
  have HB := hidd hbW
  clear hb4 hb6 hb7 hbW Hw0 hW0
  go_loopw [15] (fun iv wr => ∃ (i : Nat) (g : Nat → Int), i ≤ 5 ∧ iv = .int .i64 (i : Int) ∧ (∀ j, j < i → g j = G j) ∧ wr.heap[w.heap.size]? = some (.cells (nsC (L : Int) F) 55) ∧ wr.heap[w.heap.size + 1]? = some (.cells (nsC 0 fun _ => 0) 55) ∧ wr.heap[w.heap.size + 2]? = some (.cells (nsC ((L : Int) + 1) g) 55) ∧ Below w.heap.size w wr) (fun iv _ => 5 - (intOf iv).toNat)
  case atStart => exact ⟨0, fun _ => 0, by omega, rfl, fun j h => by omega, H4.out, H6.out, H7.out, HB.out⟩
  case round =>
    obtain ⟨i, g, hi, rfl, hg, hb4, hb6, hb7, hbW⟩ := hrel
    clear H4 H6 H7 HB
    have HG := hidd hg
    have H4 := hidd hb4
    have H6 := hidd hb6
    have H7 := hidd hb7
    have HB := hidd hbW
    clear hg hb4 hb6 hb7 hbW
    by_cases hlt : i < 5
    · have hltz : (i : Int) < 5 := by omega
      obtain ⟨m1, hm1⟩ : ∃ m : Int, min 3 (if i < 4 then F (i + 1) + 1 else 3) = m := ⟨_, rfl⟩
      have hm1b : 0 ≤ m1 ∧ m1 ≤ 3 := by have := HN.out.f (i + 1); split at hm1 <;> omega
      go_upto_if 20 with fail
      go_cut [9] (fun c wy => c = .int .i64 m1 ∧ wy = wr)
      case first =>
        by_cases h4 : i < 4
        · rw [if_pos h4] at hm1
          have hfb := HN.out.f (i + 1)
          have c4 : wr.cell? ⟨w.heap.size, 1 + (i + 1), none⟩ = some (.int .i64 (F (i + 1))) := (blkc H4.out _).trans (nsC_at _ F (i + 1) (by omega))
          generalize F (i + 1) = x at *
          have h5z : (i : Int) + 1 < 5 := by omega
          have HM1 := hidd hm1
          clear hm1 hm1b
          go_wp2_with fail
          go_meet
          case rel => exact ⟨by rw [HM1.out], rfl⟩
        · rw [if_neg h4] at hm1
          have h5z : ¬ (i : Int) + 1 < 5 := by omega
          obtain rfl : 3 = m1 := by omega
          clear hm1 hm1b
          go_wp2_with fail
          go_meet
          case rel => exact ⟨rfl, rfl⟩
      case rest =>
        obtain ⟨rfl, hww⟩ := hcut
        obtain rfl := hww.symm
        clear hww
        obtain ⟨m2, hm2⟩ : ∃ m : Int, min 3 (upF F G i) = m := ⟨_, rfl⟩
        have hm2' : min m1 (if 0 < i then G (i - 1) + 1 else 3) = m2 := by
          rw [← hm2, ← hm1]
          unfold upF
          omega
        have hm2b : 0 ≤ m2 ∧ m2 ≤ 3 := by have := HN.out.g (i - 1); split at hm2' <;> omega
        have HM2 := hidd hm2
        clear hm1 hm2
        go_upto_if 30 with fail
        go_cut [9] (fun c wy => c = .int .i64 m2 ∧ wy = wr)
        case first =>
          by_cases h0 : 0 < i
          · rw [if_pos h0] at hm2'
            have hgb := HN.out.g (i - 1)
            have c7 : wr.cell? ⟨w.heap.size + 2, 1 + (i - 1), none⟩ = some (.int .i64 (G (i - 1))) := by
              have := (blkc H7.out (1 + (i - 1))).trans (nsC_at _ g (i - 1) (by omega))
              rw [HG.out (i - 1) (by omega)] at this
              exact this
            obtain ⟨k, rfl⟩ : ∃ k, i = k + 1 := ⟨i - 1, by omega⟩
            simp only [Nat.add_sub_cancel] at *
            generalize G k = y at *
            have h5z : ((k + 1 : Nat) : Int) > 0 := by omega
            have ek : ((k + 1 : Nat) : Int) - 1 = (k : Int) := by omega
            have hk5 : (k : Int) < 5 := by omega
            have HM1 := hidd hm2'
            clear hm2' hm2b
            go_wp2_with fail
            go_meet
            case rel => exact ⟨by rw [HM1.out], rfl⟩
          · rw [if_neg h0] at hm2'
            have h5z : ¬ (i : Int) > 0 := by omega
            obtain rfl : m1 = m2 := by omega
            clear hm2' hm2b
            go_wp2_with fail
            go_meet
            case rel => exact ⟨rfl, rfl⟩
        case rest =>
          obtain ⟨rfl, hww⟩ := hcut
          obtain rfl := hww.symm
          clear hww hm2' hm1b
          obtain ⟨d0, d1, d2, d3, d4, d5⟩ := six H7.out
          have HS := hidd (size_any ((L : Int) + 1) g i wr (by omega) (by omega) (by omega))
          go_wp2_with fail
          refine HS.out.mono ?_
          rintro e w2 ⟨rfl, hb2⟩
          have K4 := hidd (blko H4.out hb2)
          have K6 := hidd (blko H6.out hb2)
          have K7 := hidd (blko H7.out hb2)
          have KB := hidd (HB.out.trans (hb2.mono HB.out.size))
          have KT := hidd (HT.out.below KB.out)
          have t0 : w2.cell? ⟨pw, 0, none⟩ = some (.slice s a.length ca) := blkc ((KB.out.block pw hpl).trans HBx.out) 0
          clear d0 d1 d2 d3 d4 d5 HS hb2 H4 H6 H7 HB
          obtain ⟨z, hz⟩ : ∃ z : Int, (L : Int) + 1 + (i : Int) - 2 = z := ⟨_, rfl⟩
          rw [hz]
          obtain ⟨bb, hbb⟩ : ∃ bb, (decide (0 ≤ z) && decide (z ≤ (a.length : Int))) = bb := ⟨_, rfl⟩
          have HWi := hidd (within_any z 0 (a.length : Int) w2)
          rw [hbb] at HWi
          have hfi := HN.out.f i
          have c4 : w2.cell? ⟨w.heap.size, 1 + i, none⟩ = some (.int .i64 (F i)) := (blkc K4.out _).trans (nsC_at _ F i hlt)
          have Hz := hidd hz
          clear hz
          go_upto_block 2 with fail
          go_cut [9] (fun c wy => c = .int .i64 (G i) ∧ wy = w2)
          case first =>
            go_wp2_with fail
            refine HWi.out.mono ?_
            rintro e w3 ⟨rfl, hw3⟩
            obtain rfl := hw3.symm
            clear hw3 HWi
            cases bb with
            | false =>
              have HE : Hid (3 = G i) := by
                show _ = _
                have hz := Hz.out
                rw [Bool.and_eq_false_iff, decide_eq_false_iff_not, decide_eq_false_iff_not] at hbb
                exact (HN.out.out i (by omega)).symm
              clear hbb c4 t0
              go_wp2_with fail
              go_meet
              case rel => exact ⟨by rw [← HE.out], rfl⟩
            | true =>
              rw [Bool.and_eq_true, decide_eq_true_eq, decide_eq_true_eq] at hbb
              by_cases hz0 : z = 0
              · have HE : Hid (m2 = G i) := by
                  show _ = _
                  have hz := Hz.out
                  rw [HN.out.zero i hlt (by omega), HM2.out]
                have hzz : ¬ z > 0 := by omega
                clear hbb c4 hz0
                go_wp2_with fail
                go_meet
                case rel => exact ⟨by rw [← HE.out], rfl⟩
              · have hzz : z > 0 := by omega
                obtain ⟨q, hq⟩ : ∃ q : Nat, z - 1 = (q : Int) := ⟨(z - 1).toNat, by omega⟩
                have hqa : q < a.length := by omega
                obtain ⟨gt, off, rfl, hgt, hct⟩ := KT.out.resolve_left (fun h => by rw [h] at hqa; simp at hqa)
                have x0 := hct q hqa
                have hqz : (q : Int) < (a.length : Int) := by omega
                obtain ⟨y, hy⟩ : ∃ y, a.getD q 0 = y := ⟨_, rfl⟩
                rw [hy] at x0
                have hq3 : L + 1 + i = q + 3 := by have := Hz.out; omega
                by_cases hyr : y = r
                · have HE : Hid (min m2 (F i) = G i) := by
                    show _ = _
                    rw [HN.out.same i q hlt hq3 hqa (hy.trans hyr), HM2.out]
                  have hyb : (y == r) = true := by simp [hyr]
                  clear hy hyr hct hq3 hbb hz0
                  go_wp2_with fail
                  go_meet
                  case rel => exact ⟨by rw [← HE.out], rfl⟩
                · have HE : Hid (min m2 (F i + 1) = G i) := by
                    show _ = _
                    rw [HN.out.other i q hlt hq3 hqa (fun e => hyr (hy.symm.trans e)), HM2.out]
                  have hyb : (y == r) = false := by simp [hyr]
                  clear hy hyr hct hq3 hbb hz0
                  go_wp2_with fail
                  go_meet
                  case rel => exact ⟨by rw [← HE.out], rfl⟩
          case rest =>
            obtain ⟨rfl, hww⟩ := hcut
            obtain rfl := hww.symm
            clear hww c4 t0 hbb
            have c7 : w2.cell? ⟨w.heap.size + 2, 1 + i, none⟩ = some (.int .i64 (g i)) := (blkc K7.out _).trans (nsC_at _ g i hlt)
            have f7 : w2.frozen? ⟨w.heap.size + 2, 1 + i, none⟩ = false := blkf K7.out _
            have hn7 := blk_setk K7.out (1 + i) (.int .i64 (G i))
            rw [nsC_set _ g i _ hlt] at hn7
            have N7 := hidd hn7
            have N6 := hidd ((heap_set_other w2 (w.heap.size + 2) (1 + i) (.int .i64 (G i)) (w.heap.size + 1) (by omega)).trans K6.out)
            have N4 := hidd ((heap_set_other w2 (w.heap.size + 2) (1 + i) (.int .i64 (G i)) w.heap.size (by omega)).trans K4.out)
            have NB := hidd (KB.out.setCell (p := ⟨w.heap.size + 2, 1 + i, none⟩) (by show w.heap.size ≤ w.heap.size + 2; omega) (.int .i64 (G i)))
            clear hn7
            go_wp2_with fail
            go_roundw
            case rel =>
              refine ⟨i + 1, _, by omega, by go_num, fun j hj => ?_, N4.out, N6.out, N7.out, NB.out⟩
              by_cases e : j = i
              · subst e; exact putF_same _ _ _
              · rw [putF_other _ _ e]; exact HG.out j (by omega)
            case measure => simp [intOf]; omega
    · have hltz : ¬ (i : Int) < 5 := by omega
      obtain rfl : i = 5 := by omega
      have hE := nsC_congr ((L : Int) + 1) g G (fun j hj => HG.out j hj)
      rw [hE] at H7
      clear hE HG
      obtain ⟨d0, d1, d2, d3, d4, d5⟩ := six H7.out
      obtain ⟨g0, g1, g2, g3, g4, g5⟩ := six H6.out
      have fz : ∀ k, wr.frozen? ⟨w.heap.size + 1, k, none⟩ = false := blkf H6.out
      have z0 := fz 0
      have z1 := fz 1
      have z2 := fz 2
      have z3 := fz 3
      have z4 := fz 4
      have z5 := fz 5
      have HMn := hidd (Tryd.slices_Min_int (w.heap.size + 2) 1 5 5 [G 0, G 1, G 2, G 3, G 4] wr (by omega) (by simp) (by omega) (fun j hj => by
        simp only [List.length_cons, List.length_nil] at hj
        rcases five (by omega : j < 5) with rfl | rfl | rfl | rfl | rfl
        · exact d1
        · exact d2
        · exact d3
        · exact d4
        · exact d5))
      have HA := hidd (min_all G HN.out.g)
      have htk : [G 0, G 1, G 2, G 3, G 4].take 5 = [G 0, G 1, G 2, G 3, G 4] := rfl
      rw [htk] at HMn
      generalize Lib.minOf [G 0, G 1, G 2, G 3, G 4] = mn at *
      clear fz htk
      rw [show w.heap.size + 2 = w.heap.size + 1 + 1 from rfl] at HMn d0 d1 d2 d3 d4 d5
      go_wp2_with fail
      refine HMn.out.mono ?_
      rintro e w3 ⟨rfl, hw3⟩
      obtain rfl := hw3.symm
      clear hw3 HMn
      have hB1 : w.heap.size ≤ w.heap.size + 1 := by omega
      have fin6 : ∀ (r' : Int) (f' : Nat → Int), Below w.heap.size w ((((((wr.setCell ⟨w.heap.size + 1, 0, none⟩ (.int .i64 r')).setCell ⟨w.heap.size + 1, 1, none⟩ (.int .i64 (f' 0))).setCell ⟨w.heap.size + 1, 2, none⟩ (.int .i64 (f' 1))).setCell ⟨w.heap.size + 1, 3, none⟩ (.int .i64 (f' 2))).setCell ⟨w.heap.size + 1, 4, none⟩ (.int .i64 (f' 3))).setCell ⟨w.heap.size + 1, 5, none⟩ (.int .i64 (f' 4))) := fun r' f' =>
        (((((HB.out.setCell (p := ⟨w.heap.size + 1, 0, none⟩) hB1 _).setCell (p := ⟨w.heap.size + 1, 1, none⟩) hB1 _).setCell (p := ⟨w.heap.size + 1, 2, none⟩) hB1 _).setCell (p := ⟨w.heap.size + 1, 3, none⟩) hB1 _).setCell (p := ⟨w.heap.size + 1, 4, none⟩) hB1 _).setCell (p := ⟨w.heap.size + 1, 5, none⟩) hB1 _
      cases hmn : (mn == 3) with
      | true =>
        have hdd : DD := HD.out.2 (HA.out.1 hmn)
        have HDD := hidd hdd
        have HQ := hidd (set6 (r' := 0) (f' := fun _ => 0) H6.out)
        have HQB := hidd (fin6 0 (fun _ => 0))
        clear hdd fin6
        go_wp2_with fail
        generalize (((((wr.setCell { block := w.heap.size + 1, off := 0 } (Value.int IntKind.i64 0)).setCell { block := w.heap.size + 1, off := 1 } (Value.int IntKind.i64 0)).setCell { block := w.heap.size + 1, off := 2 } (Value.int IntKind.i64 0)).setCell { block := w.heap.size + 1, off := 3 } (Value.int IntKind.i64 0)).setCell { block := w.heap.size + 1, off := 4 } (Value.int IntKind.i64 0)).setCell { block := w.heap.size + 1, off := 5 } (Value.int IntKind.i64 0) = wq at *
        obtain ⟨k0, k1, k2, k3, k4, k5⟩ := six HQ.out
        refine bodyPost_ret (v := .agg #[.int .i64 0, .int .i64 0, .int .i64 0, .int .i64 0, .int .i64 0, .int .i64 0]) (by simp [results, Tryd.results45, go_sem, k0, k1, k2, k3, k4, k5]) rfl ?_
        exact ⟨_, rfl, .inl ⟨HDD.out, rfl⟩, HQB.out⟩
      | false =>
        have hdd : ¬ DD := fun h => by rw [HA.out.2 (HD.out.1 h)] at hmn; cases hmn
        have HDD := hidd hdd
        have HQ := hidd (set6 (r' := (L : Int) + 1) (f' := G) H6.out)
        have HQB := hidd (fin6 ((L : Int) + 1) G)
        clear hdd fin6
        go_wp2_with fail
        generalize (((((wr.setCell { block := w.heap.size + 1, off := 0 } (Value.int IntKind.i64 ((L : Int) + 1))).setCell { block := w.heap.size + 1, off := 1 } (Value.int IntKind.i64 (G 0))).setCell { block := w.heap.size + 1, off := 2 } (Value.int IntKind.i64 (G 1))).setCell { block := w.heap.size + 1, off := 3 } (Value.int IntKind.i64 (G 2))).setCell { block := w.heap.size + 1, off := 4 } (Value.int IntKind.i64 (G 3))).setCell { block := w.heap.size + 1, off := 5 } (Value.int IntKind.i64 (G 4)) = wq at *
        obtain ⟨k0, k1, k2, k3, k4, k5⟩ := six HQ.out
        refine bodyPost_ret (v := .agg #[.int .i64 ((L : Int) + 1), .int .i64 (G 0), .int .i64 (G 1), .int .i64 (G 2), .int .i64 (G 3), .int .i64 (G 4)]) (by simp [results, Tryd.results45, go_sem, k0, k1, k2, k3, k4, k5]) rfl ?_
        exact ⟨_, rfl, .inr ⟨HDD.out, HV.out.symm⟩, HQB.out⟩
end Go.Proofs.YtifgcimmlonagaaDoor
