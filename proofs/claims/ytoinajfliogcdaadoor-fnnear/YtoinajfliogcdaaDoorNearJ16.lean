import Derived.Test.YtoinajfliogcdaaDoorNearJ09
namespace Go.Proofs.YtoinajfliogcdaaDoor
open Go Go.RowKit
set_option linter.unusedVariables false
set_option linter.unusedSimpArgs false
set_option maxRecDepth 100000

set_option maxHeartbeats 4000000 in
theorem follow_any (v : Value) (zs : List Int) (k head : Nat) (s : Near) (r : Int) (w : World) (hl : zs.length ≤ 30) (hk : k ≤ 2) (hh : head ≤ zs.length) (hrd : s.2.2.2 ≤ head) (h0 : s.1 < 2147483648 ∧ s.2.1 < 2147483648 ∧ s.2.2.1 < 2147483648) (hz : ∀ z ∈ zs, 0 ≤ z) (h : HoldI w v zs) :
  Calls Tryd.prog 41 #[.agg #[v, .int .i64 (k : Int), .int .i64 (head : Int)], .agg (nearV s.1 s.2.1 s.2.2.1 s.2.2.2), .int .i64 r] w fun e w' => e = .returned (.agg (nearV (stepI zs.length k head (hitP zs r) s).1 (stepI zs.length k head (hitP zs r) s).2.1 (stepI zs.length k head (hitP zs r) s).2.2.1 (stepI zs.length k head (hitP zs r) s).2.2.2)) ∧ Below w.heap.size w w' := by
 have HH := hidd h
 have HALL : Hid (∀ W, Below w.heap.size w W → Calls Tryd.prog 79 #[.agg #[v, .int .i64 (k : Int), .int .i64 (head : Int)]] W fun e w' => e = .returned (.int .u64 (allN zs.length : Nat)) ∧ Below W.heap.size W w') := fun W hW => all_any v zs k head W hl (h.below hW)
 have HFIT : Hid (∀ W, Below w.heap.size w W → Calls Tryd.prog 80 #[v, .int .i64 r] W fun e w' => e = .returned (.int .u64 (bset (hitP zs r) zs.length : Nat)) ∧ w' = W) := fun W hW => by
  rw [← fit_hit hz]; exact fitting_any v zs r W (by omega) (h.below hW)
 obtain ⟨ad, cap, rfl, hcell⟩ := h
 have hAl := allN_lt hl
 have hfit : bset (hitP zs r) zs.length < 2147483648 := by
  have h1 := bset_lt (hitP zs r) zs.length
  have h2 := Nat.pow_le_pow_right (show 0 < 2 by omega) (show zs.length ≤ 31 by omega)
  omega
 obtain ⟨s0, s1, s2, rd⟩ := s
 dsimp only at hrd h0
 have hz1 : (w.alloc (.cells #[.slice ad zs.length cap, .int .i64 (k : Int), .int .i64 (head : Int)] 68)).heap.size = w.heap.size + 1 := by simp
 have hz2 : ((w.alloc (.cells #[.slice ad zs.length cap, .int .i64 (k : Int), .int .i64 (head : Int)] 68)).alloc (.cells (nearV s0 s1 s2 rd) 72)).heap.size = w.heap.size + 2 := by rw [World.size_alloc, hz1]
 have hz3 : (((w.alloc (.cells #[.slice ad zs.length cap, .int .i64 (k : Int), .int .i64 (head : Int)] 68)).alloc (.cells (nearV s0 s1 s2 rd) 72)).alloc (.cells (nearV 0 0 0 0) 72)).heap.size = w.heap.size + 3 := by rw [World.size_alloc, hz2]
 have hf : (((w.alloc (.cells #[.slice ad zs.length cap, .int .i64 (k : Int), .int .i64 (head : Int)] 68)).alloc (.cells (nearV s0 s1 s2 rd) 72)).alloc (.cells (nearV 0 0 0 0) 72)).heap[w.heap.size]? = some (.cells #[.slice ad zs.length cap, .int .i64 (k : Int), .int .i64 (head : Int)] 68) := by
  rw [Below.heap_alloc _ _ _ (by rw [hz2]; omega), Below.heap_alloc _ _ _ (by rw [hz1]; omega)]; exact heap_alloc_new w _
 have hs : (((w.alloc (.cells #[.slice ad zs.length cap, .int .i64 (k : Int), .int .i64 (head : Int)] 68)).alloc (.cells (nearV s0 s1 s2 rd) 72)).alloc (.cells (nearV 0 0 0 0) 72)).heap[w.heap.size + 1]? = some (.cells (nearV s0 s1 s2 rd) 72) := by
  rw [Below.heap_alloc _ _ _ (by rw [hz2]; omega), ← hz1]; exact heap_alloc_new _ _
 have hr : (((w.alloc (.cells #[.slice ad zs.length cap, .int .i64 (k : Int), .int .i64 (head : Int)] 68)).alloc (.cells (nearV s0 s1 s2 rd) 72)).alloc (.cells (nearV 0 0 0 0) 72)).heap[w.heap.size + 2]? = some (.cells (nearV 0 0 0 0) 72) := by
  rw [← hz2]; exact heap_alloc_new _ _
 have hbel : Below w.heap.size w (((w.alloc (.cells #[.slice ad zs.length cap, .int .i64 (k : Int), .int .i64 (head : Int)] 68)).alloc (.cells (nearV s0 s1 s2 rd) 72)).alloc (.cells (nearV 0 0 0 0) 72)) := (((Below.refl _ _).alloc (Nat.le_refl _) _).alloc (by rw [hz1]; omega) _).alloc (by rw [hz2]; omega) _
 go_enter Tryd.func41, Tryd.ntmps41
 go_upto_region 1 with fail
 clear hz1 hz2
 generalize ((w.alloc (.cells #[.slice ad zs.length cap, .int .i64 (k : Int), .int .i64 (head : Int)] 68)).alloc (.cells (nearV s0 s1 s2 rd) 72)).alloc (.cells (nearV 0 0 0 0) 72) = W0 at *
 have Hf := hidd hf
 have Hs := hidd hs
 have Hr := hidd hr
 have Hb := hidd hbel
 have HZ := hidd hz3
 have f0 := blkc hf 0
 have f1 := blkc hf 1
 have f2 := blkc hf 2
 have t3 := blkc hs 3
 have HC : Hid (rd < head → ∃ g off, ad = some ⟨g, off, none⟩ ∧ W0.cell? ⟨g, off + rd, none⟩ = some (.int .i64 (zs.getD rd 0))) := by
  show _ → _
  intro hlt
  rcases hcell with e | ⟨g, off, h1, h2, h3⟩
  ·rw [e] at hh; simp at hh; omega
  ·exact ⟨g, off, h1, (hbel.cell (p := ⟨g, off + rd, none⟩) h2).trans (h3 rd (by omega))⟩
 clear hf hs hr hbel hz3 hcell hz
 obtain ⟨B, hB⟩ : ∃ B : Bool, (decide (rd < head) && decide (zs.getD rd 0 ≠ r)) = B := ⟨_, rfl⟩
 have HB := hidd hB
 clear hB
 go_cut [26] (fun v wx => v = .bool B ∧ wx = W0)
 case first =>
  by_cases hlt : rd < head
  ·obtain ⟨g, off, rfl, hc⟩ := HC.out hlt
   have hltz : (rd : Int) < (head : Int) := by omega
   have hlz : (rd : Int) < (zs.length : Int) := by omega
   have hln : rd < zs.length := by omega
   have HB2 : Hid ((zs.getD rd 0 != r) = B) := by
    show _ = _
    have := HB.out
    rw [decide_eq_true hlt, Bool.true_and] at this
    rw [← this]
    by_cases e : zs.getD rd 0 = r
    ·rw [e]; simp
    ·rw [bne_iff_ne.2 e, decide_eq_true e]
   generalize zs.getD rd 0 = z at *
   go_wp2_with fail
   go_meet
   case rel => exact ⟨by rw [← HB2.out], rfl⟩
  ·have hltz : ¬ (rd : Int) < (head : Int) := by omega
   have HB2 : Hid (B = false) := by
    show _ = _
    have := HB.out
    rw [decide_eq_false hlt, Bool.false_and] at this
    exact this.symm
   go_wp2_with fail
   go_meet
   case rel => exact ⟨by rw [HB2.out], rfl⟩
 case rest =>
  obtain ⟨rfl, hw0⟩ := hcut
  obtain rfl := hw0.symm
  cases B with
  | true =>
   have HE : Hid (stepI zs.length k head (hitP zs r) (s0, s1, s2, rd) = (0, 0, 0, head)) := by
    have := HB.out
    rw [Bool.and_eq_true, decide_eq_true_iff, decide_eq_true_iff] at this
    show _ = _
    unfold stepI
    rw [if_pos ⟨this.1, by unfold hitP; exact decide_eq_false this.2⟩]
   have hfs := four_set Hr.out (.int .u64 0) (.int .u64 0) (.int .u64 0) (.int .i64 (head : Int))
   have r0 := blkc Hr.out 0
   have r1 := blkc Hr.out 1
   have r2 := blkc Hr.out 2
   have r3 := blkc Hr.out 3
   have fz := fun j => frozen_of_row _ _ j _ _ Hr.out
   have hbf : Below w.heap.size w _ := (((Hb.out.setCell (p := ⟨w.heap.size + 2, 0, none⟩) (by show _ ≤ _; simp) (.int .u64 0)).setCell (p := ⟨w.heap.size + 2, 1, none⟩) (by show _ ≤ _; simp) (.int .u64 0)).setCell (p := ⟨w.heap.size + 2, 2, none⟩) (by show _ ≤ _; simp) (.int .u64 0)).setCell (p := ⟨w.heap.size + 2, 3, none⟩) (by show _ ≤ _; simp) (.int .i64 (head : Int))
   have Hfs := hidd hfs
   have Hbf := hidd hbf
   clear hfs hbf
   go_wp2_with fail
   have q0 := blkc Hfs.out 0
   have q1 := blkc Hfs.out 1
   have q2 := blkc Hfs.out 2
   have q3 := blkc Hfs.out 3
   have Hbf2 := Hbf.out
   clear Hbf Hfs r0 r1 r2 r3 fz
   generalize (((W0.setCell ⟨w.heap.size + 2, 0, none⟩ (.int .u64 0)).setCell ⟨w.heap.size + 2, 1, none⟩ (.int .u64 0)).setCell ⟨w.heap.size + 2, 2, none⟩ (.int .u64 0)).setCell ⟨w.heap.size + 2, 3, none⟩ (.int .i64 (head : Int)) = Wf at *
   have HBf := hidd Hbf2
   clear Hbf2
   refine bodyPost_ret (v := .agg (nearV 0 0 0 head)) (by simp [results, Tryd.results41, go_sem, *]) rfl ?_
   exact ⟨by rw [HE.out], HBf.out⟩
  | false =>
   obtain ⟨M, HMn⟩ : ∃ M : Nat, Hid (min (rd + 1) head = M) := ⟨_, rfl⟩
   have hM30 : M ≤ 30 := by have := HMn.out; omega
   have HE : Hid (stepI zs.length k head (hitP zs r) (s0, s1, s2, rd) = (atV zs.length (bset (hitP zs r) zs.length) (s0, s1, s2, rd) (k + 1) 0, atV zs.length (bset (hitP zs r) zs.length) (s0, s1, s2, rd) (k + 1) 1, atV zs.length (bset (hitP zs r) zs.length) (s0, s1, s2, rd) (k + 1) 2, M)) := by
    show _ = _
    rw [stepI_at hk (fun hh' => by
     have := HB.out
     have h2 := hh'.2
     unfold hitP at h2
     dsimp only at h2
     rw [decide_eq_true hh'.1, Bool.true_and, decide_eq_false_iff_not] at this
     rw [decide_eq_false_iff_not] at h2
     exact this h2), HMn.out]
   go_upto_region 3 with fail
   go_cut [7] (fun v wx => v = .pointer (some ⟨W0.heap.size, 0, none⟩) ∧ wx = W0.alloc (.cells (nearV 0 0 0 M) 72))
   case first =>
    by_cases hmm : rd + 1 ≤ head
    ·have hmz : (rd : Int) + 1 ≤ (head : Int) := by omega
     have HMM : Hid ((M : Int) = (rd : Int) + 1) := by have := HMn.out; show _ = _; omega
     go_upto_region 4 with fail
     go_meet
     case rel => exact ⟨rfl, by show _ = World.alloc _ (.cells #[_, _, _, .int .i64 (M : Int)] _); rw [HMM.out]; rfl⟩
    ·have hmz : ¬ (rd : Int) + 1 ≤ (head : Int) := by omega
     have HMM : Hid ((M : Int) = (head : Int)) := by have := HMn.out; show _ = _; omega
     go_upto_region 4 with fail
     go_meet
     case rel => exact ⟨rfl, by show _ = World.alloc _ (.cells #[_, _, _, .int .i64 (M : Int)] _); rw [HMM.out]; rfl⟩
   case rest =>
    obtain ⟨rfl, hw1⟩ := hcut
    subst hw1
    generalize hw1 : W0.alloc (.cells (nearV 0 0 0 M) 72) = W1 at *
    have HF : Hid (Fo w W1 (.slice ad zs.length cap) k head (s0, s1, s2, rd) W0.heap.size 0 0 0 M) := by
     have hz := HZ.out
     have hb : Below W0.heap.size W0 W1 := by rw [← hw1]; exact (Below.refl _ _).alloc (Nat.le_refl _) _
     refine ⟨blko Hf.out hb, blko Hs.out hb, blko Hr.out hb, ?_, by omega, Hb.out.trans (hb.mono (by omega))⟩
     rw [← hw1]; exact heap_alloc_new W0 _
    generalize W0.heap.size = b3 at *
    have g0 := blkc HF.out.f 0
    have g1 := blkc HF.out.f 1
    clear f0 f1 f2 t3 hw1
    go_wp2_with fail
    refine (HFIT.out _ HF.out.bel).mono ?_
    rintro e w1 ⟨rfl, hw2⟩
    obtain rfl := hw2.symm
    generalize bset (hitP zs r) zs.length = fit at *
    go_wp2_with fail
    go_loopw [44] (fun iv wx => ∃ i : Nat, i ≤ k + 1 ∧ iv = .int .i64 (i : Int) ∧ Fo w wx (.slice ad zs.length cap) k head (s0, s1, s2, rd) b3 (atV zs.length fit (s0, s1, s2, rd) i 0) (atV zs.length fit (s0, s1, s2, rd) i 1) (atV zs.length fit (s0, s1, s2, rd) i 2) M) (fun iv _ => k + 1 - (intOf iv).toNat)
    case atStart => exact ⟨0, by omega, rfl, HF.out⟩
    case round =>
     obtain ⟨i, hi, rfl, hF⟩ := hrel
     have HFr := hidd hF
     clear g0 g1 HF
     by_cases hlt : i < k + 1
     ·have hz : (i : Int) < (k : Int) + 1 := by omega
      have hi3 : (i : Int) < 3 := by omega
      have hi3n : i < 3 := by omega
      obtain ⟨x, hx, hxs, hcase⟩ := nv_read zs.length fit M (s0, s1, s2, rd) i (by omega)
      have c1 := (blkc hF.s i).trans hx
      have hx31 : x < 2147483648 := by rcases hxs with rfl | rfl | rfl <;> omega
      have ha1 := u64_and_nat x fit (by omega) (by omega)
      have y0 := blkc hF.f 0
      have y1 := blkc hF.f 1
      have y2 := blkc hF.f 2
      have HLT := hidd (show x &&& fit ≤ x from Nat.and_le_left)
      have hA31 : x &&& fit < 2147483648 := by have := HLT.out; omega
      have HAf : Hid (((x &&& fit) <<< 1 : Nat) = (x &&& fit) * 2) := by show _ = _; rw [Nat.shiftLeft_eq]
      have HQ0 : Hid (q0N zs.length fit x = ((x &&& fit) <<< 1) &&& allN zs.length) := rfl
      have HQ1 : Hid (∀ y z, q1N zs.length fit x y z = (((x &&& fit) <<< 1) ||| (y ||| ((y ||| z) <<< 1))) &&& allN zs.length) := fun y z => rfl
      have HN := hidd hcase
      clear hcase hx hxs
      generalize hAA : x &&& fit = A at *
      clear hAA
      have han := u64_and_nat (A * 2) (allN zs.length) (by omega) (by omega)
      rw [show ((A * 2 : Nat) : Int) = (A : Int) * 2 by omega] at han
      obtain ⟨x3, hx3⟩ := near_at (atV zs.length fit (s0, s1, s2, rd) i 0) (atV zs.length fit (s0, s1, s2, rd) i 1) (atV zs.length fit (s0, s1, s2, rd) i 2) M i (by omega)
      have HX3 := hidd hx3
      clear hx3
      rcases HN.out with ⟨hi0, hnv⟩ | ⟨j, y, z, hij, hy, hzz, hys, hznv, hnv⟩
      ·have hiz : ¬ (i : Int) > 0 := by omega
       have Hnv : Hid (nvN zs.length fit (s0, s1, s2, rd) i = A * 2 &&& allN zs.length) := by show _ = _; rw [hnv, HQ0.out, HAf.out]
       clear hnv hi0 HN hF
       go_wp2_with fail
       refine (HALL.out _ HFr.out.bel).mono ?_
       rintro e w2 ⟨rfl, hb2⟩
       have hF2 := HFr.out.below hb2
       have HF3 := hidd (hF2.set i (A * 2 &&& allN zs.length) _ _ _ (by have := atV_step zs.length fit i M (s0, s1, s2, rd) (by omega); rw [Hnv.out] at this; exact this))
       have d1 := (blkc hF2.n i).trans HX3.out
       have d2 := frozen_of_row _ _ i _ _ hF2.n
       clear hb2 hF2 c1 y0 y1 y2
       go_wp2_with fail
       go_roundw
       case rel => exact ⟨i + 1, by omega, by go_num, HF3.out⟩
       case measure => simp [intOf]; omega
      ·have hiz : (i : Int) > 0 := by omega
       have hij' : (i : Int) - 1 = (j : Int) := by omega
       have hj3 : (j : Int) < 3 := by omega
       have hj3n : j < 3 := by omega
       have hy31 : y < 2147483648 := by rcases hys with rfl | rfl | rfl <;> omega
       have hz31 : z < 2147483648 := by rw [hznv]; exact nvN_lt hl
       have c2 := (blkc hF.s j).trans hy
       have c3 := (blkc hF.n j).trans hzz
       have hD31 : y ||| z < 2147483648 := Nat.or_lt_two_pow (n := 31) hy31 hz31
       have ho1 := u64_or_nat y z (by omega) (by omega)
       have Hnv : Hid (nvN zs.length fit (s0, s1, s2, rd) i = (A * 2 ||| (y ||| (y ||| z) * 2)) &&& allN zs.length) := by show _ = _; rw [hnv, HQ1.out, HAf.out, Nat.shiftLeft_eq]
       clear hnv hys hy hzz hznv HN hF HQ0 HQ1
       generalize y ||| z = D at *
       have ho2 := u64_or_nat y (D * 2) (by omega) (by omega)
       rw [show ((D * 2 : Nat) : Int) = (D : Int) * 2 by omega] at ho2
       have hE32 : y ||| D * 2 < 4294967296 := Nat.or_lt_two_pow (n := 32) (by omega) (by omega)
       generalize y ||| D * 2 = E at *
       have ho3 := u64_or_nat (A * 2) E (by omega) (by omega)
       rw [show ((A * 2 : Nat) : Int) = (A : Int) * 2 by omega] at ho3
       have hF32 : A * 2 ||| E < 4294967296 := Nat.or_lt_two_pow (n := 32) (by omega) hE32
       generalize A * 2 ||| E = F at *
       have han2 := u64_and_nat F (allN zs.length) (by omega) (by omega)
       clear han hij
       go_wp2_with fail
       go_quiet (fail)
       go_wp2_with fail
       have hbq : Below wr.heap.size wr (wr.drewN nq) := ⟨rfl, rfl, rfl, Nat.le_refl _, fun _ _ => rfl⟩
       refine (HALL.out _ (HFr.out.below hbq).bel).mono ?_
       rintro e w2 ⟨rfl, hb2⟩
       have hF2 := (HFr.out.below hbq).below hb2
       have HF3 := hidd (hF2.set i (F &&& allN zs.length) _ _ _ (by have := atV_step zs.length fit i M (s0, s1, s2, rd) (by omega); rw [Hnv.out] at this; exact this))
       have d1 := (blkc hF2.n i).trans HX3.out
       have d2 := frozen_of_row _ _ i _ _ hF2.n
       clear hb2 hF2 c1 c2 c3 y0 y1 y2 hbq
       go_wp2_with fail
       go_roundw
       case rel => exact ⟨i + 1, by omega, by go_num, HF3.out⟩
       case measure => simp [intOf]; omega
     ·have hz : ¬ (i : Int) < (k : Int) + 1 := by omega
      obtain rfl : i = k + 1 := by omega
      have n0 := blkc hF.n 0
      have n1 := blkc hF.n 1
      have n2 := blkc hF.n 2
      have n3 := blkc hF.n 3
      have r0 := blkc hF.r 0
      have r1 := blkc hF.r 1
      have r2 := blkc hF.r 2
      have r3 := blkc hF.r 3
      have fz := fun j => frozen_of_row _ _ j _ _ hF.r
      have hr4 := hF.r
      have hb4 := hF.bel
      clear hF
      generalize atV zs.length fit (s0, s1, s2, rd) (k + 1) 0 = a0 at *
      generalize atV zs.length fit (s0, s1, s2, rd) (k + 1) 1 = a1 at *
      generalize atV zs.length fit (s0, s1, s2, rd) (k + 1) 2 = a2 at *
      have Hfs := hidd (four_set hr4 (.int .u64 (a0 : Int)) (.int .u64 (a1 : Int)) (.int .u64 (a2 : Int)) (.int .i64 (M : Int)))
      have Hbf := hidd ((((hb4.setCell (p := ⟨w.heap.size + 2, 0, none⟩) (by show _ ≤ _; simp) (.int .u64 (a0 : Int))).setCell (p := ⟨w.heap.size + 2, 1, none⟩) (by show _ ≤ _; simp) (.int .u64 (a1 : Int))).setCell (p := ⟨w.heap.size + 2, 2, none⟩) (by show _ ≤ _; simp) (.int .u64 (a2 : Int))).setCell (p := ⟨w.heap.size + 2, 3, none⟩) (by show _ ≤ _; simp) (.int .i64 (M : Int)))
      clear hr4 hb4 HFr
      go_wp2_with fail
      have q0 := blkc Hfs.out 0
      have q1 := blkc Hfs.out 1
      have q2 := blkc Hfs.out 2
      have q3 := blkc Hfs.out 3
      have Hbf2 := Hbf.out
      clear Hbf Hfs r0 r1 r2 r3 n0 n1 n2 n3 fz
      generalize (((wr.setCell ⟨w.heap.size + 2, 0, none⟩ (.int .u64 (a0 : Int))).setCell ⟨w.heap.size + 2, 1, none⟩ (.int .u64 (a1 : Int))).setCell ⟨w.heap.size + 2, 2, none⟩ (.int .u64 (a2 : Int))).setCell ⟨w.heap.size + 2, 3, none⟩ (.int .i64 (M : Int)) = Wf at *
      have HBf := hidd Hbf2
      clear Hbf2
      refine bodyPost_ret (v := .agg (nearV a0 a1 a2 M)) (by simp [results, Tryd.results41, go_sem, *]) rfl ?_
      exact ⟨by rw [HE.out], HBf.out⟩
end Go.Proofs.YtoinajfliogcdaaDoor

namespace Go.Proofs.YtoinajfliogcdaaDoor
open Go Go.RowKit
set_option linter.unusedVariables false
set_option linter.unusedSimpArgs false
set_option maxRecDepth 100000

theorem near_k (s : Near) (k : Nat) (hk : k ≤ 2) : (nearV s.1 s.2.1 s.2.2.1 s.2.2.2)[k]? = some (.int .u64 ((nearAt s k : Nat) : Int)) := by
 match k, hk with
 | 0, _ => rfl
 | 1, _ => rfl
 | 2, _ => rfl
theorem test_div (x n : Nat) : ((x / 2 ^ n &&& 1 : Nat) == 1) = x.testBit n := by
 rw [Nat.testBit_eq_decide_div_mod_eq, Nat.and_one_is_mod]
 rfl
set_option maxHeartbeats 4000000 in
theorem final_any (v : Value) (zs : List Int) (k head : Nat) (s : Near) (w : World) (hl : zs.length ≤ 30) (hk : k ≤ 2) (h0 : s.1 < 2147483648 ∧ s.2.1 < 2147483648 ∧ s.2.2.1 < 2147483648) (h : HoldI w v zs) :
  Calls Tryd.prog 42 #[.agg #[v, .int .i64 (k : Int), .int .i64 (head : Int)], .agg (nearV s.1 s.2.1 s.2.2.1 s.2.2.2)] w fun e w' => e = .returned (.bool (finI zs.length k head s)) ∧ Below w.heap.size w w' := by
 obtain ⟨ad, cap, rfl, hcell⟩ := h
 have hx := near_k s k hk
 have hX : nearAt s k < 2147483648 := by unfold nearAt; split <;> omega
 have HX : Hid (finI zs.length k head s = (decide (s.2.2.2 = head) && (nearAt s k).testBit zs.length)) := rfl
 generalize nearAt s k = x at *
 obtain ⟨s0, s1, s2, rd⟩ := s
 dsimp only at hx HX
 have hz1 : (w.alloc (.cells #[.slice ad zs.length cap, .int .i64 (k : Int), .int .i64 (head : Int)] 68)).heap.size = w.heap.size + 1 := by simp
 have hf : ((w.alloc (.cells #[.slice ad zs.length cap, .int .i64 (k : Int), .int .i64 (head : Int)] 68)).alloc (.cells (nearV s0 s1 s2 rd) 72)).heap[w.heap.size]? = some (.cells #[.slice ad zs.length cap, .int .i64 (k : Int), .int .i64 (head : Int)] 68) := by
  rw [Below.heap_alloc _ _ _ (by rw [hz1]; omega)]; exact heap_alloc_new w _
 have hs : ((w.alloc (.cells #[.slice ad zs.length cap, .int .i64 (k : Int), .int .i64 (head : Int)] 68)).alloc (.cells (nearV s0 s1 s2 rd) 72)).heap[w.heap.size + 1]? = some (.cells (nearV s0 s1 s2 rd) 72) := by
  rw [← hz1]; exact heap_alloc_new _ _
 have hbel : Below w.heap.size w ((w.alloc (.cells #[.slice ad zs.length cap, .int .i64 (k : Int), .int .i64 (head : Int)] 68)).alloc (.cells (nearV s0 s1 s2 rd) 72)) := ((Below.refl _ _).alloc (Nat.le_refl _) _).alloc (by rw [hz1]; omega) _
 go_enter Tryd.func42, Tryd.ntmps42
 go_upto_region 1 with fail
 clear hz1
 generalize (w.alloc (.cells #[.slice ad zs.length cap, .int .i64 (k : Int), .int .i64 (head : Int)] 68)).alloc (.cells (nearV s0 s1 s2 rd) 72) = W0 at *
 have f0 := blkc hf 0
 have f1 := blkc hf 1
 have f2 := blkc hf 2
 have t3 := blkc hs 3
 have tk := (blkc hs k).trans hx
 have Hb := hidd hbel
 have hk3 : (k : Int) < 3 := by omega
 have hk3n : k < 3 := by omega
 clear hf hs hbel hx hcell
 by_cases hrd : rd = head
 ·subst hrd
  have hbb : ((rd : Int) == (rd : Int)) = true := by simp
  have hdiv : ((x / 2 ^ zs.length : Nat) : Int) = (x : Int) / 2 ^ zs.length := by norm_cast
  have hDx : x / 2 ^ zs.length ≤ x := Nat.div_le_self _ _
  have HT := hidd (test_div x zs.length)
  obtain ⟨D, hD⟩ : ∃ D : Nat, x / 2 ^ zs.length = D := ⟨_, rfl⟩
  rw [hD] at hdiv hDx HT
  clear hD
  have hdiv' := hdiv.symm
  clear hdiv
  have han := u64_and_nat D 1 (by omega) (by omega)
  have HT2 : Hid ((bits .and .u64 (D : Int) 1 == 1) = x.testBit zs.length) := by
   show _ = _
   rw [← HT.out, show bits .and .u64 (D : Int) 1 = ((D &&& 1 : Nat) : Int) from han]
   generalize D &&& 1 = q
   by_cases e : q = 1
   ·subst e; rfl
   ·rw [beq_eq_false_iff_ne.2 e, beq_eq_false_iff_ne.2 (by omega)]
  have HX2 : Hid (finI zs.length k rd (s0, s1, s2, rd) = x.testBit zs.length) := by show _ = _; rw [HX.out, decide_eq_true rfl, Bool.true_and]
  clear han HT
  go_quiet (fail)
  go_wp2_with fail
  go_ret
  exact ⟨by rw [HX2.out, ← HT2.out]; rfl, Hb.out.trans ⟨rfl, rfl, rfl, Nat.le_refl _, fun _ _ => rfl⟩⟩
 ·have hbb : ((rd : Int) == (head : Int)) = false := by rw [beq_eq_false_iff_ne]; omega
  have HX2 : Hid (finI zs.length k head (s0, s1, s2, rd) = false) := by show _ = _; rw [HX.out, decide_eq_false hrd, Bool.false_and]
  clear hrd
  go_quiet (fail)
  go_wp2_with fail
  go_ret
  exact ⟨by rw [HX2.out]; rfl, Hb.out.trans ⟨rfl, rfl, rfl, Nat.le_refl _, fun _ _ => rfl⟩⟩
end Go.Proofs.YtoinajfliogcdaaDoor
