import Derived.Test.YtanolccfmpbjgalDbIK
namespace Go.Proofs.Ytanolccfmpbjgal
open Go Go.RowKit
set_option linter.unusedVariables false
set_option maxRecDepth 100000

theorem specFour_any (n : Nat) (h : n < 4294967296) (w : World) : Calls Try.prog 71 #[.int .i64 (n : Int)] w fun e w' => e = .returned (.slice (some ⟨w.heap.size, 0, none⟩) 4 4) ∧ w' = w.alloc (.cells #[.int .u8 ((n : Int) / 16777216), .int .u8 ((n : Int) / 65536 % 256), .int .u8 ((n : Int) / 256 % 256), .int .u8 ((n : Int) % 256)] 5) := by
  go_enter Try.func71, Try.ntmps71
  go_wp2
  go_ret
  exact ⟨rfl, rfl⟩
set_option maxHeartbeats 8000000 in
theorem specL04Bytes_any (c : Int) (a : Option Addr) (cap : Nat) (S : List St) (w : World) (hfi : Fine S) (hlen : 1 ≤ S.length ∧ S.length ≤ 16384) (hS : HoldS w a S) :
    Calls Try.prog 42 #[.agg #[.int .i64 c, .slice a S.length cap]] w fun e w' => ∃ v, e = .returned v ∧ w'.ownsRow w.heap.size 5 1 v (bytesD S).length (Lib.byteCells (bytesD S)) ∧ Below w.heap.size w w' := by
  obtain ⟨i1, hi1, hy0, hy1, hy2⟩ := info_parts Try.infoByte
  have HFi := hidd hfi
  have HSt := hidd (fine_sts hfi hlen.2)
  have HS := hidd hS
  clear hfi hS
  have HBa : Hid (Below w.heap.size w (w.alloc (.cells #[.int .i64 c, .slice a S.length cap] 29))) := (Below.refl _ _).alloc (Nat.le_refl _) _
  have Hbx := hidd (heap_alloc_new w (.cells #[.int .i64 c, .slice a S.length cap] 29))
  go_enter Try.func42, Try.ntmps42
  go_upto_region 1 with fail
  obtain ⟨w1, hw1⟩ : ∃ w1, w.alloc (.cells #[.int .i64 c, .slice a S.length cap] 29) = w1 := ⟨_, rfl⟩
  rw [hw1] at HBa Hbx
  try rw [hw1]
  clear hw1
  have b1 := blkc Hbx.out 1
  have hzw : w.heap.size < w1.heap.size := (Array.getElem?_eq_some_iff.1 Hbx.out).1
  obtain ⟨gS, oS, rfl, hgS, hcS⟩ := HS.out.resolve_left (fun h => by rw [h] at hlen; simp at hlen)
  have HcS := hidd hcS
  clear hcS
  have HPut := hidd (fun (x : Nat) (hx : x ≤ 1048576) (W : World) => specPut_any x W (by omega))
  have HP0 := hidd (HPut.out S.length (by omega) w1)
  go_wp2_with fail
  refine HP0.out.mono ?_
  rintro e w2 ⟨g2, c2, rfl, hown2, hb2⟩
  have HO2 : Hid (w2.ownsRow w1.heap.size 5 1 (.slice (some ⟨g2, 0, none⟩) (putL S.length).length c2) (preB S 0).length (Lib.byteCells (preB S 0))) := by
    show World.ownsRow _ _ _ _ _ _ _
    rw [preB_zero]; exact hown2
  have HB2 := hidd hb2
  clear hown2 hb2 HP0
  dsimp only
  go_wp2_with fail
  go_loopw [3, 4] (fun v kv wr => ∃ k : Nat, k ≤ S.length ∧ kv = .int .i64 (k : Int) ∧ wr.ownsRow w1.heap.size 5 1 v (preB S k).length (Lib.byteCells (preB S k)) ∧ Below w1.heap.size w1 wr) (fun _ kv _ => S.length - (intOf kv).toNat)
  case atStart => exact ⟨0, Nat.zero_le _, rfl, HO2.out, HB2.out⟩
  case round =>
    obtain ⟨k, hk, rfl, hown, hbel⟩ := hrel
    clear HO2 HB2
    have HOw := hidd hown
    have HBe := hidd hbel
    obtain ⟨av, cv, rfl⟩ := own_form hown
    clear hown hbel
    have hpl := preB_len HFi.out hlen.2 k
    have hwz := HBe.out.size
    have b2 := (HBe.out.cell (p := ⟨w.heap.size, 1, none⟩) hzw).trans b1
    by_cases hlt : k < S.length
    · have hltz : (k : Int) < (S.length : Int) := by omega
      obtain ⟨s0, ak, ck, s1, hAk⟩ := HcS.out k hlt
      have hBw := HBa.out.trans (HBe.out.mono HBa.out.size)
      replace s0 := (hBw.cell (p := ⟨gS, oS + k * 2, none⟩) hgS).trans s0
      replace s1 := (hBw.cell (p := ⟨gS, oS + k * 2 + 1, none⟩) hgS).trans s1
      have HAk := hidd hAk
      have Hall := hidd (midB_all hlt)
      have Hs := hidd (HSt.out (S.getD k st0) (by simp only [List.getD_eq_getElem?_getD, List.getElem?_eq_getElem hlt, Option.getD_some]; exact List.getElem_mem hlt))
      have Hin := hidd ((HFi.out k hlt).2)
      have hAr : arcsAt S k = (S.getD k st0).2 := rfl
      rw [hAr] at Hin
      clear hAk hAr hBw
      generalize S.getD k st0 = s at s0 s1 HAk Hall Hs Hin
      obtain ⟨F, l⟩ := s
      dsimp only at s0 s1 HAk Hall Hs Hin
      have hll : l.length ≤ 256 := Hs.out.1
      obtain ⟨R, hR⟩ : ∃ R, 2 * l.length + (if F then 1 else 0) = R := ⟨_, rfl⟩
      rw [hR] at Hall
      have hR2 : R ≤ 513 := by rw [← hR]; split <;> omega
      have HQ := hidd (heap_alloc_new wr (.cells #[.bool F, .slice ak l.length ck] 61))
      have HBq := hidd ((Below.refl wr.heap.size wr).alloc (Nat.le_refl _) (.cells #[.bool F, .slice ak l.length ck] 61))
      go_upto_region 6 with fail
      obtain ⟨Q, hQ⟩ : ∃ Q, wr.heap.size = Q := ⟨_, rfl⟩
      obtain ⟨wq, hwq⟩ : ∃ wq, wr.alloc (.cells #[.bool F, .slice ak l.length ck] 61) = wq := ⟨_, rfl⟩
      rw [hwq] at HQ HBq
      try rw [hwq]
      clear hwq
      have HOq := hidd (own_below HOw.out HBq.out)
      have HBw : Hid (Below w1.heap.size w1 wq) := HBe.out.trans (HBq.out.mono hwz)
      rw [hQ] at HQ
      try rw [hQ]
      have e0 := blkc HQ.out 0
      have e1 := blkc HQ.out 1
      have hqs := HBw.out.size
      have HK : Hid (∀ (V w6 : World) (v : Value) (base : Nat) (n : Nat) (ys : List Value), V.heap[Q]? = some (.cells #[.bool F, .slice ak l.length ck] 61) → V.ownsRow base 5 1 v n ys → V.grownBy w6 v.ownBlock → w6.heap[Q]? = some (.cells #[.bool F, .slice ak l.length ck] 61)) := fun V w6 v base n ys hV ho hg => box_grown hV (Below.refl _ _) hg (fun e => by
        obtain ⟨_, cur, hc⟩ := own_blk ho e
        exact blk_ne hc hV (by decide) rfl)
      clear s0 s1 b2 HOw hQ HBq
      go_upto_if 29 with fail
      go_cut [6] (fun nv wy => nv = .int .i64 (R : Int) ∧ wy = wq)
      case first =>
        cases F with
        | true =>
          have hR3 : (2 : Int) * (l.length : Int) + 1 = (R : Int) := by rw [← hR]; simp
          go_wp2_with fail
          go_meet
          case rel => exact ⟨by rw [← hR3], rfl⟩
        | false =>
          have hR3 : (2 : Int) * (l.length : Int) = (R : Int) := by rw [← hR]; simp
          go_wp2_with fail
          go_meet
          case rel => exact ⟨by rw [← hR3], rfl⟩
      case rest =>
        obtain ⟨rfl, hwc⟩ := hcut
        have hwc' := hwc.symm
        subst hwc'
        clear hwc hR
        have HP1 := hidd (HPut.out R (by omega) wq)
        obtain ⟨M, hM⟩ : ∃ M, preB S k = M := ⟨_, rfl⟩
        rw [hM] at HOq hpl
        try rw [hM]
        have Hmz : Hid (midB S k l R 0 = M ++ putL R) := by show _ = _; rw [midB_zero, hM]
        clear hM
        have hpo := putL_pos R
        have hp9 := putL_length9 R (by omega)
        obtain ⟨PR, hPR⟩ : ∃ PR, putL R = PR := ⟨_, rfl⟩
        rw [hPR] at HP1 Hmz hpo hp9
        clear hPR
        go_wp2_with fail
        refine HP1.out.mono ?_
        rintro e w3 ⟨gp, cp, rfl, hown3, hb3⟩
        have HBy := hidd (own_bytes hown3 rfl)
        have HO3 := hidd (own_below HOq.out hb3)
        have HB3 := hidd (HBw.out.trans (hb3.mono HBw.out.size))
        have hQ3 := blko HQ.out hb3
        have HQ3 := hidd hQ3
        have hz3 := HB3.out.size
        clear hown3 hb3 hQ3 HP1 HOq e0 e1 HQ
        dsimp only
        go_wp2_with (at_builtin; refine wpList_append_lies _ rfl (.tmp 32) (.tmp 34) 41 rfl w1.heap.size 5 i1 (.int .u8 0) 1 1 Try.underlying41 hi1 hy0 hy1 hy2 rfl (by decide) (.slice av M.length cv) M.length (Lib.byteCells M) rfl HO3.out ⟨gp, 0, none⟩ PR.length cp (Lib.byteCells PR) rfl (by simp [Lib.byteCells]) (bytes_news HBy.out (Below.refl _ _)) (bytes_one _) (by omega) (by unfold maxLen; omega) (by omega) hz3 _ rfl ?_)
        intro g4 cp4 w4 hown4 hgrow4 hat4 hlt4
        have HQ4 := hidd (HK.out _ w4 _ w1.heap.size _ _ HQ3.out HO3.out hgrow4)
        have HB4 : Hid (Below w1.heap.size w1 w4) := HB3.out.grown hgrow4 hz3 (fun b h => (own_blk HO3.out h).1)
        have HO4 : Hid (w4.ownsRow w1.heap.size 5 1 (.slice (some ⟨g4, 0, none⟩) (M.length + PR.length) cp4) (midB S k l R 0).length (Lib.byteCells (midB S k l R 0))) := by
          show World.ownsRow _ _ _ _ _ _ _
          rw [Hmz.out, List.length_append, Lib.byteCells, List.map_append]
          exact hown4
        clear hown4 hgrow4 hat4 hlt4 HO3 HBy HQ3
        go_wp2_with fail
        go_loopw [3, 7] (fun v jv wx => ∃ j : Nat, j ≤ l.length ∧ jv = .int .i64 (j : Int) ∧ wx.ownsRow w1.heap.size 5 1 v (midB S k l R j).length (Lib.byteCells (midB S k l R j)) ∧ Below w1.heap.size w1 wx ∧ wx.heap[Q]? = some (.cells #[.bool F, .slice ak l.length ck] 61)) (fun _ jv _ => l.length - (intOf jv).toNat)
        case atStart => exact ⟨0, Nat.zero_le _, rfl, HO4.out, HB4.out, HQ4.out⟩
        case round =>
          obtain ⟨j, hj, rfl, hown, hbel, hqq⟩ := hrel
          clear HO4 HB4 HQ4
          have HOj := hidd hown
          have HBj := hidd hbel
          have HQj := hidd hqq
          obtain ⟨aj, cj, rfl⟩ := own_form hown
          have e1 := blkc hqq 1
          clear hown hbel hqq
          have hml := midB_len (k := k) HFi.out hlen.2 hll Hs.out.2 (n := R) (by omega) j
          have hjz2 := HBj.out.size
          by_cases hjl : j < l.length
          · have hjlz : (j : Int) < (l.length : Int) := by omega
            obtain ⟨gA, oA, rfl, hgA, hcA⟩ := HAk.out.resolve_left (fun h => by rw [h] at hjl; simp at hjl)
            obtain ⟨p0, p1, p2⟩ := hcA j hjl
            have HPA : Hid (∀ W, Below w1.heap.size w1 W → W.cell? ⟨gA, oA + j * 3, none⟩ = some (.int .i64 (l.getD j ar0).1) ∧ W.cell? ⟨gA, oA + j * 3 + 1, none⟩ = some (.int .i64 (l.getD j ar0).2.1)) := fun W hW => by
              have hB := HBa.out.trans (hW.mono HBa.out.size)
              exact ⟨(hB.cell (p := ⟨gA, oA + j * 3, none⟩) hgA).trans p0, (hB.cell (p := ⟨gA, oA + j * 3 + 1, none⟩) hgA).trans p1⟩
            have Hst := hidd (midB_step (S := S) (k := k) (n := R) hjl)
            have Hx := hidd (Hin.out (l.getD j ar0) (by simp only [List.getD_eq_getElem?_getD, List.getElem?_eq_getElem hjl, Option.getD_some]; exact List.getElem_mem hjl))
            clear hcA p0 p1 p2
            generalize l.getD j ar0 = x at HPA Hst Hx
            obtain ⟨x0, x1, x2⟩ := x
            obtain ⟨q0, q1, q2, q3⟩ := Hx.out
            dsimp only at HPA Hst q0 q1 q2 q3
            obtain ⟨lb, rfl⟩ : ∃ lb : Nat, x0 = (lb : Int) := ⟨x0.toNat, by omega⟩
            obtain ⟨to_, rfl⟩ : ∃ to_ : Nat, x1 = (to_ : Int) := ⟨x1.toNat, by omega⟩
            simp only [Int.toNat_natCast] at Hst q3
            have hlb : lb ≤ 255 := by omega
            have hwl : IntKind.u8.wrap (lb : Int) = (lb : Int) := u8_in_b (by omega)
            have hbn : (UInt8.ofNat lb).toNat = lb := by rw [UInt8.toNat_ofNat']; omega
            obtain ⟨N, hN⟩ : ∃ N, midB S k l R j = N := ⟨_, rfl⟩
            rw [hN] at HOj Hst hml
            try rw [hN]
            clear hN
            have p0 := (HPA.out _ HBj.out).1
            go_upto_region 14 with (at_builtin; refine wpList_append_lies _ rfl (.tmp 43) (.tmp 51) 41 rfl w1.heap.size 5 i1 (.int .u8 0) 1 1 Try.underlying41 hi1 hy0 hy1 hy2 rfl (by decide) (.slice aj N.length cj) N.length (Lib.byteCells N) rfl (HOj.out.alloc _) ⟨wr.heap.size, 0, none⟩ 1 1 [.int .u8 (lb : Int)] rfl rfl (World.news_of_block (heap_alloc_new wr _)) (by intro u' hu'; simp at hu'; subst hu'; rfl) (by decide) (by unfold maxLen; omega) (by omega) (by simp; omega) _ rfl ?_)
            intro g5 cp5 w5 hown5 hgrow5 hat5 hlt5
            have hBv : Below wr.heap.size wr (wr.alloc (.cells #[.int .u8 (lb : Int)] 5)) := (Below.refl _ _).alloc (Nat.le_refl _) _
            have HQ5 := hidd (HK.out _ w5 _ w1.heap.size _ _ (blko HQj.out hBv) (own_below HOj.out hBv) hgrow5)
            have HB5 : Hid (Below w1.heap.size w1 w5) := (HBj.out.trans (hBv.mono hjz2)).grown hgrow5 (by have := hBv.size; omega) (fun b h => (own_blk HOj.out h).1)
            have HO5 : Hid (w5.ownsRow w1.heap.size 5 1 (.slice (some ⟨g5, 0, none⟩) (N.length + 1) cp5) (N.length + 1) (Lib.byteCells (N ++ [UInt8.ofNat lb]))) := by
              show World.ownsRow _ _ _ _ _ _ _
              rw [byteCells_snoc, hbn]
              exact hown5
            have p1 := (HPA.out _ HB5.out).2
            have e5 := blkc HQ5.out 1
            have HP1 := hidd (HPut.out to_ (by omega) w5)
            have hpo5 := putL_pos to_
            have hp95 := putL_length9 to_ (by omega)
            obtain ⟨PT, hPT⟩ : ∃ PT, putL to_ = PT := ⟨_, rfl⟩
            rw [hPT] at HP1 Hst hpo5 hp95
            clear hPT hown5 hgrow5 hat5 hlt5 hBv HOj HBj HQj p0 e1
            go_wp2_with fail
            refine HP1.out.mono ?_
            rintro e w6 ⟨gq, cq, rfl, hown6, hb6⟩
            have HBy := hidd (own_bytes hown6 rfl)
            have HO6 := hidd (own_below HO5.out hb6)
            have HB6 := hidd (HB5.out.trans (hb6.mono HB5.out.size))
            have HQ6 := hidd (blko HQ5.out hb6)
            have hz6 := HB6.out.size
            clear hown6 hb6 HP1 HO5 e5 p1 HQ5 HB5
            dsimp only
            go_wp2_with (at_builtin; refine wpList_append_lies _ rfl (.tmp 53) (.tmp 60) 41 rfl w1.heap.size 5 i1 (.int .u8 0) 1 1 Try.underlying41 hi1 hy0 hy1 hy2 rfl (by decide) (.slice (some ⟨g5, 0, none⟩) (N.length + 1) cp5) (N.length + 1) (Lib.byteCells (N ++ [UInt8.ofNat lb])) rfl HO6.out ⟨gq, 0, none⟩ PT.length cq (Lib.byteCells PT) rfl (by simp [Lib.byteCells]) (bytes_news HBy.out (Below.refl _ _)) (bytes_one _) (by omega) (by unfold maxLen; omega) (by omega) hz6 _ rfl ?_)
            intro g7 cp7 w7 hown7 hgrow7 hat7 hlt7
            have HQ7 := hidd (HK.out _ w7 _ w1.heap.size _ _ HQ6.out HO6.out hgrow7)
            have HB7 : Hid (Below w1.heap.size w1 w7) := HB6.out.grown hgrow7 hz6 (fun b h => (own_blk HO6.out h).1)
            have HO7 : Hid (w7.ownsRow w1.heap.size 5 1 (.slice (some ⟨g7, 0, none⟩) (N.length + 1 + PT.length) cp7) (midB S k l R (j + 1)).length (Lib.byteCells (midB S k l R (j + 1)))) := by
              show World.ownsRow _ _ _ _ _ _ _
              rw [Hst.out, List.length_append, List.length_append, List.length_singleton]
              have e9 : Lib.byteCells (N ++ [UInt8.ofNat lb] ++ PT) = Lib.byteCells (N ++ [UInt8.ofNat lb]) ++ Lib.byteCells PT := by simp [Lib.byteCells]
              rw [e9]
              exact hown7
            clear hown7 hgrow7 hat7 hlt7 HO6 HBy HQ6
            go_wp2_with fail
            go_roundw
            case rel => exact ⟨j + 1, by omega, by go_num, HO7.out, HB7.out, HQ7.out⟩
            case measure => simp [intOf]; omega
          · have hjlz : ¬ (j : Int) < (l.length : Int) := by omega
            obtain rfl : j = l.length := by omega
            go_wp2_with fail
            go_roundw
            case rel => exact ⟨k + 1, by omega, by go_num, by rw [← Hall.out]; exact HOj.out, HBj.out⟩
            case measure => simp [intOf]; omega
    · have hltz : ¬ (k : Int) < (S.length : Int) := by omega
      obtain rfl : k = S.length := by omega
      rw [preB_all] at HOw hpl
      try rw [preB_all]
      have hpos : 0 < (dB S).length := by
        have := putL_pos S.length
        simp only [dB, List.length_append]; omega
      rcases own_cases HOw.out with ⟨_, h0⟩ | ⟨g, c', e1, hgb, hg⟩
      · omega
      simp only [Value.slice.injEq, true_and] at e1
      obtain ⟨rfl, rfl⟩ := e1
      have HSu := hidd (specSum_any g 0 cv (dB S) wr (own_bytes HOw.out rfl))
      have hsl := sumL_lt (dB S)
      have HBD : Hid (bytesD S = dB S ++ four (sumL (dB S))) := rfl
      obtain ⟨n, hn2⟩ : ∃ n, sumL (dB S) = n := ⟨_, rfl⟩
      rw [hn2] at HSu hsl HBD
      clear hn2
      obtain ⟨M, hM⟩ : ∃ M, dB S = M := ⟨_, rfl⟩
      rw [hM] at HOw hpl hpos HSu HBD
      try rw [hM]
      clear hM
      go_wp2_with (first
        | (go_at_call 72; refine HSu.out.mono ?_; rintro e w' ⟨rfl, hw⟩; have hw2 := hw.symm; subst hw2; clear hw)
        | (go_at_call 71; refine (specFour_any n hsl _).mono ?_; rintro e w' ⟨rfl, rfl⟩)
        | (at_builtin; refine wpList_append_lies _ rfl (.tmp 62) (.tmp 65) 41 rfl w1.heap.size 5 i1 (.int .u8 0) 1 1 Try.underlying41 hi1 hy0 hy1 hy2 rfl (by decide) (.slice (some ⟨g, 0, none⟩) M.length cv) M.length (Lib.byteCells M) rfl (HOw.out.alloc _) ⟨wr.heap.size, 0, none⟩ 4 4 [.int .u8 ((n : Int) / 16777216), .int .u8 ((n : Int) / 65536 % 256), .int .u8 ((n : Int) / 256 % 256), .int .u8 ((n : Int) % 256)] rfl rfl (World.news_of_block (heap_alloc_new wr _)) (by intro u' hu'; simp at hu'; rcases hu' with rfl | rfl | rfl | rfl <;> rfl) (by decide) (by unfold maxLen; omega) (by omega) (by simp; omega) _ rfl ?_))
      intro g6 cp6 w6 hown6 hgrow6 hat6 hlt6
      have HB6 : Hid (Below w.heap.size w w6) := ((HBa.out.trans (HBe.out.mono HBa.out.size)).alloc (by omega) _).grown hgrow6 (by simp; omega) (fun b h => by have := (own_blk HOw.out h).1; omega)
      have HO6 : Hid (w6.ownsRow w1.heap.size 5 1 (.slice (some ⟨g6, 0, none⟩) (M.length + 4) cp6) (M.length + 4) (Lib.byteCells (M ++ four n))) := by
        show World.ownsRow _ _ _ _ _ _ _
        rw [four_cells n hsl]
        exact hown6
      clear hown6 hgrow6 hat6 hlt6
      go_wp2_with fail
      go_ret
      refine ⟨_, rfl, ?_, HB6.out⟩
      rw [HBD.out, List.length_append]
      exact own_mono HO6.out (by omega)
set_option maxHeartbeats 4000000 in
theorem specBytes_any (hmake : ∀ (base bm bb : Nat) (aT : Option Addr) (cT : Nat) (ts : List Tx) (f : Nat), MakeC base bm bb aT cT ts (f + 1)) : BytesC 20 := by
  intro c a cap S w hn hA hS
  have HAll := hidd (fun W (hW : Below w.heap.size w W) => all_any hmake c a cap S W hn hA (hS.below hW))
  have HS := hidd hS
  clear hmake hA hS
  have HBa : Hid (Below w.heap.size w (w.alloc (.cells #[.int .i64 c, .slice a S.length cap] 29))) := (Below.refl _ _).alloc (Nat.le_refl _) _
  have Hbx := hidd (heap_alloc_new w (.cells #[.int .i64 c, .slice a S.length cap] 29))
  go_enter Try.func20, Try.ntmps20
  go_wp2_with fail
  refine (HAll.out _ HBa.out).mono ?_
  rintro e w1 ⟨v, rfl, hb1, hown⟩
  have HB1 := hidd (HBa.out.trans (hb1.mono HBa.out.size))
  have Hbx1 := hidd (blko Hbx.out hb1)
  clear hb1 hown Hbx
  dsimp only
  rcases okD_cases c S with ⟨hok, ts, hts⟩ | ⟨hok, hno⟩
  · rw [hok]
    have HO : Hid (bytesO S (dictT c S) = (bytesD S, 0)) := by show _ = _; rw [dictT_some hts]; rfl
    have HL := hidd (specL04Bytes_any c a cap S w1 hts.small hts.len (HS.out.below HB1.out))
    clear hok hts
    have b0 := blkc Hbx1.out 0
    have b1 := blkc Hbx1.out 1
    go_wp2_with fail
    refine HL.out.mono ?_
    rintro e w2 ⟨v2, rfl, hown2, hb2⟩
    have HB2 := hidd (HB1.out.trans (hb2.mono HB1.out.size))
    have HO2 := hidd hown2
    clear hown2 hb2 HL
    dsimp only
    go_wp2_with fail
    go_ret2
    exact ⟨_, by rw [HO.out]; rfl, by rw [HO.out]; exact own_mono HO2.out HB1.out.size, HB2.out⟩
  · rw [hok]
    have HO : Hid (bytesO S (dictT c S) = ([], 1)) := by show _ = _; rw [dictT_none hno]; rfl
    clear hok hno
    have hz := HB1.out.size
    go_wp2_with fail
    go_ret2
    exact ⟨_, by rw [HO.out]; rfl, by rw [HO.out]; exact own_mono (own_empty w1 5) hz, HB1.out.alloc hz _⟩
end Go.Proofs.Ytanolccfmpbjgal
