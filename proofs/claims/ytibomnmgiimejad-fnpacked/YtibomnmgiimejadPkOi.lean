import Derived.Test.YtibomnmgiimejadPkOh
namespace Go.Proofs.Ytibomnmgiimejad
open Go Go.RowKit
set_option linter.unusedVariables false

set_option maxHeartbeats 4000000 in
set_option maxRecDepth 100000 in
theorem appendBlock_int (base n b off cap : Nat) (v : Value) (q : List UInt8) (vs : List Nat) (w : World) (hq : q.length = n) (hn : n ≤ 1048576) (hl : vs.length ≤ 128) (hv : nums62 vs) (hb : base ≤ w.heap.size) (hbw : b < base)
    (ho : w.ownsRow base 5 1 v n (Lib.byteCells q)) (hc : NumsAt .i64 w b off vs) :
    Calls Try.prog 66 #[v, .slice (some ⟨b, off, none⟩) vs.length cap] w fun e w' => ∃ v', e = .returned v' ∧ w'.ownsRow base 5 1 v' (q ++ blockL vs).length (Lib.byteCells (q ++ blockL vs)) ∧ Below base w w' ∧ v' ≠ .slice none 0 0 ∧ KeptB w w' v := by
  obtain ⟨i0, hi, hz0, hz1, hz2⟩ := info_parts Try.infoByte
  have Hc := hidd hc
  have Hv := hidd hv
  have HO := hidd ho
  have hvb : Hid (∀ kk, v.ownBlock = some kk → kk < w.heap.size) := fun kk hkk => (World.ownsRow.lt ho kk hkk).2
  clear hc hv ho
  go_enter Try.func66, Try.ntmps66
  go_wp2_with (refine wpB_alloc rfl rfl ?_)
  go_loopw [13] (fun iv wr => ∃ k : Nat, k ≤ vs.length ∧ iv = .int .i64 (k : Int) ∧ Blk wr base w.heap.size (padL (vs.take k)) ∧ wr.ownsRow base 5 1 v n (Lib.byteCells q) ∧ Below base w wr ∧ KeptB w wr v) (fun iv _ => vs.length - (intOf iv).toNat)
  case atStart => exact ⟨0, Nat.zero_le _, rfl, Blk.new hb zeros_length, HO.out.alloc _, (Below.refl _ _).alloc hb _, (KeptB.refl _ _).alloc _⟩
  case round =>
    obtain ⟨k, hk, rfl, hB, hov, hbel, hkb⟩ := hrel
    have HKb := hidd hkb
    clear hkb
    have HB := hidd hB
    have HV := hidd hov
    have HBe := hidd hbel
    clear hB hov hbel
    by_cases hlt : k < vs.length
    · have g0 := Hc.out k hlt
      have g1 := (HBe.out.cell (p := ⟨b, off + k, none⟩) hbw).trans g0
      have hvk := Hv.out (vs.getD k 0) (by rw [List.getD_eq_getElem?_getD, List.getElem?_eq_getElem hlt]; exact List.getElem_mem _)
      have Hset := hidd (padL_take_set vs k hlt hl)
      have c1 := HB.out.cell k (by omega)
      have f1 := HB.out.frozen k
      generalize (padL (vs.take k)).getD k 0 = z at c1
      generalize vs.getD k 0 = x at *
      clear g0
      go_wp2
      go_roundw
      case rel =>
        have B1 := HB.out.set k x
        rw [Hset.out] at B1
        exact ⟨k + 1, by omega, by go_num, B1.1, HV.out.kept B1.2 (Or.inr (fun e => by have := hvb.out _ e; omega)), HBe.out.setCell (p := ⟨w.heap.size, k, none⟩) hb _, HKb.out.grown B1.2 (Or.inr ⟨_, rfl, Nat.le_refl _⟩)⟩
      case measure => simp [intOf]; omega
    · have HK : Hid (vs.take k = vs) := by show _ = _; rw [List.take_of_length_le (by omega)]
      rw [HK.out] at HB
      obtain rfl : k = vs.length := by omega
      clear hlt hk
      have hpl := padL_length vs hl
      have hw62 := widthL_62 vs Hv.out
      have Hwlt := hidd (widthL_lt vs Hv.out)
      have HWd : Hid (∀ W, Calls Try.prog 96 #[.agg (uArr (padL vs))] W fun e w' => e = .returned (.int .i64 ((widthL vs : Nat) : Int)) ∧ Below W.heap.size W w') := by
        intro W
        have := width_any (padL vs) W hpl (padL_mem vs _ (by omega) (fun u hu => Nat.lt_trans (Hv.out u hu) (by omega)))
        rw [widthL_pad] at this
        exact this
      have HLd : Hid (∀ W, Calls Try.prog 97 #[.agg (uArr (padL vs)), .int .i64 ((widthL vs : Nat) : Int)] W fun e w' => e = .returned (.agg (uArr (wordsL (numL (widthL vs) vs)))) ∧ Below W.heap.size W w') := by
        intro W
        have := laid_any (padL vs) (widthL vs) W hpl hw62 (padL_mem vs _ (Nat.pow_pos (by omega)) Hwlt.out)
        rw [numL_pad] at this
        exact this
      have Hbk : Hid (blockL vs = UInt8.ofNat (widthL vs) :: bytesL (sizeL vs.length (widthL vs)) (numL (widthL vs) vs)) := rfl
      have Hbf := hidd (bytesFor_any vs.length (widthL vs))
      have hsl := sizeL_le vs.length (widthL vs) hl hw62
      have hwl := wordsL_length (numL (widthL vs) vs)
      generalize hps : padL vs = ps at *
      clear hps
      generalize numL (widthL vs) vs = N at *
      generalize widthL vs = wd at *
      generalize sizeL vs.length wd = sz at *
      generalize hws : wordsL N = ws at *
      have Hws := hidd hws
      clear hws
      go_wp2_with (refine wpB_load rfl _ rfl base w.heap.size ps rfl HB.out ?_)
      refine (HWd.out _).mono ?_
      rintro e w1 ⟨rfl, hb1⟩
      have HB1 := hidd (HB.out.below hb1)
      have HV1 := hidd (own_below HV.out hb1)
      have HE1 := hidd (HBe.out.trans (hb1.mono (Nat.le_trans hb HBe.out.size)))
      have HK1 := hidd (HKb.out.below hb1)
      clear hb1 HB HV HBe HKb
      go_wp2_with (refine wpB_load rfl _ rfl base w.heap.size ps rfl HB1.out ?_)
      refine (HLd.out _).mono ?_
      rintro e w2 ⟨rfl, hb2⟩
      have HV2 := hidd (own_below HV1.out hb2)
      have HE2 := hidd (HE1.out.trans (hb2.mono (Nat.le_trans hb HE1.out.size)))
      have hvb2 : Hid (∀ kk, v.ownBlock = some kk → kk < w2.heap.size) := fun kk hkk => (World.ownsRow.lt HV2.out kk hkk).2
      have hbz : base ≤ w2.heap.size := Nat.le_trans hb HE2.out.size
      have HK2 := hidd (HK1.out.below hb2)
      have hzk2 : w.heap.size ≤ w2.heap.size := HK2.out.1
      clear hb2 HB1 HV1 HE1 HK1
      go_wp2_with (first | (refine wpB_alloc rfl rfl ?_) | (refine wpB_store rfl _ _ rfl base w2.heap.size zeros ws rfl rfl hwl (Blk.new hbz zeros_length) ?_; intro w3 hB3 hg3; have HB3 := hidd hB3; have HV3 := hidd ((HV2.out.alloc (.cells (uArr zeros) 112)).kept hg3 (Or.inr (fun e => by have := hvb2.out _ e; omega))); have HE3 : Hid (Below base w w3) := (HE2.out.alloc hbz _).grown hg3 (by simp; omega) (fun j e => by cases e; exact hbz); have hz3 : w2.heap.size < w3.heap.size := HB3.out.lt.2; have HK3 := hidd ((HK2.out.alloc (.cells (uArr zeros) 112)).grown hg3 (Or.inr ⟨_, rfl, hzk2⟩)); clear hB3 hg3 HV2 HE2 HK2) | (at_builtin; refine wpList_append_own_at _ rfl _ _ 22 rfl base 5 i0 (.int .u8 0) 1 1 Try.underlying22 hi hz0 hz1 hz2 rfl (by decide) _ _ _ rfl (HV3.out.alloc _) ⟨w3.heap.size, 0, none⟩ 1 1 [.int .u8 (wd : Int)] rfl rfl ?xc1 ?xc2 ?xc3 ?xc4 ?xc5 ?_))
      try case xc1 =>
        intro j u hj
        match j, hj with
        | 0, hj => simp at hj; subst hj; simp [Addr.add]
      case xc2 => first | rfl | (intro u hu; simp at hu; subst hu; rfl)
      case xc3 => unfold maxLen; omega
      case xc4 => omega
      case xc5 => simp; omega
      intro v4 w4 hown4 hgrow4 hne4 hat4
      have R4 : Hid (w4.ownsRow base 5 1 v4 (q ++ [UInt8.ofNat wd]).length (Lib.byteCells (q ++ [UInt8.ofNat wd])) ∧ Below base w w4 ∧ v4 ≠ .slice none 0 0 ∧ Blk w4 base w2.heap.size ws ∧ v4.ownBlock ≠ some w2.heap.size ∧ KeptB w w4 v ∧ OwnB w v v4) := by
        have hbz3 : base ≤ w3.heap.size := by omega
        have hnw : v.ownBlock ≠ some w2.heap.size := fun e => by have := hvb2.out _ e; omega
        refine ⟨?_, (HE3.out.alloc hbz3 _).grown hgrow4 (by simp; omega) (own_block HV3.out), ?_, (HB3.out.alloc _).kept hgrow4 hnw, ?_, (HK3.out.alloc _).grown hgrow4 (Or.inl rfl), ?_⟩
        · rw [Lib.byteCells_append, byte_cell1 wd (by omega), List.length_append, hq]
          exact hown4
        · intro e; first | exact hne4 e | (have := (hne4.1 e).2; omega)
        · rcases hat4 with e | e
          · rw [e]; exact hnw
          · rw [e]; intro e2; have e3 := Option.some.inj e2; (try simp at e3); omega
        · rcases hat4 with e | e
          · exact Or.inl e
          · exact Or.inr ⟨_, e, by have := HK3.out.1; (try simp); omega⟩
      clear hown4 hgrow4 hat4 hne4 HV3 HE3 HB3 HK3
      generalize w2.heap.size = gW at *
      have hszz : sz ≤ 4096 := by omega
      go_wp2_with fail
      refine (Hbf.out _ (by omega) (by omega)).mono ?_
      rintro e w5 ⟨rfl, hw5⟩
      obtain rfl := hw5.symm
      clear hw5
      go_wp2
      go_loopw [0, 37] (fun u iv wr => ∃ k : Nat, k ≤ sz ∧ iv = .int .i64 (k : Int) ∧ wr.ownsRow base 5 1 u (q ++ [UInt8.ofNat wd] ++ (bytesL sz N).take k).length (Lib.byteCells (q ++ [UInt8.ofNat wd] ++ (bytesL sz N).take k)) ∧ Below base w wr ∧ u ≠ .slice none 0 0 ∧ Blk wr base gW ws ∧ u.ownBlock ≠ some gW ∧ KeptB w wr v ∧ OwnB w v u) (fun _ iv _ => sz - (intOf iv).toNat)
      case atStart => exact ⟨0, Nat.zero_le _, rfl, by simpa using R4.out.1, R4.out.2.1, R4.out.2.2.1, R4.out.2.2.2.1, R4.out.2.2.2.2.1, R4.out.2.2.2.2.2.1, R4.out.2.2.2.2.2.2⟩
      case round =>
        obtain ⟨k, hk, rfl, hov, hbe, hnn, hB, hnb, hkb5, hob5⟩ := hrel
        have HK5 := hidd hkb5
        have HOB5 := hidd hob5
        clear hkb5 hob5
        have HO5 := hidd hov
        have HE5 := hidd hbe
        have HB5 := hidd hB
        have hz5 := hbe.size
        have hgw := hB.lt.2
        clear hov hbe hB R4
        by_cases hlt : k < sz
        · obtain ⟨wi, hwi⟩ : ∃ wi, k / 8 = wi := ⟨_, rfl⟩
          obtain ⟨sh, hsh⟩ : ∃ sh, k % 8 * 8 = sh := ⟨_, rfl⟩
          have hwi1 : wi ≤ 124 := by omega
          have hsh1 : sh < 64 := by omega
          have hq1 : (k : Int) / 8 = (wi : Int) := by omega
          have hq2 : (k : Int) % 8 * 8 = (sh : Int) := by omega
          have c1 := HB5.out.cell wi (by omega)
          rw [← Hws.out, wordsL_at N wi (by omega)] at c1
          have Hby := hidd (word_byte N k)
          rw [hwi, hsh] at Hby
          have Hta := hidd (take_bytes sz N k hlt)
          rw [← Hby.out] at Hta
          have hA1 := wordAt_lt N wi
          generalize wordAt N wi = A at *
          obtain ⟨X, hX, HX⟩ : ∃ X : Nat, (A : Int) / 2 ^ sh = (X : Int) ∧ Hid (A / 2 ^ sh = X) := by
            refine ⟨_, ?_, rfl⟩
            rw [Int.natCast_ediv, Int.natCast_pow]; rfl
          have hX64 : X < 18446744073709551616 := by rw [← HX.out]; exact Nat.lt_of_le_of_lt (Nat.div_le_self _ _) (by omega)
          rw [HX.out] at Hta
          obtain ⟨y, hy, Hy⟩ : ∃ y : Nat, (X : Int) % 256 = (y : Int) ∧ Hid (X % 256 = y) := ⟨_, by omega, rfl⟩
          have hy1 : y < 256 := by omega
          have Hyx : Hid (UInt8.ofNat X = UInt8.ofNat y) := by show _ = _; apply UInt8.toNat_inj.1; rw [UInt8.toNat_ofNat', UInt8.toNat_ofNat', ← Hy.out]; omega
          rw [Hyx.out] at Hta
          have hql : (q ++ [UInt8.ofNat wd] ++ (bytesL sz N).take k).length ≤ 1048576 + 2000 := by simp [bytesL_length]; omega
          clear hwi hsh
          obtain ⟨L, hL⟩ : ∃ L, q ++ [UInt8.ofNat wd] ++ (bytesL sz N).take k = L := ⟨_, rfl⟩
          have HL : Hid (q ++ [UInt8.ofNat wd] ++ (bytesL sz N).take (k + 1) = L ++ [UInt8.ofNat y]) := by show _ = _; rw [Hta.out, ← List.append_assoc, hL]
          rw [hL] at HO5 hql
          clear hL Hta
          go_wp2_with (at_builtin; refine wpList_append_own_at _ rfl _ _ 22 rfl base 5 i0 (.int .u8 0) 1 1 Try.underlying22 hi hz0 hz1 hz2 rfl (by decide) _ _ _ rfl (HO5.out.alloc _) ⟨wr.heap.size, 0, none⟩ 1 1 [.int .u8 (y : Int)] rfl rfl ?yc1 ?yc2 ?yc3 ?yc4 ?yc5 ?_)
          try case yc1 =>
            intro j u hj
            match j, hj with
            | 0, hj => simp at hj; subst hj; simp [Addr.add]
          case yc2 => first | rfl | (intro u hu; simp at hu; subst hu; rfl)
          case yc3 => unfold maxLen; omega
          case yc4 => omega
          case yc5 => simp; omega
          intro v6 w6 hown6 hgrow6 hne6 hat6
          have R6 : Hid (w6.ownsRow base 5 1 v6 (q ++ [UInt8.ofNat wd] ++ (bytesL sz N).take (k + 1)).length (Lib.byteCells (q ++ [UInt8.ofNat wd] ++ (bytesL sz N).take (k + 1))) ∧ Below base w w6 ∧ v6 ≠ .slice none 0 0 ∧ Blk w6 base gW ws ∧ v6.ownBlock ≠ some gW ∧ KeptB w w6 v ∧ OwnB w v v6) := by
            refine ⟨?_, (HE5.out.alloc (by omega) _).grown hgrow6 (by simp; omega) (own_block HO5.out), ?_, (HB5.out.alloc _).kept hgrow6 hnb, ?_, (HK5.out.alloc _).grown hgrow6 HOB5.out, ?_⟩
            · rw [HL.out, Lib.byteCells_append, byte_cell1 y hy1, List.length_append]
              exact hown6
            · intro e; first | exact hne6 e | (have := (hne6.1 e).2; omega)
            · rcases hat6 with e | e
              · rw [e]; exact hnb
              · rw [e]; intro e2; have e3 := Option.some.inj e2; (try simp at e3); omega
            · rcases hat6 with e | e
              · unfold OwnB; rw [e]; exact HOB5.out
              · exact Or.inr ⟨_, e, by have := HK5.out.1; (try simp); omega⟩
          clear hown6 hgrow6 hat6 hne6 HO5 HE5 HB5
          go_wp2
          go_roundw
          case rel => exact ⟨k + 1, by omega, by go_num, R6.out.1, R6.out.2.1, R6.out.2.2.1, R6.out.2.2.2.1, R6.out.2.2.2.2.1, R6.out.2.2.2.2.2.1, R6.out.2.2.2.2.2.2⟩
          case measure => simp [intOf]; omega
        · have HK : Hid (q ++ [UInt8.ofNat wd] ++ (bytesL sz N).take k = q ++ blockL vs) := by
            show _ = _
            rw [Hbk.out, List.take_of_length_le (by rw [bytesL_length]; omega)]; simp
          rw [HK.out] at HO5
          have hkz : ¬ (k : Int) < (sz : Int) := by omega
          go_wp2
          go_ret
          refine ⟨_, rfl, ?_, HE5.out, hnn, HK5.out⟩
          have h := HO5.out
          rw [List.length_append, hq] at h
          exact h
end Go.Proofs.Ytibomnmgiimejad
