import Derived.Test.YtibomnmgiimejadPkS
import Derived.Test.YtibomnmgiimejadPkN
import Derived.Test.YtibomnmgiimejadPkB0
import Derived.Deep.RegionWith
import Derived.Deep.CutRange
namespace Go.Proofs.Ytibomnmgiimejad
open Go Go.RowKit
set_option linter.unusedVariables false

theorem packL_len_le (vs : List Nat) (m : Nat) (h : vs.length ≤ m) (hv : nums62 vs) : (packGo vs).length ≤ 9 * m + 1 * m := by
  induction hn : vs.length using Nat.strongRecOn generalizing vs m with
  | _ n ih =>
    by_cases h0 : vs.length = 0
    · have : vs = [] := List.length_eq_zero_iff.1 h0
      subst this; rw [packGo_nil]; simp
    · rw [packGo_step vs h0, List.length_append, blockL_length]
      have hb : nums62 (vs.take 128) := fun v hv' => hv v (List.mem_of_mem_take hv')
      have hw := widthL_62 (vs.take 128) hb
      have hs : sizeL (vs.take 128).length (widthL (vs.take 128)) ≤ 8 * (vs.take 128).length := by
        unfold sizeL
        have : (vs.take 128).length * widthL (vs.take 128) ≤ (vs.take 128).length * 62 := Nat.mul_le_mul_left _ hw
        have : 0 < (vs.take 128).length := by rw [List.length_take]; omega
        omega
      have hd := ih (vs.drop 128).length (by rw [List.length_drop]; omega) (vs.drop 128) (vs.length - (vs.take 128).length) (by rw [List.length_drop, List.length_take]; omega) (fun v hv' => hv v (List.mem_of_mem_drop hv')) rfl
      have : 0 < (vs.take 128).length := by rw [List.length_take]; omega
      have : (vs.take 128).length ≤ vs.length := by rw [List.length_take]; omega
      omega
theorem packL_len (vs : List Nat) (h : vs.length ≤ 4096) (hv : nums62 vs) : (packL vs).length ≤ 50000 := by
  have h1 := packL_len_le vs 4096 h hv
  have h2 := putL_length9 vs.length (by omega)
  rw [packL, List.length_append]
  omega

theorem byteCells_set (l : List UInt8) (k x : Nat) (h : x < 256) : (Lib.byteCells l).set k (.int .u8 (x : Int)) = Lib.byteCells (l.set k (UInt8.ofNat x)) := by
  have e : ((UInt8.ofNat x).toNat : Int) = (x : Int) := by rw [UInt8.toNat_ofNat']; omega
  simp only [Lib.byteCells, List.map_set, e]
set_option maxRecDepth 100000 in
set_option maxHeartbeats 4000000 in
set_option maxRecDepth 100000 in
theorem specPack_any (b off cap : Nat) (vs : List Nat) (w : World) (hl : vs.length ≤ 4096) (hcap : vs.length ≤ cap) (hv : nums62 vs) (hc : NumsAt .i64 w b off vs) :
    Calls Try.prog 34 #[.slice (some ⟨b, off, none⟩) vs.length cap] w fun e w' => ∃ g cap', e = .returned (.slice (some ⟨g, 0, none⟩) (packL vs).length cap') ∧ w'.ownsRow w.heap.size 5 1 (.slice (some ⟨g, 0, none⟩) (packL vs).length cap') (packL vs).length (Lib.byteCells (packL vs)) ∧ Below w.heap.size w w' := by
  obtain ⟨i0, hi, hz0, hz1, hz2⟩ := info_parts Try.infoByte
  have Hc := hidd hc
  have Hv := hidd hv
  have HPl := hidd (packL_len vs hl hv)
  clear hc hv
  go_enter Try.func34, Try.ntmps34
  go_wp2_with fail
  refine (specPut_any vs.length _ (by omega)).mono ?_
  rintro e w1 ⟨g1, cap1, rfl, ho1, hb1⟩
  have HO1 := hidd ho1
  have HB1 := hidd hb1
  have hpl := putL_length9 vs.length (by omega)
  clear ho1 hb1
  go_wp2
  go_loopw [3, 4] (fun v i wr => ∃ (at_ : Nat) (q : List UInt8), i = .int .i64 (at_ : Int) ∧ at_ ≤ 4224 ∧ q ++ packGo (vs.drop at_) = packL vs ∧ wr.ownsRow w.heap.size 5 1 v q.length (Lib.byteCells q) ∧ v ≠ .slice none 0 0 ∧ Below w.heap.size w wr) (fun _ i _ => 8192 - (intOf i).toNat)
  case atStart => exact ⟨0, putL vs.length, rfl, by omega, rfl, HO1.out, by simp, HB1.out⟩
  case round =>
    obtain ⟨at_, q, rfl, hat, hq, hown, hnn, hbel⟩ := hrel
    have HO := hidd hown
    have HB := hidd hbel
    have Hq := hidd hq
    have hqle : q.length ≤ 50000 := by have := congrArg List.length hq; rw [List.length_append] at this; have := HPl.out; omega
    have hzw := hbel.size
    clear hown hbel hq HO1 HB1
    by_cases hlt : at_ < vs.length
    · have hltz : (at_ : Int) < (vs.length : Int) := by omega
      obtain ⟨n, hn⟩ : ∃ n, min 128 (vs.length - at_) = n := ⟨_, rfl⟩
      have hnb : Hid ((at_ + 128 ≤ vs.length → n = 128) ∧ (¬ at_ + 128 ≤ vs.length → n = vs.length - at_)) := by show _ ∧ _; omega
      have hn1 : 1 ≤ n ∧ n ≤ 128 ∧ at_ + n ≤ vs.length := by omega
      have hmin : min ((at_ : Int) + 128) (vs.length : Int) = ((at_ + n : Nat) : Int) := by omega
      have hcne : ¬ cap = at_ := by omega
      have Hblk : Hid (NumsAt .i64 w b (off + at_) ((vs.drop at_).take 128)) := (Hc.out.drop at_).take 128
      have hbl : ((vs.drop at_).take 128).length = n := by rw [List.length_take, List.length_drop]; omega
      have Hb62 : Hid (nums62 ((vs.drop at_).take 128)) := fun v hv' => Hv.out v (List.mem_of_mem_drop (List.mem_of_mem_take hv'))
      have Hstep := hidd (packGo_step (vs.drop at_) (by rw [List.length_drop]; omega))
      rw [List.drop_drop] at Hstep
      generalize (vs.drop at_).take 128 = blk at *
      obtain ⟨hn2, hn3, hn4⟩ := hn1
      have Hbl := hidd hbl
      clear hn hbl
      have hbw : b < w.heap.size := cell_lt (Hc.out at_ hlt)
      have HWd : Hid (∀ W, NumsAt .i64 W b (off + at_) blk → Calls Try.prog 69 #[.slice (some ⟨b, off + at_, none⟩) n (cap - at_)] W fun e w' => e = .returned (.int .i64 ((widthL blk : Nat) : Int)) ∧ w' = W) := by
        intro W hW
        have := specWidth_any b (off + at_) (cap - at_) blk W (by have := Hbl.out; omega) Hb62.out hW
        rw [Hbl.out] at this
        exact this
      clear hmin
      go_upto_region 5 with fail
      go_cut [5] from 14 to 81 (fun c wx => c = .slice (some ⟨b, off + at_, none⟩) n (cap - at_) ∧ wx = wr)
      case first =>
        by_cases hbig : at_ + 128 ≤ vs.length
        · have hbz : (at_ : Int) + 128 ≤ (vs.length : Int) := by omega
          go_wp2_with fail
          go_meet
          refine ⟨?_, rfl⟩
          rw [Nat.add_sub_cancel_left, ← hnb.out.1 hbig]
        · have hbz : ¬ (at_ : Int) + 128 ≤ (vs.length : Int) := by omega
          go_wp2_with fail
          go_meet
          refine ⟨?_, rfl⟩
          rw [show vs.length - at_ = n from by have := hnb.out.2 hbig; omega]
      obtain ⟨rfl, hwc⟩ := hcut
      obtain rfl := hwc.symm
      clear hwc hnb
      go_wp2_with fail
      refine (HWd.out _ (Hblk.out.lower HB.out hbw)).mono ?_
      rintro e w' ⟨rfl, hw'⟩
      obtain rfl := hw'.symm
      clear hw'
      have hw62 := widthL_62 blk Hb62.out
      have Hwlt := hidd (widthL_lt blk Hb62.out)
      have Hbk : Hid (blockL blk = UInt8.ofNat (widthL blk) :: bytesL (sizeL n (widthL blk)) (numL (widthL blk) blk)) := by show _ = _; rw [blockL, Hbl.out]
      have Hnlt := hidd (numL_lt (widthL blk) blk Hwlt.out)
      have Hnb : Hid (∀ i k, i < n → k < widthL blk → blk.getD i 0 / 2 ^ k % 2 = numL (widthL blk) blk / 2 ^ (i * widthL blk + k) % 2) := fun i k h1 h2 => num_bit _ blk i k Hwlt.out (by rw [Hbl.out]; exact h1) h2
      have Hsr : Hid (∀ i k, i < n → k < widthL blk → (i * widthL blk + k) / 8 < sizeL n (widthL blk)) := fun i k h1 h2 => size_room n (widthL blk) i k h1 h2
      have Hsz : Hid (sizeL n (widthL blk) = (n * widthL blk + 7) / 8) := rfl
      rw [Hbl.out] at Hnlt
      generalize numL (widthL blk) blk = N at *
      generalize widthL blk = wd at *
      obtain ⟨P, hP⟩ : ∃ P, n * wd = P := ⟨_, rfl⟩
      have hP1 : P ≤ 7936 := by rw [← hP]; exact Nat.le_trans (Nat.mul_le_mul hn3 hw62) (by omega)
      have hPz : (n : Int) * (wd : Int) = (P : Int) := by rw [← hP]; simp
      rw [hP] at Hsz
      have Hnlt2 : Hid (N < 2 ^ P) := by show _ < _; rw [← hP, Nat.mul_comm]; exact Hnlt.out
      have HP := hidd hP
      clear hP
      generalize sizeL n wd = sz at *
      have hsz1 : sz ≤ 993 := by have := Hsz.out; omega
      have hszz : ((P : Int) + 7) / 8 = (sz : Int) := by have := Hsz.out; omega
      go_wp2_with (first | (at_builtin; refine wpList_append_own_at _ rfl _ _ 22 rfl w.heap.size 5 i0 (.int .u8 0) 1 1 Try.underlying22 hi hz0 hz1 hz2 rfl (by decide) _ _ _ rfl (HO.out.alloc _) ⟨wr.heap.size, 0, none⟩ 1 1 [.int .u8 (wd : Int)] rfl rfl ?xc1 ?xc2 ?xc3 ?xc4 ?xc5 ?_))
      try case xc1 =>
        intro j u hj
        match j, hj with
        | 0, hj => simp at hj; subst hj; simp [Addr.add]
      case xc2 => first | rfl | (intro u hu; simp at hu; subst hu; rfl)
      case xc3 => unfold maxLen; omega
      case xc4 => omega
      case xc5 => simp; omega
      intro v2 w2 hown2 hgrow2 hne2 hat2
      have R2 : Hid (w2.ownsRow w.heap.size 5 1 v2 (q ++ [UInt8.ofNat wd]).length (Lib.byteCells (q ++ [UInt8.ofNat wd])) ∧ Below w.heap.size w w2 ∧ v2 ≠ .slice none 0 0) := by
        refine ⟨?_, (HB.out.alloc hzw _).grown hgrow2 (by simp; omega) (own_block HO.out), ?_⟩
        · rw [Lib.byteCells_append, byte_cell1 wd (by omega), List.length_append]
          exact hown2
        · intro e; have := (hne2 e); first | exact this | (have := (hne2.1 e).2; omega)
      clear hown2 hgrow2 hat2 HO HB
      have hz2w := R2.out.2.1.size
      go_wp2_with (at_make; (refine wpList_make_full _ rfl _ _ 22 rfl w.heap.size 5 i0 (.int .u8 0) 1 Try.underlying22 hi hz0 hz1 _ _ _ _ sz rfl rfl (by omega) (by omega) ?xb2 ?xb3 hz2w ?_))
      case xb2 => rw [hz2]; omega
      case xb3 => unfold maxLen; omega
      intro w3 hown3 hgrow3
      have hgB : Hid (∀ kk, v2.ownBlock = some kk → kk < w2.heap.size) := fun kk hkk => (World.ownsRow.lt R2.out.1 kk hkk).2
      have RB : Hid (w3.ownsRow w.heap.size 5 1 (.slice (some ⟨w2.heap.size, 0, none⟩) sz sz) sz (Lib.byteCells (bytesL sz (N % 2 ^ (0 * wd)))) ∧ w3.ownsRow w.heap.size 5 1 v2 (q ++ [UInt8.ofNat wd]).length (Lib.byteCells (q ++ [UInt8.ofNat wd])) ∧ Below w.heap.size w w3) := by
        refine ⟨?_, R2.out.1.kept hgrow3 (by cases hv : v2.ownBlock <;> simp), R2.out.2.1.grown hgrow3 hz2w (fun kk h => by cases h)⟩
        have e0 : (madeCells #[Value.int .u8 0] sz).toList = List.replicate sz (Value.int .u8 0) := toList_madeCells_one _ _
        rw [e0] at hown3
        rw [Nat.zero_mul, Nat.pow_zero, Nat.mod_one, bytesL_zero]
        have e1 : Lib.byteCells (List.replicate sz 0) = List.replicate sz (Value.int .u8 0) := by simp [Lib.byteCells]
        rw [e1]
        exact hown3
      have hnv2 : Hid (v2 ≠ .slice none 0 0) := R2.out.2.2
      clear hown3 hgrow3 R2
      generalize w2.heap.size = gB at *
      go_wp2
      go_loopw [8] (fun iv wx => ∃ i : Nat, i ≤ n ∧ iv = .int .i64 (i : Int) ∧ wx.ownsRow w.heap.size 5 1 (.slice (some ⟨gB, 0, none⟩) sz sz) sz (Lib.byteCells (bytesL sz (N % 2 ^ (i * wd)))) ∧ wx.ownsRow w.heap.size 5 1 v2 (q ++ [UInt8.ofNat wd]).length (Lib.byteCells (q ++ [UInt8.ofNat wd])) ∧ Below w.heap.size w wx) (fun iv _ => n - (intOf iv).toNat)
      case atStart => exact ⟨0, by omega, rfl, RB.out.1, RB.out.2.1, RB.out.2.2⟩
      case round =>
        obtain ⟨i, hile, rfl, hob, hov, hbx⟩ := hrel
        have HOb := hidd hob
        have HOv := hidd hov
        have HBx := hidd hbx
        have hzx := hbx.size
        clear hob hov hbx RB
        by_cases hilt : i < n
        · have hiltz : (i : Int) < (n : Int) := by omega
          obtain ⟨X, hX⟩ : ∃ X, i * wd = X := ⟨_, rfl⟩
          have hX1 : X ≤ 7874 := by rw [← hX]; exact Nat.le_trans (Nat.mul_le_mul (by omega : i ≤ 127) hw62) (by omega)
          have hXz : (i : Int) * (wd : Int) = (X : Int) := by rw [← hX]; simp
          rw [hX] at HOb
          have Hnb2 : Hid (∀ k, k < wd → blk.getD i 0 / 2 ^ k % 2 = N / 2 ^ (X + k) % 2) := by intro k hk; rw [← hX]; exact Hnb.out i k hilt hk
          have Hsr2 : Hid (∀ k, k < wd → (X + k) / 8 < sz) := by intro k hk; rw [← hX]; exact Hsr.out i k hilt hk
          have HXn : Hid (X + wd = (i + 1) * wd) := by show _ = _; rw [← hX, Nat.succ_mul]
          have gv := Hblk.out i (by rw [Hbl.out]; exact hilt)
          have hv62 := Hb62.out (blk.getD i 0) (by rw [List.getD_eq_getElem?_getD, List.getElem?_eq_getElem (by rw [Hbl.out]; exact hilt)]; exact List.getElem_mem _)
          generalize blk.getD i 0 = v at *
          clear hX
          go_wp2
          go_loopw [9] (fun kv wy => ∃ k : Nat, k ≤ wd ∧ kv = .int .i64 (k : Int) ∧ wy.ownsRow w.heap.size 5 1 (.slice (some ⟨gB, 0, none⟩) sz sz) sz (Lib.byteCells (bytesL sz (N % 2 ^ (X + k)))) ∧ wy.ownsRow w.heap.size 5 1 v2 (q ++ [UInt8.ofNat wd]).length (Lib.byteCells (q ++ [UInt8.ofNat wd])) ∧ Below w.heap.size w wy) (fun kv _ => wd - (intOf kv).toNat)
          case atStart => exact ⟨0, by omega, rfl, HOb.out, HOv.out, HBx.out⟩
          case round =>
            obtain ⟨k, hkle, rfl, hob, hov, hby⟩ := hrel
            have HYb := hidd hob
            have HYv := hidd hov
            have HBy := hidd hby
            clear hob hov hby HOb HOv HBx
            by_cases hklt : k < wd
            · have hkltz : (k : Int) < (wd : Int) := by omega
              have q0 := (HBy.out.cell (p := ⟨b, off + at_ + i, none⟩) hbw).trans gv
              have hbit := bytesL_bit sz (N % 2 ^ (X + k)) (N / 2 ^ (X + k) % 2) (X + k) (Nat.mod_lt _ (Nat.pow_pos (by omega))) (by omega) (Hsr2.out k hklt)
              rw [← mod_step N (X + k), ← Hnb2.out k hklt] at hbit
              have hpd := Hsr2.out k hklt
              have HBit : Hid (∀ W, Calls Try.prog 70 #[.int .i64 (v : Int), .int .i64 (k : Int)] W fun e w' => e = .returned (.int .i64 ((v / 2 ^ k % 2 : Nat) : Int)) ∧ w' = W) := fun W => bit_any v k W (by omega) (by omega)
              have q1 : wr.cell? ⟨gB, (X + k) / 8, none⟩ = some (.int .u8 (((bytesL sz (N % 2 ^ (X + k))).getD ((X + k) / 8) 0).toNat : Int)) := by
                rw [HYb.out.cellAt _ (by omega)]
                exact byteCells_at _ _ (by rw [bytesL_length]; omega)
              have f1 := HYb.out.frozenAt ((X + k) / 8)
              have hcb : ((bytesL sz (N % 2 ^ (X + k))).getD ((X + k) / 8) 0).toNat < 256 := UInt8.toNat_lt _
              have hB1 : v / 2 ^ k % 2 ≤ 1 := by omega
              generalize ((bytesL sz (N % 2 ^ (X + k))).getD ((X + k) / 8) 0).toNat = c at *
              generalize v / 2 ^ k % 2 = B at *
              obtain ⟨Hset, hc256⟩ := hbit
              have Hset := hidd Hset
              obtain ⟨pd, hpd1⟩ : ∃ pd, (X + k) / 8 = pd := ⟨_, rfl⟩
              obtain ⟨pr, hpr1⟩ : ∃ pr, (X + k) % 8 = pr := ⟨_, rfl⟩
              rw [hpd1] at q1 f1 hpd Hset
              rw [hpr1] at Hset hc256
              obtain ⟨pp, hpp⟩ : ∃ pp, X + k = pp := ⟨_, rfl⟩
              have hppz : (X : Int) + (k : Int) = (pp : Int) := by omega
              have hpp1 : pp ≤ 8000 := by omega
              have hq1 : (pp : Int) / 8 = (pd : Int) := by omega
              have hq2 : (pp : Int) % 8 = (pr : Int) := by omega
              clear hpp
              have hpr8 : pr < 8 := by omega
              have hpdz : (pd : Int) < (sz : Int) := by omega
              obtain ⟨C, hC, HC⟩ : ∃ C : Nat, (B : Int) * 2 ^ pr = (C : Int) ∧ Hid (B * 2 ^ pr = C) := by
                refine ⟨_, ?_, rfl⟩
                rw [Int.natCast_mul, Int.natCast_pow]; rfl
              rw [HC.out] at Hset hc256
              have hC128 : C ≤ 128 := by rw [← HC.out]; have h1 : 2 ^ pr ≤ 2 ^ 7 := Nat.pow_le_pow_right (by omega) (by omega); exact Nat.le_trans (Nat.mul_le_mul hB1 h1) (by omega)
              have hwr1 : IntKind.i64.wrap (pd : Int) = (pd : Int) := IntWalk.i64_in _ ⟨by omega, by omega⟩
              have Hraw : Hid (IntKind.u8.wrap ((c : Int) + IntKind.u8.wrap (IntKind.i64.wrap ((B : Int) * 2 ^ min (IntKind.u64.wrap (((pp : Int)).tmod 8)).toNat 64))) = ((c + C : Nat) : Int)) := by
                show _ = _
                have e1 : ((pp : Int)).tmod 8 = (pr : Int) := by rw [Int.tmod_eq_emod_of_nonneg (by omega)]; exact hq2
                have e2 : IntKind.u64.wrap (pr : Int) = (pr : Int) := IntWalk.u64_in _ ⟨by omega, by omega⟩
                rw [e1, e2, Int.toNat_natCast, Nat.min_eq_left (by omega), hC]
                have e3 : IntKind.i64.wrap (C : Int) = (C : Int) := IntWalk.i64_in _ ⟨by omega, by omega⟩
                rw [e3, IntKind.wrap_u8, IntKind.wrap_u8]
                omega
              have Hkk := hidd (show X + k + 1 = X + (k + 1) from by omega)
              clear hpd1 hpr1
              have st := HYb.out.stored pd (.int .u8 ((c + C : Nat) : Int))
              have RR : Hid ((wr.setCell ⟨gB, pd, none⟩ (.int .u8 ((c + C : Nat) : Int))).drew.ownsRow w.heap.size 5 1 (.slice (some ⟨gB, 0, none⟩) sz sz) sz (Lib.byteCells (bytesL sz (N % 2 ^ (X + (k + 1))))) ∧ (wr.setCell ⟨gB, pd, none⟩ (.int .u8 ((c + C : Nat) : Int))).drew.ownsRow w.heap.size 5 1 v2 (q ++ [UInt8.ofNat wd]).length (Lib.byteCells (q ++ [UInt8.ofNat wd])) ∧ Below w.heap.size w (wr.setCell ⟨gB, pd, none⟩ (.int .u8 ((c + C : Nat) : Int))).drew) := by
                refine ⟨?_, own_drewN (HYv.out.kept st.2 (Or.inr (fun e => by have := hgB.out gB e; omega))) 1, below_drewN (HBy.out.setCell (p := ⟨gB, pd, none⟩) (own_block HYb.out gB rfl) _) 1⟩
                have h1 := own_drewN st.1 1
                rw [byteCells_set _ pd (c + C) (by omega), Hset.out, Hkk.out] at h1
                exact h1
              clear st HYb HYv HBy Hset
              go_wp2
              go_region_with (go_at_call 70; refine (HBit.out _).mono ?_; rintro e w' ⟨rfl, hw'⟩; obtain rfl := hw'.symm; clear hw')
              all_goals
                rw [Hraw.out]
                go_wp2
                go_roundw
                · exact ⟨k + 1, by omega, by go_num, RR.out.1, RR.out.2.1, RR.out.2.2⟩
                · simp [intOf]; omega
            · have HXX : Hid (X + k = (i + 1) * wd) := by show _ = _; rw [← HXn.out]; omega
              rw [HXX.out] at HYb
              have hkz : ¬ (k : Int) < (wd : Int) := by omega
              go_wp2
              go_roundw
              case rel => exact ⟨i + 1, by omega, by go_num, HYb.out, HYv.out, HBy.out⟩
              case measure => simp [intOf]; omega
        · obtain rfl : i = n := by omega
          rw [HP.out, Nat.mod_eq_of_lt Hnlt2.out] at HOb
          have hne2 : Hid (v2.ownBlock = none ∨ v2.ownBlock ≠ (Value.slice (some ⟨gB, 0, none⟩) sz sz).ownBlock) := Or.inr (fun e => by have := hgB.out gB e; omega)
          have Hcc : Hid (∀ j u, (Lib.byteCells (bytesL sz N))[j]? = some u → wr.cell? ((⟨gB, 0, none⟩ : Addr).add j) = some u) := by
            intro j u hj
            rw [add_head, HOb.out.cellAt j (by have := (List.getElem?_eq_some_iff.1 hj).1; rw [Lib.byteCells_length, bytesL_length] at this; omega)]
            exact hj
          have hql : (q ++ [UInt8.ofNat wd]).length = q.length + 1 := by simp
          go_wp2_with (at_builtin; refine wpList_append_own_at _ rfl _ _ 22 rfl w.heap.size 5 i0 (.int .u8 0) 1 1 Try.underlying22 hi hz0 hz1 hz2 rfl (by decide) _ _ _ rfl HOv.out ⟨gB, 0, none⟩ sz sz (Lib.byteCells (bytesL sz N)) rfl (by rw [Lib.byteCells_length, bytesL_length, Nat.mul_one]) Hcc.out (Lib.byteCells_one _) ?e3 ?e4 ?e5 ?_)
          case e3 => unfold maxLen; omega
          case e4 => omega
          case e5 => exact hzx
          intro v4 w4 hown4 hgrow4 hne4 hat4
          have R4 : Hid (w4.ownsRow w.heap.size 5 1 v4 (q ++ blockL blk).length (Lib.byteCells (q ++ blockL blk)) ∧ Below w.heap.size w w4 ∧ v4 ≠ .slice none 0 0 ∧ (q ++ blockL blk) ++ packGo (vs.drop (at_ + 128)) = packL vs) := by
            refine ⟨?_, HBx.out.grown hgrow4 hzx (own_block HOv.out), fun e => by first | exact hne4 e | exact hnv2.out (hne4.1 e).1, ?_⟩
            · have e1 : q ++ blockL blk = (q ++ [UInt8.ofNat wd]) ++ bytesL sz N := by rw [Hbk.out]; simp
              rw [e1, List.length_append (bs := bytesL sz N), bytesL_length, Lib.byteCells_append, hql]
              exact hown4
            · rw [List.append_assoc, ← Hstep.out]; exact Hq.out
          clear hown4 hgrow4 hne4 hat4 HOb HOv HBx Hcc
          go_wp2
          go_roundw
          case rel => exact ⟨at_ + 128, q ++ blockL blk, by go_num, by omega, R4.out.2.2.2, R4.out.1, R4.out.2.2.1, R4.out.2.1⟩
          case measure => simp [intOf]; omega
    · have hltz : ¬ (at_ : Int) < (vs.length : Int) := by omega
      have HE : Hid (q = packL vs) := by
        show _ = _
        have := Hq.out
        rw [List.drop_of_length_le (by omega), packGo_nil, List.append_nil] at this
        exact this
      rcases own_cases HO.out with ⟨rfl, _⟩ | ⟨g2, cap2, rfl, _, _⟩
      · exact absurd rfl hnn
      · go_wp2
        go_ret
        rw [← HE.out]
        exact ⟨g2, cap2, rfl, HO.out, HB.out⟩
end Go.Proofs.Ytibomnmgiimejad
