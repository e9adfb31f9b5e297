import Derived.Test.YteedakkclppipajDoorGramI
namespace Go.Proofs.YteedakkclppipajDoor
open Go Go.RowKit
set_option linter.unusedVariables false

theorem lt_heap {w : World} {b : Nat} {o : Obj} (h : w.heap[b]? = some o) : b < w.heap.size := (Array.getElem?_eq_some_iff.1 h).1
theorem cntG_le (len : Nat) : ∀ f n, cntG len n f ≤ f * (len + 1)
  | 0, _ => by simp [cntG]
  | f + 1, n => by
    have := cntG_le len f (n + 1)
    rw [cntG, Nat.succ_mul]
    omega

set_option maxHeartbeats 4000000 in
set_option maxRecDepth 100000 in
theorem implGrams_in (s : ByteArray) (L H : Nat) (w : World) (hs : s.size ≤ 65536) (hT : Tabs w) (HC : Hid (decCode s = 0)) (HV : Hid (validB s = true)) (h1 : 1 ≤ L) (h2 : L ≤ H) (h8 : H ≤ 8) (G : List (List UInt8)) (HG : Hid (gAll L (H + 1 - L) (runes s) = G)) (R : List (List UInt8)) (c : Int) (HR : Hid ((G.length ≤ 4096 → R = G ∧ c = 0) ∧ (¬ G.length ≤ 4096 → R = [] ∧ c = 11))) :
    Calls Tryd.prog 9 #[.string s, .int .i64 L, .int .i64 H] w fun e w' => ∃ v, e = .returned (.tuple #[v, .int .i64 c]) ∧ w'.ownsRow w.heap.size 9 1 v R.length (sCells R) ∧ Below w.heap.size w w' := by
  obtain ⟨i0, hi, hz0, hz1, hz2⟩ := info_parts Tryd.infoStr
  have HT := hidd hT
  clear hT
  have HOK : Hid (gOK L H = true) := (gOK_iff _ _).2 ⟨by omega, by omega, by omega⟩
  have hrl := runes_le s
  have HRC := hidd (runeCount_len s)
  have HLen : Hid (G.length = cntG (runes s).length L (H + 1 - L)) := by show _ = _; rw [← HG.out]; exact gAll_len L _ h1 _
  go_enter Tryd.func9, Tryd.ntmps9
  go_wp2_with fail
  refine (textCode_any s _ (by omega) HT.out).mono ?_
  rintro e w1 ⟨rfl, hb1⟩
  rw [HC.out]
  go_wp2_with fail
  refine (gramSizes_any _ _ _).mono ?_
  rintro e w' ⟨rfl, hw'⟩
  obtain rfl := hw'.symm
  clear hw'
  rw [HOK.out]
  go_wp2_with fail
  refine (Tryd.utf8_RuneCountInString s _ (by omega)).mono ?_
  rintro e w2 ⟨rfl, q, rfl⟩
  have hb2 : Below w.heap.size w (w1.iter s q) := hb1.alloc hb1.size _
  generalize w1.iter s q = w2 at hb2 ⊢
  clear hb1
  rw [HRC.out]
  generalize hN : (runes s).length = N at *
  have HN := hidd hN
  clear hN
  go_wp2_with fail
  go_loop [9, 11] (fun cv i => ∃ (n f a : Nat), n + f = H + 1 ∧ L ≤ n ∧ i = .int .i64 n ∧ cv = .int .i64 a ∧ a + cntG N n f = G.length) (fun _ i => H + 1 - (intOf i).toNat)
  case atStart => exact ⟨L, H + 1 - L, 0, by omega, by omega, rfl, rfl, by rw [HLen.out]; omega⟩
  case round =>
    obtain ⟨n, f, a, hnf, hLn, rfl, rfl, hsum⟩ := hrel
    have hcl := cntG_le N f n
    have hfl : f ≤ 8 := by omega
    have hfN : f * (N + 1) ≤ 8 * (N + 1) := Nat.mul_le_mul_right _ hfl
    have hGl : G.length ≤ 8 * (N + 1) := by
      have h9 := cntG_le N (H + 1 - L) L
      have h10 : (H + 1 - L) * (N + 1) ≤ 8 * (N + 1) := Nat.mul_le_mul_right _ (by omega)
      rw [HLen.out]; omega
    have HS := hidd hsum
    have hab : a ≤ 8 * (N + 1) := by omega
    clear hcl hfN
    by_cases hnH : n ≤ H
    · have hnz : (n : Int) ≤ (H : Int) := by omega
      obtain ⟨f, rfl⟩ : ∃ f', f = f' + 1 := ⟨f - 1, by omega⟩
      have HS2 : Hid (a + (N + 1 - n) + cntG N (n + 1) f = G.length) := by show _ = _; rw [← HS.out, cntG]; omega
      clear hsum HS
      go_wp2_with fail
      go_round
      case rel => exact ⟨n + 1, f, a + (N + 1 - n), by omega, by omega, by go_num, congrArg (Value.int .i64) (by omega), HS2.out⟩
      case measure => simp [intOf]; omega
    · have hnz : ¬ (n : Int) ≤ (H : Int) := by omega
      have haG : a = G.length := by rw [← HS.out, show f = 0 by omega]; rfl
      clear hsum HS
      by_cases hbig : 4096 < a
      · have hbz : (4096 : Int) < (a : Int) := by omega
        have HF := hidd (HR.out.2 (by omega))
        clear haG
        go_wp2_with fail
        go_ret2
        rw [HF.out.1, HF.out.2]
        exact ⟨_, rfl, World.ownsRow_nil _ _ _ _, hb2⟩
      · have hbz : ¬ (4096 : Int) < (a : Int) := by omega
        have HF := hidd (HR.out.1 (by omega))
        have hGl2 : G.length ≤ 4096 := by omega
        clear haG HR HLen
        go_wp2_with (at_make; refine wpList_make_own _ rfl _ _ 24 rfl w.heap.size 9 i0 (.string ⟨#[]⟩) 1 Tryd.underlying24 hi hz0 hz1 _ _ _ a rfl rfl (by omega) ?b2 ?b3 hb2.size ?_)
        case b2 => omega
        case b3 => unfold maxLen; omega
        intro w3 hown3 hgrow3
        have hb3 : Below w.heap.size w w3 := hb2.grown hgrow3 hb2.size (fun k h => by cases h)
        generalize (Value.slice (some ⟨w2.heap.size, 0, none⟩) 0 a) = v3 at hown3 ⊢
        have hI : w.heap.size ≤ w3.heap.size := hb3.size
        have hit0 := hidd (World.iter_heap w3 s 0)
        have hb4 : Below w.heap.size w (w3.iter s 0) := hb3.alloc hb3.size _
        have hown4 : (w3.iter s 0).ownsRow w.heap.size 9 1 v3 0 [] := hown3.alloc _
        clear hb2 hgrow3 hown3 hb3
        go_wp2_with fail
        generalize w3.iter s 0 = w4 at hit0 hb4 hown4 ⊢
        generalize w3.heap.size = B at *
        go_loopw [12] (fun v wr => ∃ (k : Nat) (out : List (List UInt8)), k ≤ N ∧ wr.ownsRow w.heap.size 9 1 v out.length (sCells out) ∧ out ++ gAll L (H + 1 - L) ((runes s).drop k) = G ∧ wr.heap[B]? = some (.stringIter s (blen ((runes s).take k))) ∧ B < wr.heap.size ∧ Below w.heap.size w wr) (fun _ wr => s.size - wr.iterPos B)
        case atStart => exact ⟨0, [], by omega, hown4, HG.out, hit0.out, lt_heap hit0.out, hb4⟩
        case round =>
          obtain ⟨k, out, hk, hown, hG, hit, hzB0, hbel⟩ := hrel
          have HOk := hidd hown
          have HGk := hidd hG
          have hol : out.length ≤ 4096 := by
            have := congrArg List.length hG
            rw [List.length_append] at this
            omega
          clear hown hG hown4 hb4 hit0
          have hlt' := at_lt s k HV.out
          rw [HN.out] at hlt'
          generalize hp : blen ((runes s).take k) = p at *
          have Hp := hidd hp
          clear hp
          by_cases hlt : p < s.size
          · have hkl : k < N := hlt'.2 hlt
            have hst := at_step s k HV.out (by rw [Hp.out]; exact hlt)
            rw [Hp.out] at hst
            have hnx : ∀ ty, (Instr.next (.pointer (some ⟨B, 0, none⟩)) true ty).run Tryd.prog wr = _ := fun ty => Lib.run_next_any_at wr B s p ty hit hlt
            have hw := width_le s p hlt
            have hr := rune_le s p
            have HO2 := hidd (own_iterAt HOk.out hit (p + (Utf8.decode s p).2))
            have hit2 := Lib.iterAt_heap wr B s p (p + (Utf8.decode s p).2) hit
            have hbel2 := Lib.below_iterAt hbel (k := B) hI s (p + (Utf8.decode s p).2)
            have Hpos := hidd (iterPos_of hit)
            have Hit2 := hidd hit2
            have HB2 := hidd hbel2
            have hzw : w.heap.size ≤ (wr.iterAt B s (p + (Utf8.decode s p).2)).heap.size := hbel2.size
            have hzB : B < (wr.iterAt B s (p + (Utf8.decode s p).2)).heap.size := (Array.getElem?_eq_some_iff.1 hit2).1
            have HP2 : Hid (blen ((runes s).take (k + 1)) = p + (Utf8.decode s p).2) := hst.2.1
            have hps : p ≤ s.size := by omega
            have HXV : Hid (validB (s.extract p s.size) = true) := by
              show _ = _
              rw [ext_valid s p hps]
              have := (at_runes s k HV.out).2
              rwa [Hp.out] at this
            have HXR : Hid (runes (s.extract p s.size) = (runes s).drop k) := by
              show _ = _
              rw [ext_runes s p hps]
              have := (at_runes s k HV.out).1
              rwa [Hp.out] at this
            have hxz : (s.extract p s.size).size ≤ 65536 := by rw [ext_size s p hps]; omega
            have HD := hidd (gAll_drop L (H + 1 - L) (runes s) k (by rw [HN.out]; exact hkl))
            clear hst HOk hit2 hbel2 hbel hlt'
            generalize (Utf8.decode s p).1 = r at *
            generalize (Utf8.decode s p).2 = n2 at *
            generalize wr.iterAt B s (p + n2) = wi at *
            have hz : (p : Int) ≤ (s.size : Int) := by omega
            go_wp2_with fail
            refine (appendGrams_any w.heap.size _ out (s.extract p s.size) L H _ hxz HXV.out h1 h2 h8 hol hzw HO2.out).mono ?_
            rintro e w5 ⟨v5, rfl, hown5, hb5, hk5⟩
            rw [HXR.out] at hown5
            have RR : Hid (w5.ownsRow w.heap.size 9 1 v5 (out ++ gAt ((runes s).drop k) L (H + 1 - L)).length (sCells (out ++ gAt ((runes s).drop k) L (H + 1 - L))) ∧ out ++ gAt ((runes s).drop k) L (H + 1 - L) ++ gAll L (H + 1 - L) ((runes s).drop (k + 1)) = G ∧ Below w.heap.size w w5 ∧ w5.heap[B]? = some (.stringIter s (p + n2))) := by
              refine ⟨hown5, ?_, HB2.out.trans hb5, (hk5.1 B hzB (own_ne_iter HO2.out Hit2.out)).trans Hit2.out⟩
              rw [← HGk.out, HD.out, List.append_assoc]
            clear hown5 hb5 hk5 HO2 HB2 Hit2 HGk HD
            go_wp2_with fail
            go_roundw
            case rel => exact ⟨k + 1, _, by omega, RR.out.1, RR.out.2.1, by rw [HP2.out]; exact RR.out.2.2.2, lt_heap RR.out.2.2.2, RR.out.2.2.1⟩
            case measure => rw [iterPos_of RR.out.2.2.2, Hpos.out]; omega
          · have hkl : ¬ k < (runes s).length := by rw [HN.out]; exact fun h => hlt (hlt'.1 h)
            have hnx : ∀ ty, (Instr.next (.pointer (some ⟨B, 0, none⟩)) true ty).run Tryd.prog wr = _ := fun ty => Lib.run_next_end_at wr B s p ty hit hlt
            have HE : Hid (G = out) := by show _ = _; rw [← HGk.out, gAll_end _ _ _ _ hkl, List.append_nil]
            clear hit hlt'
            go_wp2_with fail
            go_ret2
            rw [HF.out.1, HF.out.2, HE.out]
            exact ⟨_, rfl, HOk.out, hbel⟩

set_option maxHeartbeats 2000000 in
theorem implGrams_any (s : ByteArray) (lo hi : Int) (w : World) (hs : s.size ≤ 1048576) (hT : Tabs w) :
    Calls Tryd.prog 9 #[.string s, .int .i64 lo, .int .i64 hi] w fun e w' => ∃ v, e = .returned (.tuple #[v, .int .i64 (gCode s lo hi)]) ∧ w'.ownsRow w.heap.size 9 1 v (gList s lo hi).length (sCells (gList s lo hi)) ∧ Below w.heap.size w w' := by
  by_cases hc : decCode s = 0
  · by_cases hok : gOK lo hi = true
    · have hb := (gOK_iff lo hi).1 hok
      obtain ⟨L, rfl⟩ := Int.eq_ofNat_of_zero_le (by omega : 0 ≤ lo)
      obtain ⟨H, rfl⟩ := Int.eq_ofNat_of_zero_le (by omega : 0 ≤ hi)
      have hd := (dec_okV s hc)
      refine implGrams_in s L H w hd.2 hT hc hd.1 (by omega) (by omega) (by omega) (gFull s L H) ?_ _ _ ?_
      · show _ = _
        rw [gFull, Int.toNat_natCast, show ((H : Int) + 1 - (L : Int)).toNat = H + 1 - L by omega, decList, if_neg (by omega), decL, if_pos hd.1]
      · refine ⟨fun h => ?_, fun h => ?_⟩
        · have e : gCode s L H = 0 := by rw [gCode, if_pos hc, if_pos hok, if_pos h]
          exact ⟨by rw [gList, if_pos e], e⟩
        · have e : gCode s L H = 11 := by rw [gCode, if_pos hc, if_pos hok, if_neg h]
          exact ⟨by rw [gList, if_neg (by omega)], e⟩
    · have HM : Hid (gCode s lo hi = 1 ∧ gList s lo hi = []) := by
        have e : gCode s lo hi = 1 := by rw [gCode, if_pos hc, if_neg hok]
        exact ⟨e, by rw [gList, if_neg (by omega)]⟩
      have HC := hidd hc
      have hok' : gOK lo hi = false := by simpa using hok
      have HOK := hidd hok'
      have HT := hidd hT
      clear hc hok hok' hT
      go_enter Tryd.func9, Tryd.ntmps9
      go_wp2_with fail
      refine (textCode_any s _ hs HT.out).mono ?_
      rintro e w1 ⟨rfl, hb1⟩
      rw [HC.out]
      go_wp2_with fail
      refine (gramSizes_any _ _ _).mono ?_
      rintro e w' ⟨rfl, hw'⟩
      obtain rfl := hw'.symm
      clear hw'
      rw [HOK.out]
      go_wp2_with fail
      go_ret2
      rw [HM.out.1, HM.out.2]
      exact ⟨_, rfl, World.ownsRow_nil _ _ _ _, hb1⟩
  · have HM : Hid (gCode s lo hi = decCode s ∧ gList s lo hi = []) := by
      have e : gCode s lo hi = decCode s := by rw [gCode, if_neg hc]
      exact ⟨e, by rw [gList, if_neg (by rw [e]; exact hc)]⟩
    have hcn : (decCode s != 0) = true := by rw [bne_iff_ne]; exact hc
    have HT := hidd hT
    clear hc hT
    go_enter Tryd.func9, Tryd.ntmps9
    go_wp2_with fail
    refine (textCode_any s _ hs HT.out).mono ?_
    rintro e w1 ⟨rfl, hb1⟩
    generalize decCode s = c at *
    go_wp2_with fail
    go_ret2
    rw [HM.out.1, HM.out.2]
    exact ⟨_, rfl, World.ownsRow_nil _ _ _ _, hb1⟩
theorem gList_le (s : ByteArray) (lo hi : Int) : (gList s lo hi).length ≤ 4096 := by
  rw [gList]
  split
  · rename_i h
    rw [gCode] at h
    by_cases hc : decCode s = 0
    · rw [if_pos hc] at h
      by_cases hok : gOK lo hi = true
      · rw [if_pos hok] at h
        by_cases hg : (gFull s lo hi).length ≤ 4096
        · exact hg
        · rw [if_neg hg] at h; omega
      · rw [if_neg hok] at h; omega
    · rw [if_neg hc] at h; exact absurd h hc
  · simp
end Go.Proofs.YteedakkclppipajDoor
