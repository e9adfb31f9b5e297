import Derived.Test.YtgoklapafidpkaaGreatDoorDocOKJ22
import Derived.Test.YtgoklapafidpkaaGreatDoorDocOKJ25
import Derived.Test.YtgoklapafidpkaaGreatDoorDocOKJ31
namespace Go.Proofs.YtgoklapafidpkaaGreatDoor
open Go Go.RowKit
set_option linter.unusedVariables false

theorem lt_heap {w : World} {b : Nat} {o : Obj} (h : w.heap[b]? = some o) : b < w.heap.size := (Array.getElem?_eq_some_iff.1 h).1
theorem cntG_le (len : Nat) : ∀ f n, cntG len n f ≤ f * (len + 1)
  | 0, _ => by simp [cntG]
  | f + 1, n => by
    have := cntG_le len f (n + 1)
    rw [cntG, Nat.succ_mul]
    omega
set_option maxHeartbeats 4000000 in
set_option maxRecDepth 100000 in
theorem implGrams_in (s : ByteArray) (L H : Nat) (w : World) (hs : s.size ≤ 65536) (hT : Tabs w) (HC : Hid (decCode s = 0)) (HV : Hid (validB s = true)) (h1 : 1 ≤ L) (h2 : L ≤ H) (h8 : H ≤ 8) (G : List (List UInt8)) (HG : Hid (gAll L (H + 1 - L) (runes s) = G)) (R : List (List UInt8)) (c : Int) (HR : Hid ((G.length ≤ 4096 → R = G ∧ c = 0) ∧ (¬ G.length ≤ 4096 → R = [] ∧ c = 11))) :
    Calls Tryz.prog 190 #[.string s, .int .i64 L, .int .i64 H] w fun e w' => ∃ v, e = .returned (.tuple #[v, .int .i64 c]) ∧ w'.ownsRow w.heap.size 9 1 v R.length (sCells R) ∧ Below w.heap.size w w' := by
  obtain ⟨i0, hi, hz0, hz1, hz2⟩ := info_parts Tryz.infoStr
  have HT := hidd hT
  clear hT
  have HOK : Hid (gOK L H = true) := (gOK_iff _ _).2 ⟨by omega, by omega, by omega⟩
  have hrl := runes_le s
  have HRC := hidd (runeCount_len s)
  have HLen : Hid (G.length = cntG (runes s).length L (H + 1 - L)) := by show _ = _; rw [← HG.out]; exact gAll_len L _ h1 _
  go_enter Tryz.func190, Tryz.ntmps190
  go_wp2_with fail
  refine (textCode_any s _ (by omega) HT.out).mono ?_
  rintro e w1 ⟨rfl, hb1⟩
  rw [HC.out]
  go_wp2_with fail
  refine (gramSizes_any _ _ _).mono ?_
  rintro e w' ⟨rfl, hw'⟩
  obtain rfl := hw'.symm
  clear hw'
  rw [HOK.out]
  go_wp2_with fail
  refine (Tryz.utf8_RuneCountInString s _ (by omega)).mono ?_
  rintro e w2 ⟨rfl, q, rfl⟩
  have hb2 : Below w.heap.size w (w1.iter s q) := hb1.alloc hb1.size _
  generalize w1.iter s q = w2 at hb2 ⊢
  clear hb1
  rw [HRC.out]
  generalize hN : (runes s).length = N at *
  have HN := hidd hN
  clear hN
  go_wp2_with fail
  go_loop [9, 11] (fun cv i => ∃ (n f a : Nat), n + f = H + 1 ∧ L ≤ n ∧ i = .int .i64 n ∧ cv = .int .i64 a ∧ a + cntG N n f = G.length) (fun _ i => H + 1 - (intOf i).toNat)
  case atStart => exact ⟨L, H + 1 - L, 0, by omega, by omega, rfl, rfl, by rw [HLen.out]; omega⟩
  case round =>
    obtain ⟨n, f, a, hnf, hLn, rfl, rfl, hsum⟩ := hrel
    have hcl := cntG_le N f n
    have hfl : f ≤ 8 := by omega
    have hfN : f * (N + 1) ≤ 8 * (N + 1) := Nat.mul_le_mul_right _ hfl
    have hGl : G.length ≤ 8 * (N + 1) := by
      have h9 := cntG_le N (H + 1 - L) L
      have h10 : (H + 1 - L) * (N + 1) ≤ 8 * (N + 1) := Nat.mul_le_mul_right _ (by omega)
      rw [HLen.out]; omega
    have HS := hidd hsum
    have hab : a ≤ 8 * (N + 1) := by omega
    clear hcl hfN
    by_cases hnH : n ≤ H
    · have hnz : (n : Int) ≤ (H : Int) := by omega
      obtain ⟨f, rfl⟩ : ∃ f', f = f' + 1 := ⟨f - 1, by omega⟩
      have HS2 : Hid (a + (N + 1 - n) + cntG N (n + 1) f = G.length) := by show _ = _; rw [← HS.out, cntG]; omega
      clear hsum HS
      go_wp2_with fail
      go_round
      case rel => exact ⟨n + 1, f, a + (N + 1 - n), by omega, by omega, by go_num, congrArg (Value.int .i64) (by omega), HS2.out⟩
      case measure => simp [intOf]; omega
    · have hnz : ¬ (n : Int) ≤ (H : Int) := by omega
      have haG : a = G.length := by rw [← HS.out, show f = 0 by omega]; rfl
      clear hsum HS
      by_cases hbig : 4096 < a
      · have hbz : (4096 : Int) < (a : Int) := by omega
        have HF := hidd (HR.out.2 (by omega))
        clear haG
        go_wp2_with fail
        go_ret2
        rw [HF.out.1, HF.out.2]
        exact ⟨_, rfl, World.ownsRow_nil _ _ _ _, hb2⟩
      · have hbz : ¬ (4096 : Int) < (a : Int) := by omega
        have HF := hidd (HR.out.1 (by omega))
        have hGl2 : G.length ≤ 4096 := by omega
        clear haG HR HLen
        go_wp2_with (at_make; refine wpList_make_own _ rfl _ _ 57 rfl w.heap.size 9 i0 (.string ⟨#[]⟩) 1 Tryz.underlying57 hi hz0 hz1 _ _ _ a rfl rfl (by omega) ?b2 ?b3 hb2.size ?_)
        case b2 => omega
        case b3 => unfold maxLen; omega
        intro w3 hown3 hgrow3
        have hb3 : Below w.heap.size w w3 := hb2.grown hgrow3 hb2.size (fun k h => by cases h)
        generalize (Value.slice (some ⟨w2.heap.size, 0, none⟩) 0 a) = v3 at hown3 ⊢
        have hI : w.heap.size ≤ w3.heap.size := hb3.size
        have hit0 := hidd (World.iter_heap w3 s 0)
        have hb4 : Below w.heap.size w (w3.iter s 0) := hb3.alloc hb3.size _
        have hown4 : (w3.iter s 0).ownsRow w.heap.size 9 1 v3 0 [] := hown3.alloc _
        clear hb2 hgrow3 hown3 hb3
        go_wp2_with fail
        generalize w3.iter s 0 = w4 at hit0 hb4 hown4 ⊢
        generalize w3.heap.size = B at *
        go_loopw [12] (fun v wr => ∃ (k : Nat) (out : List (List UInt8)), k ≤ N ∧ wr.ownsRow w.heap.size 9 1 v out.length (sCells out) ∧ out ++ gAll L (H + 1 - L) ((runes s).drop k) = G ∧ wr.heap[B]? = some (.stringIter s (blen ((runes s).take k))) ∧ B < wr.heap.size ∧ Below w.heap.size w wr) (fun _ wr => s.size - wr.iterPos B)
        case atStart => exact ⟨0, [], by omega, hown4, HG.out, hit0.out, lt_heap hit0.out, hb4⟩
        case round =>
          obtain ⟨k, out, hk, hown, hG, hit, hzB0, hbel⟩ := hrel
          have HOk := hidd hown
          have HGk := hidd hG
          have hol : out.length ≤ 4096 := by
            have := congrArg List.length hG
            rw [List.length_append] at this
            omega
          clear hown hG hown4 hb4 hit0
          have hlt' := at_lt s k HV.out
          rw [HN.out] at hlt'
          generalize hp : blen ((runes s).take k) = p at *
          have Hp := hidd hp
          clear hp
          by_cases hlt : p < s.size
          · have hkl : k < N := hlt'.2 hlt
            have hst := at_step s k HV.out (by rw [Hp.out]; exact hlt)
            rw [Hp.out] at hst
            have hnx : ∀ ty, (Instr.next (.pointer (some ⟨B, 0, none⟩)) true ty).run Tryz.prog wr = _ := fun ty => Lib.run_next_any_at wr B s p ty hit hlt
            have hw := width_le s p hlt
            have hr := rune_le s p
            have HO2 := hidd (own_iterAt HOk.out hit (p + (Utf8.decode s p).2))
            have hit2 := Lib.iterAt_heap wr B s p (p + (Utf8.decode s p).2) hit
            have hbel2 := Lib.below_iterAt hbel (k := B) hI s (p + (Utf8.decode s p).2)
            have Hpos := hidd (iterPos_of hit)
            have Hit2 := hidd hit2
            have HB2 := hidd hbel2
            have hzw : w.heap.size ≤ (wr.iterAt B s (p + (Utf8.decode s p).2)).heap.size := hbel2.size
            have hzB : B < (wr.iterAt B s (p + (Utf8.decode s p).2)).heap.size := (Array.getElem?_eq_some_iff.1 hit2).1
            have HP2 : Hid (blen ((runes s).take (k + 1)) = p + (Utf8.decode s p).2) := hst.2.1
            have hps : p ≤ s.size := by omega
            have HXV : Hid (validB (s.extract p s.size) = true) := by
              show _ = _
              rw [ext_valid s p hps]
              have := (at_runes s k HV.out).2
              rwa [Hp.out] at this
            have HXR : Hid (runes (s.extract p s.size) = (runes s).drop k) := by
              show _ = _
              rw [ext_runes s p hps]
              have := (at_runes s k HV.out).1
              rwa [Hp.out] at this
            have hxz : (s.extract p s.size).size ≤ 65536 := by rw [ext_size s p hps]; omega
            have HD := hidd (gAll_drop L (H + 1 - L) (runes s) k (by rw [HN.out]; exact hkl))
            clear hst HOk hit2 hbel2 hbel hlt'
            generalize (Utf8.decode s p).1 = r at *
            generalize (Utf8.decode s p).2 = n2 at *
            generalize wr.iterAt B s (p + n2) = wi at *
            have hz : (p : Int) ≤ (s.size : Int) := by omega
            go_wp2_with fail
            refine (appendGrams_any w.heap.size _ out (s.extract p s.size) L H _ hxz HXV.out h1 h2 h8 hol hzw HO2.out).mono ?_
            rintro e w5 ⟨v5, rfl, hown5, hb5, hk5⟩
            rw [HXR.out] at hown5
            have RR : Hid (w5.ownsRow w.heap.size 9 1 v5 (out ++ gAt ((runes s).drop k) L (H + 1 - L)).length (sCells (out ++ gAt ((runes s).drop k) L (H + 1 - L))) ∧ out ++ gAt ((runes s).drop k) L (H + 1 - L) ++ gAll L (H + 1 - L) ((runes s).drop (k + 1)) = G ∧ Below w.heap.size w w5 ∧ w5.heap[B]? = some (.stringIter s (p + n2))) := by
              refine ⟨hown5, ?_, HB2.out.trans hb5, (hk5.1 B hzB (own_ne_iter HO2.out Hit2.out)).trans Hit2.out⟩
              rw [← HGk.out, HD.out, List.append_assoc]
            clear hown5 hb5 hk5 HO2 HB2 Hit2 HGk HD
            go_wp2_with fail
            go_roundw
            case rel => exact ⟨k + 1, _, by omega, RR.out.1, RR.out.2.1, by rw [HP2.out]; exact RR.out.2.2.2, lt_heap RR.out.2.2.2, RR.out.2.2.1⟩
            case measure => rw [iterPos_of RR.out.2.2.2, Hpos.out]; omega
          · have hkl : ¬ k < (runes s).length := by rw [HN.out]; exact fun h => hlt (hlt'.1 h)
            have hnx : ∀ ty, (Instr.next (.pointer (some ⟨B, 0, none⟩)) true ty).run Tryz.prog wr = _ := fun ty => Lib.run_next_end_at wr B s p ty hit hlt
            have HE : Hid (G = out) := by show _ = _; rw [← HGk.out, gAll_end _ _ _ _ hkl, List.append_nil]
            clear hit hlt'
            go_wp2_with fail
            go_ret2
            rw [HF.out.1, HF.out.2, HE.out]
            exact ⟨_, rfl, HOk.out, hbel⟩
set_option maxHeartbeats 2000000 in
theorem implGrams_any (s : ByteArray) (lo hi : Int) (w : World) (hs : s.size ≤ 1048576) (hT : Tabs w) :
    Calls Tryz.prog 190 #[.string s, .int .i64 lo, .int .i64 hi] w fun e w' => ∃ v, e = .returned (.tuple #[v, .int .i64 (gCode s lo hi)]) ∧ w'.ownsRow w.heap.size 9 1 v (gList s lo hi).length (sCells (gList s lo hi)) ∧ Below w.heap.size w w' := by
  by_cases hc : decCode s = 0
  · by_cases hok : gOK lo hi = true
    · have hb := (gOK_iff lo hi).1 hok
      obtain ⟨L, rfl⟩ := Int.eq_ofNat_of_zero_le (by omega : 0 ≤ lo)
      obtain ⟨H, rfl⟩ := Int.eq_ofNat_of_zero_le (by omega : 0 ≤ hi)
      have hd := (dec_okV s hc)
      refine implGrams_in s L H w hd.2 hT hc hd.1 (by omega) (by omega) (by omega) (gFull s L H) ?_ _ _ ?_
      · show _ = _
        rw [gFull, Int.toNat_natCast, show ((H : Int) + 1 - (L : Int)).toNat = H + 1 - L by omega, decList, if_neg (by omega), decL, if_pos hd.1]
      · refine ⟨fun h => ?_, fun h => ?_⟩
        · have e : gCode s L H = 0 := by rw [gCode, if_pos hc, if_pos hok, if_pos h]
          exact ⟨by rw [gList, if_pos e], e⟩
        · have e : gCode s L H = 11 := by rw [gCode, if_pos hc, if_pos hok, if_neg h]
          exact ⟨by rw [gList, if_neg (by omega)], e⟩
    · have HM : Hid (gCode s lo hi = 1 ∧ gList s lo hi = []) := by
        have e : gCode s lo hi = 1 := by rw [gCode, if_pos hc, if_neg hok]
        exact ⟨e, by rw [gList, if_neg (by omega)]⟩
      have HC := hidd hc
      have hok' : gOK lo hi = false := by simpa using hok
      have HOK := hidd hok'
      have HT := hidd hT
      clear hc hok hok' hT
      go_enter Tryz.func190, Tryz.ntmps190
      go_wp2_with fail
      refine (textCode_any s _ hs HT.out).mono ?_
      rintro e w1 ⟨rfl, hb1⟩
      rw [HC.out]
      go_wp2_with fail
      refine (gramSizes_any _ _ _).mono ?_
      rintro e w' ⟨rfl, hw'⟩
      obtain rfl := hw'.symm
      clear hw'
      rw [HOK.out]
      go_wp2_with fail
      go_ret2
      rw [HM.out.1, HM.out.2]
      exact ⟨_, rfl, World.ownsRow_nil _ _ _ _, hb1⟩
  · have HM : Hid (gCode s lo hi = decCode s ∧ gList s lo hi = []) := by
      have e : gCode s lo hi = decCode s := by rw [gCode, if_neg hc]
      exact ⟨e, by rw [gList, if_neg (by rw [e]; exact hc)]⟩
    have hcn : (decCode s != 0) = true := by rw [bne_iff_ne]; exact hc
    have HT := hidd hT
    clear hc hT
    go_enter Tryz.func190, Tryz.ntmps190
    go_wp2_with fail
    refine (textCode_any s _ hs HT.out).mono ?_
    rintro e w1 ⟨rfl, hb1⟩
    generalize decCode s = c at *
    go_wp2_with fail
    go_ret2
    rw [HM.out.1, HM.out.2]
    exact ⟨_, rfl, World.ownsRow_nil _ _ _ _, hb1⟩
theorem gList_le (s : ByteArray) (lo hi : Int) : (gList s lo hi).length ≤ 4096 := by
  rw [gList]
  split
  · rename_i h
    rw [gCode] at h
    by_cases hc : decCode s = 0
    · rw [if_pos hc] at h
      by_cases hok : gOK lo hi = true
      · rw [if_pos hok] at h
        by_cases hg : (gFull s lo hi).length ≤ 4096
        · exact hg
        · rw [if_neg hg] at h; omega
      · rw [if_neg hok] at h; omega
    · rw [if_neg hc] at h; exact absurd h hc
  · simp
end Go.Proofs.YtgoklapafidpkaaGreatDoor

namespace Go.Proofs.YtgoklapafidpkaaGreatDoor
open Go Go.RowKit
set_option linter.unusedVariables false
set_option linter.unusedSimpArgs false
set_option maxRecDepth 100000

/-- The step of the grams. -/
def gramGo (lo hi : Int) : List Tk → List Tk → List Tk × Int
  | o, [] => (o, 0)
  | o, k :: ks => if gCode (bs k.1) lo hi = 0 then gramGo lo hi (o ++ withT k (gList (bs k.1) lo hi)) ks else ([], gCode (bs k.1) lo hi)
theorem gramGo_drop (lo hi : Int) (o l : List Tk) (k : Nat) (h : k < l.length) : gramGo lo hi o (l.drop k) = if gCode (bs (l.getD k tk0).1) lo hi = 0 then gramGo lo hi (o ++ withT (l.getD k tk0) (gList (bs (l.getD k tk0).1) lo hi)) (l.drop (k + 1)) else ([], gCode (bs (l.getD k tk0).1) lo hi) := by
  have e : l.getD k tk0 = l[k] := by rw [List.getD_eq_getElem?_getD, List.getElem?_eq_getElem h, Option.getD_some]
  rw [List.drop_eq_getElem_cons h, gramGo, e]
set_option maxHeartbeats 8000000 in
theorem withGrams_any (fo st ph : Bool) (vS vY : Value) (aT : Option Addr) (cT : Nat) (lo hi : Int) (l : List Tk) (w : World) (hTb : Tabs w) (hT : HoldT w aT l) (hn : l.length ≤ 65) (hz : ∀ k, k < l.length → (l.getD k tk0).1.length ≤ 1048576) :
    Calls Tryz.prog 176 #[.agg #[.bool fo, .bool st, .bool ph, vS, vY, .int .i64 lo, .int .i64 hi], .slice aT l.length cT] w fun e w' => ∃ v, e = .returned (.tuple #[v, .int .i64 (gramGo lo hi [] l).2]) ∧ w'.ownsRow w.heap.size 63 4 v (gramGo lo hi [] l).1.length (toksCells (gramGo lo hi [] l).1) ∧ Below w.heap.size w w' := by
  obtain ⟨i0, hi0, hz0, hz1, hz2⟩ := info_parts Tryz.infoTok
  have HTb := hidd hTb
  have HT := hidd hT
  have HZ := hidd hz
  clear hTb hT hz
  go_enter Tryz.func176, Tryz.ntmps176
  have HBa : Hid (Below w.heap.size w (w.alloc (.cells #[.bool fo, .bool st, .bool ph, vS, vY, .int .i64 lo, .int .i64 hi] 77))) := (Below.refl _ _).alloc (Nat.le_refl _) _
  have hblk : (w.alloc (.cells #[.bool fo, .bool st, .bool ph, vS, vY, .int .i64 lo, .int .i64 hi] 77)).heap[w.heap.size]? = some (.cells #[.bool fo, .bool st, .bool ph, vS, vY, .int .i64 lo, .int .i64 hi] 77) := heap_alloc_new _ _
  have Hblk := hidd hblk
  clear hblk
  go_wp2_with fail
  have HTa := hidd (HT.out.below HBa.out)
  have HTba := hidd (HTb.out.below HBa.out)
  generalize w.alloc (.cells #[.bool fo, .bool st, .bool ph, vS, vY, .int .i64 lo, .int .i64 hi] 77) = wa at *
  generalize hB : w.heap.size = B at *
  have hza := HBa.out.size
  clear HT HTb
  go_loopw [6, 15] (fun v i wx => ∃ (k : Nat) (o : List Tk), k ≤ l.length ∧ i = .int .i64 k ∧ wx.ownsRow wa.heap.size 63 4 v o.length (toksCells o) ∧ o.length ≤ k * 4096 ∧ gramGo lo hi o (l.drop k) = gramGo lo hi [] l ∧ Below wa.heap.size wa wx) (fun _ i _ => l.length - (intOf i).toNat)
  case atStart => exact ⟨0, [], by omega, rfl, World.ownsRow_nil _ _ _ _, by simp, rfl, Below.refl _ _⟩
  case round =>
    obtain ⟨k, A, hk, rfl, hown, hal, hgo, hbx⟩ := hrel
    have HO := hidd hown
    have HBx := hidd hbx
    have HGo := hidd hgo
    have HKx := hidd (blko Hblk.out hbx)
    have HTx := hidd (HTa.out.below hbx)
    have hwx := hbx.size
    clear hown hbx hgo
    by_cases hlt : k < l.length
    · have HSn := hidd (gramGo_drop lo hi A l k hlt)
      have hzk := HZ.out k hlt
      obtain ⟨b, off, rfl, hbl, hc⟩ := HTx.out.resolve_left (fun h => by rw [h] at hlt; simp at hlt)
      obtain ⟨t0, t1, t2, t3⟩ := hc k hlt
      clear hc
      obtain ⟨tk, htk⟩ : ∃ tk, l.getD k tk0 = tk := ⟨_, rfl⟩
      rw [htk] at t0 t1 t2 t3 HSn hzk
      clear htk
      obtain ⟨tx, p0, p1, p2⟩ := tk
      dsimp only at t0 t1 t2 t3 HSn hzk
      have HBs : Hid (Below wr.heap.size wr (wr.alloc (.cells #[.string (bs tx), .int .i64 p0, .int .i64 p1, .int .i64 p2] 63))) := (Below.refl _ _).alloc (Nat.le_refl _) _
      have q5 : (wr.alloc (.cells #[.string (bs tx), .int .i64 p0, .int .i64 p1, .int .i64 p2] 63)).cell? ⟨B, 5, none⟩ = some (.int .i64 lo) := blkc (blko HKx.out HBs.out) 5
      have q6 : (wr.alloc (.cells #[.string (bs tx), .int .i64 p0, .int .i64 p1, .int .i64 p2] 63)).cell? ⟨B, 6, none⟩ = some (.int .i64 hi) := blkc (blko HKx.out HBs.out) 6
      have HTw := hidd ((HTba.out.below HBx.out).below HBs.out)
      have Hnx : Hid (some wr.heap.size ≠ u6.ownBlock) := own4_ne HO.out (a := some ⟨wr.heap.size, 0, none⟩) (fun b off e => by cases e; exact Nat.le_refl _) _ _ rfl
      have hbox := heap_alloc_new wr (.cells #[.string (bs tx), .int .i64 p0, .int .i64 p1, .int .i64 p2] 63)
      have Hbox := hidd hbox
      clear hbox
      have HOa := hidd (HO.out.alloc (.cells #[.string (bs tx), .int .i64 p0, .int .i64 p1, .int .i64 p2] 63))
      have HBb := hidd (HBx.out.alloc hwx (.cells #[.string (bs tx), .int .i64 p0, .int .i64 p1, .int .i64 p2] 63))
      go_upto_region 5 with fail
      generalize wr.alloc (.cells #[.string (bs tx), .int .i64 p0, .int .i64 p1, .int .i64 p2] 63) = ws at *
      have e0 : ws.cell? ⟨wr.heap.size, 0, none⟩ = some (.string (bs tx)) := blkc Hbox.out 0
      generalize hTB : wr.heap.size = TB at *
      clear t0 t1 t2 t3
      go_upto_region 6 with (go_at_call 190; refine (implGrams_any (bs tx) lo hi _ (by rw [bs_size]; exact hzk) HTw.out).mono ?_; rintro e wg ⟨vg, rfl, hog, hbg⟩)
      have HBg := hidd (HBb.out.trans (hbg.mono HBb.out.size))
      have hgl := gList_le (bs tx) lo hi
      by_cases hc : gCode (bs tx) lo hi = 0
      · have HSm : Hid (gramGo lo hi (A ++ withT (tx, p0, p1, p2) (gList (bs tx) lo hi)) (l.drop (k + 1)) = gramGo lo hi [] l) := by
          show _ = _; rw [← HGo.out, HSn.out, if_pos hc]
        rw [hc]
        clear hc HSn
        obtain ⟨ag, cg, rfl, hHg, hgb⟩ := holdS_row hog
        have HOg := hidd (own4_below HOa.out hbg)
        have HXg := hidd (blko Hbox.out hbg)
        have HGh := hidd hHg
        have HGn : Hid (∀ b off, ag = some ⟨b, off, none⟩ → some b ≠ u6.ownBlock) := fun b off e h => by
          have h1 := (hgb b off e).1
          rcases own4_cases HOa.out with ⟨h2, _⟩ | ⟨g, c, h2, _, h3⟩
          · rw [h2] at h; cases h
          · rw [h2] at h
            have : b = g := Option.some.inj h
            omega
        clear hog hbg hHg hgb HOa HBb Hbox e0 q5 q6 HO HBx HKx HTx HTw HBs
        generalize gList (bs tx) lo hi = gl at *
        go_wp2_with fail
        go_loopw [6, 34] (fun v i wx => ∃ j : Nat, j ≤ gl.length ∧ i = .int .i64 j ∧ wx.ownsRow wa.heap.size 63 4 v (A ++ withT (tx, p0, p1, p2) (gl.take j)).length (toksCells (A ++ withT (tx, p0, p1, p2) (gl.take j))) ∧ wx.heap[TB]? = some (.cells #[.string (bs tx), .int .i64 p0, .int .i64 p1, .int .i64 p2] 63) ∧ some TB ≠ v.ownBlock ∧ HoldS wx ag gl ∧ (∀ b off, ag = some ⟨b, off, none⟩ → some b ≠ v.ownBlock) ∧ Below wa.heap.size wa wx) (fun _ i _ => gl.length - (intOf i).toNat)
        case atStart => exact ⟨0, by omega, rfl, by simpa [withT] using HOg.out, HXg.out, Hnx.out, HGh.out, HGn.out, HBg.out⟩
        case round =>
          obtain ⟨j, hj, rfl, hown, hbox, hnb, hhg, hgn, hby⟩ := hrel
          have HAo := hidd hown
          have HAx := hidd hbox
          have HAn := hidd hnb
          have HAh := hidd hhg
          have HAg := hidd hgn
          have HAb := hidd hby
          have har : (A ++ withT (tx, p0, p1, p2) (gl.take j)).length ≤ k * 4096 + 4096 := by
            rw [List.length_append, withT_len, List.length_take]; omega
          clear hown hbox hnb hhg hgn hby HOg HXg Hnx HGh HGn HBg
          by_cases hjl : j < gl.length
          · have HW := hidd (withT_snoc (tx, p0, p1, p2) gl j hjl)
            obtain ⟨b2, off2, rfl, hbl2, hc2⟩ := HAh.out.resolve_left (fun h => by rw [h] at hjl; simp at hjl)
            have g1 := hc2 j hjl
            clear hc2
            generalize gl.getD j [] = gr at *
            have e0 : wr.cell? ⟨TB, 0, none⟩ = some (.string (bs tx)) := blkc HAx.out 0
            have e1 : wr.cell? ⟨TB, 1, none⟩ = some (.int .i64 p0) := blkc HAx.out 1
            have e2 : wr.cell? ⟨TB, 2, none⟩ = some (.int .i64 p1) := blkc HAx.out 2
            have e3 : wr.cell? ⟨TB, 3, none⟩ = some (.int .i64 p2) := blkc HAx.out 3
            have hwr := HAb.out.size
            obtain ⟨A1, hA1⟩ : ∃ A1, A ++ withT (tx, p0, p1, p2) (gl.take j) = A1 := ⟨_, rfl⟩
            have HA1 := hidd hA1
            rw [hA1] at HAo har
            clear hA1
            go_upto_region 12 with (first | (go_at_call 151; refine (retold_any (bs tx) (bs gr) p0 p1 p2 _).mono ?_; rintro e' wq ⟨rfl, hbq⟩) | (at_builtin; refine wpList_append_own_at _ rfl _ _ 42 rfl wa.heap.size 63 i0 (.agg #[.string ⟨#[]⟩, .int .i64 0, .int .i64 0, .int .i64 0]) 4 40 Tryz.underlying42 hi0 hz0 hz1 hz2 rfl (by decide) _ _ _ rfl ((own4_below HAo.out hbq).alloc _) ⟨wq.heap.size, 0, none⟩ 1 1 [.string (bs gr), .int .i64 p0, .int .i64 p1, .int .i64 p2] rfl rfl ?c1 ?c2 ?c3 ?c4 ?c5 ?_))
            case c1 =>
              intro q u hq
              match q, hq with
              | 0, hq => simp at hq; subst hq; simp [Addr.add]
              | 1, hq => simp at hq; subst hq; simp [Addr.add]
              | 2, hq => simp at hq; subst hq; simp [Addr.add]
              | 3, hq => simp at hq; subst hq; simp [Addr.add]
              | q + 4, hq => simp at hq
            case c2 =>
              intro u hu
              simp at hu
              rcases hu with rfl | rfl | rfl | rfl <;> rfl
            case c3 => unfold maxLen; omega
            case c4 => omega
            case c5 => simp; have := hbq.size; omega
            intro v' w6 hown' hgrow hne hat
            have hTBr : TB < wr.heap.size := (Array.getElem?_eq_some_iff.1 HAx.out).1
            have hqs := hbq.size
            have hb7 : Below wr.heap.size wr (wq.alloc (.cells #[.string (bs gr), .int .i64 p0, .int .i64 p1, .int .i64 p2] 63)) := hbq.alloc hqs _
            have hO7 : (wq.alloc (.cells #[.string (bs gr), .int .i64 p0, .int .i64 p1, .int .i64 p2] 63)).ownsRow wa.heap.size 63 4 u6 A1.length (toksCells A1) := (own4_below HAo.out hbq).alloc _
            have hbl7 : b2 < wr.heap.size := hbl2
            have hat2 : v'.ownBlock = u6.ownBlock ∨ ∃ g, v'.ownBlock = some g ∧ wr.heap.size ≤ g := by
              rcases hat with h | h
              · exact Or.inl h
              · exact Or.inr ⟨_, h, by first | omega | (simp; omega)⟩
            have hfar : ∀ b, b < wr.heap.size → some b ≠ u6.ownBlock → some b ≠ v'.ownBlock := fun b hb hn => by
              rcases hat2 with h | ⟨g, h, hg⟩
              · rw [h]; exact hn
              · rw [h]; intro e; have := Option.some.inj e; omega
            have RR : Hid (w6.ownsRow wa.heap.size 63 4 v' (A ++ withT (tx, p0, p1, p2) (gl.take (j + 1))).length (toksCells (A ++ withT (tx, p0, p1, p2) (gl.take (j + 1)))) ∧ w6.heap[TB]? = some (.cells #[.string (bs tx), .int .i64 p0, .int .i64 p1, .int .i64 p2] 63) ∧ some TB ≠ v'.ownBlock ∧ HoldS w6 (some ⟨b2, off2, none⟩) gl ∧ (∀ b off, (some ⟨b2, off2, none⟩ : Option Addr) = some ⟨b, off, none⟩ → some b ≠ v'.ownBlock) ∧ Below wa.heap.size wa w6) := by
              refine ⟨?_, ?_, hfar TB hTBr HAn.out, ?_, ?_, ?_⟩
              · rw [HW.out, ← List.append_assoc, HA1.out, toksCells_snoc, show (A1 ++ [(gr, p0, p1, p2)]).length = A1.length + 1 from List.length_append]
                exact hown'
              · rw [hgrow.block TB (Nat.lt_of_lt_of_le hTBr hb7.size) HAn.out]
                exact blko HAx.out hb7
              · exact (HAh.out.below hb7).grown hgrow HAg.out
              · intro b off e
                cases e
                exact hfar b2 hbl7 (HAg.out b2 off2 rfl)
              · have h1 := HAb.out.trans (hb7.mono hwr)
                exact h1.grown hgrow h1.size (own4_block hO7)
            clear hown' hgrow hne hat hat2 hfar hO7 hb7 e0 e1 e2 e3 g1 hbq
            go_wp2_with fail
            go_roundw
            case rel => exact ⟨j + 1, by omega, by go_num, RR.out⟩
            case measure => simp [intOf]; omega
          · have HE : Hid (A ++ withT (tx, p0, p1, p2) (gl.take j) = A ++ withT (tx, p0, p1, p2) gl) := by
              show _ = _
              rw [List.take_of_length_le (by omega)]
            go_wp2_with fail
            go_roundw
            case rel => exact ⟨k + 1, _, by omega, by go_num, HAo.out, by omega, by rw [HE.out]; exact HSm.out, HAb.out⟩
            case measure => simp [intOf]; omega
      · have hcn : (gCode (bs tx) lo hi != 0) = true := by rw [bne_iff_ne]; exact hc
        have HR : Hid (gramGo lo hi [] l = ([], gCode (bs tx) lo hi)) := by show _ = _; rw [← HGo.out, HSn.out, if_neg hc]
        clear hc HSn
        generalize gCode (bs tx) lo hi = cd at *
        go_wp2_with fail
        go_ret2
        rw [HR.out]
        try rw [hB]
        exact ⟨_, rfl, World.ownsRow_nil _ _ _ _, HBa.out.trans (HBg.out.mono (by omega))⟩
    · have HE : Hid (gramGo lo hi [] l = (A, 0)) := by show _ = _; rw [← HGo.out, List.drop_of_length_le (by omega), gramGo]
      go_wp2_with fail
      go_ret2
      rw [HE.out]
      try rw [hB]
      exact ⟨_, rfl, own4_mono HO.out (by omega), HBa.out.trans (HBx.out.mono (by omega))⟩
end Go.Proofs.YtgoklapafidpkaaGreatDoor
