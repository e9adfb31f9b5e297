import Derived.Test.YtanolccfmpbjgalDbRK
import Derived.Test.YtanolccfmpbjgalDictOKJ14
namespace Go.Proofs.Ytanolccfmpbjgal
open Go Go.RowKit
set_option linter.unusedVariables false
set_option linter.unusedSimpArgs false
set_option maxRecDepth 100000

def BytesC (fn : Nat) : Prop := ∀ (c : Int) (a : Option Addr) (cap : Nat) (S : List St) (w : World), S.length ≤ 1048576 → (∀ i, (arcsAt S i).length ≤ 1048576) → HoldS w a S →
  Calls Try.prog fn #[.agg #[.int .i64 c, .slice a S.length cap]] w fun e w' => ∃ v, e = .returned (.tuple #[v, .int .i64 (bytesO S (dictT c S)).2]) ∧ w'.ownsRow w.heap.size 5 1 v (bytesO S (dictT c S)).1.length (Lib.byteCells (bytesO S (dictT c S)).1) ∧ Below w.heap.size w w'
theorem u8wrap (n : Nat) : IntKind.u8.wrap (n : Int) = ((n % 256 : Nat) : Int) := by
  simp [IntKind.wrap, IntKind.bits, IntKind.signed]
set_option maxHeartbeats 2000000 in
theorem sumBytes_any (b off cap : Nat) (bs : List UInt8) (w : World) (hc : BytesAt w b off bs) (hb : b < w.heap.size) :
    Calls Try.prog 45 #[.slice (some ⟨b, off, none⟩) bs.length cap] w fun e w' => e = .returned (.agg #[.int .u8 ((sumL bs / 16777216 : Nat) : Int), .int .u8 ((sumL bs / 65536 % 256 : Nat) : Int), .int .u8 ((sumL bs / 256 % 256 : Nat) : Int), .int .u8 ((sumL bs % 256 : Nat) : Int)]) ∧ Below w.heap.size w w' := by
  have HBa := hidd ((Below.refl w.heap.size w).alloc (Nat.le_refl _) (.cells #[.int .u8 0, .int .u8 0, .int .u8 0, .int .u8 0] 81))
  have HS := hidd (fun (W : World) (hW : Below w.heap.size w W) => implSum_any b off cap bs W (hc.below hW))
  have hlt := sumL_lt bs
  obtain ⟨n, hn⟩ : ∃ n, sumL bs = n := ⟨_, rfl⟩
  rw [hn] at HS hlt
  have Hn := hidd hn
  clear hc hn
  go_enter Try.func45, Try.ntmps45
  go_wp2_with fail
  refine (HS.out _ HBa.out).mono ?_
  rintro e w1 ⟨rfl, rfl⟩
  dsimp only
  go_wp2_with fail
  refine bodyPost_ret (v := .agg #[.int .u8 ((n : Int) / 16777216), .int .u8 ((n : Int) / 65536 % 256), .int .u8 ((n : Int) / 256 % 256), .int .u8 ((n : Int) % 256)]) (by simp [results, Try.results45, go_sem, *]) rfl ?_
  refine ⟨?_, (Below.refl w.heap.size w).alloc (Nat.le_refl _) _⟩
  rw [Hn.out]
  congr 4
theorem four_cells {M : List UInt8} (n : Nat) (h : n < 4294967296) : Lib.byteCells (M ++ four n) = Lib.byteCells M ++ [.int .u8 ((n : Int) / 16777216), .int .u8 ((n : Int) / 65536 % 256), .int .u8 ((n : Int) / 256 % 256), .int .u8 ((n : Int) % 256)] := by
  have e1 : (UInt8.ofNat (n / 16777216)).toNat = n / 16777216 := by rw [UInt8.toNat_ofNat']; omega
  have e2 : (UInt8.ofNat (n / 65536 % 256)).toNat = n / 65536 % 256 := by rw [UInt8.toNat_ofNat']; omega
  have e3 : (UInt8.ofNat (n / 256 % 256)).toNat = n / 256 % 256 := by rw [UInt8.toNat_ofNat']; omega
  have e4 : (UInt8.ofNat (n % 256)).toNat = n % 256 := by rw [UInt8.toNat_ofNat']; omega
  simp only [Lib.byteCells, four, List.map_append, List.map_cons, List.map_nil, e1, e2, e3, e4]
  congr 1
set_option maxHeartbeats 8000000 in
theorem implBytes_any (hok : OkC 12) : BytesC 21 := by
  intro c a cap S w hn hA hS
  obtain ⟨i1, hi1, hy0, hy1, hy2⟩ := info_parts Try.infoByte
  have HOk := hidd (fun W (hW : Below w.heap.size w W) => hok c a cap S W hn hA (hS.below hW))
  have HS := hidd hS
  clear hok hA hS
  have HBa : Hid (Below w.heap.size w (w.alloc (.cells #[.int .i64 c, .slice a S.length cap] 29))) := (Below.refl _ _).alloc (Nat.le_refl _) _
  have Hbx := hidd (heap_alloc_new w (.cells #[.int .i64 c, .slice a S.length cap] 29))
  go_enter Try.func21, Try.ntmps21
  go_wp2_with fail
  refine (HOk.out _ HBa.out).mono ?_
  rintro e w1 ⟨rfl, hb1⟩
  have HB1 := hidd (HBa.out.trans (hb1.mono HBa.out.size))
  have Hbx1 := hidd (blko Hbx.out hb1)
  clear hb1 Hbx HOk
  dsimp only
  rcases okD_cases c S with ⟨hok, ts, hts⟩ | ⟨hok, hno⟩
  · rw [hok]
    have HO : Hid (bytesO S (dictT c S) = (bytesD S, 0)) := by show _ = _; rw [dictT_some hts]; rfl
    have HFi := hidd hts.small
    have hlen := hts.len
    have HSt := hidd (fine_sts hts.small hlen.2)
    clear hok hts
    have b1 := blkc Hbx1.out 1
    have hzw : w.heap.size < w1.heap.size := (Array.getElem?_eq_some_iff.1 Hbx1.out).1
    obtain ⟨gS, oS, rfl, hgS, hcS⟩ := HS.out.resolve_left (fun h => by rw [h] at hlen; simp at hlen)
    have HcS := hidd hcS
    clear hcS
    have HA0 := hidd (appendInt_any w1.heap.size 0 (.slice none 0 0) [] S.length w1 (by omega) rfl (by omega) (Nat.le_refl _) (World.ownsRow_nil _ _ _ _))
    go_wp2_with fail
    refine HA0.out.mono ?_
    rintro e w2 ⟨v2, rfl, hown2, hg2, hv2⟩
    have HO2 : Hid (w2.ownsRow w1.heap.size 5 1 v2 (preB S 0).length (Lib.byteCells (preB S 0))) := by
      show World.ownsRow _ _ _ _ _ _ _
      rw [preB_zero]; simpa using hown2
    have HB2 : Hid (Below w1.heap.size w1 w2) := (Below.refl _ _).grown hg2.1 (Nat.le_refl _) (fun k h => by cases h)
    have c1 := (HB2.out.cell (p := ⟨w.heap.size, 1, none⟩) hzw).trans b1
    clear hown2 hg2 hv2 HA0 b1
    dsimp only
    go_wp2_with fail
    go_loopw [4, 20] (fun v kv wr => ∃ k : Nat, k ≤ S.length ∧ kv = .int .i64 (k : Int) ∧ wr.ownsRow w1.heap.size 5 1 v (preB S k).length (Lib.byteCells (preB S k)) ∧ Below w1.heap.size w1 wr) (fun _ kv _ => S.length - (intOf kv).toNat)
    case atStart => exact ⟨0, Nat.zero_le _, rfl, HO2.out, HB2.out⟩
    case round =>
      obtain ⟨k, hk, rfl, hown, hbel⟩ := hrel
      clear HO2 HB2 c1
      have HOw := hidd hown
      have HBe := hidd hbel
      obtain ⟨av, cv, rfl⟩ := own_form hown
      clear hown hbel
      have hpl := preB_len HFi.out hlen.2 k
      have hwz := HBe.out.size
      by_cases hlt : k < S.length
      · have hltz : (k : Int) < (S.length : Int) := by omega
        obtain ⟨s0, ak, ck, s1, hAk⟩ := HcS.out k hlt
        have hgS1 : gS < w1.heap.size := Nat.lt_of_lt_of_le hgS HB1.out.size
        have hBw := HB1.out.trans (HBe.out.mono HB1.out.size)
        replace s0 := (hBw.cell (p := ⟨gS, oS + k * 2, none⟩) hgS).trans s0
        replace s1 := (hBw.cell (p := ⟨gS, oS + k * 2 + 1, none⟩) hgS).trans s1
        have HAk := hidd hAk
        have Hall := hidd (midB_all hlt)
        have Hs := hidd (HSt.out (S.getD k st0) (by simp only [List.getD_eq_getElem?_getD, List.getElem?_eq_getElem hlt, Option.getD_some]; exact List.getElem_mem hlt))
        have Hin := hidd ((HFi.out k hlt).2)
        have hAr : arcsAt S k = (S.getD k st0).2 := rfl
        rw [hAr] at Hin
        clear hAk hAr hBw
        generalize S.getD k st0 = s at s0 s1 HAk Hall Hs Hin
        obtain ⟨F, l⟩ := s
        dsimp only at s0 s1 HAk Hall Hs Hin
        have hll : l.length ≤ 256 := Hs.out.1
        obtain ⟨R, hR⟩ : ∃ R, 2 * l.length + (if F then 1 else 0) = R := ⟨_, rfl⟩
        rw [hR] at Hall
        have hR2 : R ≤ 513 := by rw [← hR]; split <;> omega
        have HD := hidd (fun (W : World) => doubled_any l.length F W (by omega) R hR)
        clear hR
        have HBq := hidd ((Below.refl wr.heap.size wr).alloc (Nat.le_refl _) (.cells #[.bool F, .slice ak l.length ck] 61))
        have HAp := hidd (appendInt_any w1.heap.size (preB S k).length (.slice av (preB S k).length cv) (preB S k) R (wr.alloc (.cells #[.bool F, .slice ak l.length ck] 61)) (by omega) rfl (by omega) (by simp; omega) (own_below HOw.out HBq.out))
        go_wp2_with (first
          | (go_at_call 44; refine (HD.out _).mono ?_; rintro e w' ⟨rfl, rfl⟩)
          | (go_at_call 43; refine HAp.out.mono ?_))
        rintro e w3 ⟨v3, rfl, hown3, hg3, hv3⟩
        have HBq2 := HBq.out
        have hSB := heap_alloc_new wr (.cells #[.bool F, .slice ak l.length ck] 61)
        have hov : ∀ b, (Value.slice av (preB S k).length cv).ownBlock = some b → w1.heap.size ≤ b ∧ ∃ cur, wr.heap[b]? = some (Obj.cells cur 5) := fun b hb => own_blk HOw.out hb
        have hSB3 : w3.heap[wr.heap.size]? = some (.cells #[.bool F, .slice ak l.length ck] 61) := (hg3.1.block wr.heap.size (by simp) (fun e => by
          obtain ⟨_, cur, hc⟩ := hov _ e.symm
          have := (Array.getElem?_eq_some_iff.1 hc).1
          omega)).trans hSB
        have HB3 : Hid (Below w1.heap.size w1 w3) := (HBe.out.trans (HBq2.mono hwz)).grown hg3.1 (by have := HBq2.size; omega) (fun b h => (hov b h).1)
        have HO3 : Hid (w3.ownsRow w1.heap.size 5 1 v3 (midB S k l R 0).length (Lib.byteCells (midB S k l R 0))) := by
          show World.ownsRow _ _ _ _ _ _ _
          rw [midB_zero, List.length_append]
          exact hown3
        have t1 := blkc hSB3 1
        clear hown3 hg3 hv3 HBq2 hSB hov hSB3 HAp HBq s0 s1 HD
        dsimp only
        go_wp2_with fail
        go_loopw [4, 35] (fun v jv wx => ∃ j : Nat, j ≤ l.length ∧ jv = .int .i64 (j : Int) ∧ wx.ownsRow w1.heap.size 5 1 v (midB S k l R j).length (Lib.byteCells (midB S k l R j)) ∧ Below w1.heap.size w1 wx) (fun _ jv _ => l.length - (intOf jv).toNat)
        case atStart => exact ⟨0, Nat.zero_le _, rfl, HO3.out, HB3.out⟩
        case round =>
          obtain ⟨j, hj, rfl, hown, hbel⟩ := hrel
          clear HO3 HB3 t1 HOw
          have HOj := hidd hown
          have HBj := hidd hbel
          obtain ⟨aj, cj, rfl⟩ := own_form hown
          clear hown hbel
          have hml := midB_len (k := k) HFi.out hlen.2 hll Hs.out.2 (n := R) (by omega) j
          have hjz2 := HBj.out.size
          by_cases hjl : j < l.length
          · have hjlz : (j : Int) < (l.length : Int) := by omega
            obtain ⟨gA, oA, rfl, hgA, hcA⟩ := HAk.out.resolve_left (fun h => by rw [h] at hjl; simp at hjl)
            obtain ⟨p0, p1, p2⟩ := hcA j hjl
            have hBw := HB1.out.trans (HBj.out.mono HB1.out.size)
            replace p0 := (hBw.cell (p := ⟨gA, oA + j * 3, none⟩) hgA).trans p0
            replace p1 := (hBw.cell (p := ⟨gA, oA + j * 3 + 1, none⟩) hgA).trans p1
            replace p2 := (hBw.cell (p := ⟨gA, oA + j * 3 + 2, none⟩) hgA).trans p2
            have Hst := hidd (midB_step (S := S) (k := k) (n := R) hjl)
            have Hx := hidd (Hin.out (l.getD j ar0) (by simp only [List.getD_eq_getElem?_getD, List.getElem?_eq_getElem hjl, Option.getD_some]; exact List.getElem_mem hjl))
            clear hcA hBw
            generalize l.getD j ar0 = x at p0 p1 p2 Hst Hx
            obtain ⟨x0, x1, x2⟩ := x
            obtain ⟨q0, q1, q2, q3⟩ := Hx.out
            dsimp only at p0 p1 p2 Hst q0 q1 q2 q3
            obtain ⟨lb, rfl⟩ : ∃ lb : Nat, x0 = (lb : Int) := ⟨x0.toNat, by omega⟩
            obtain ⟨to_, rfl⟩ : ∃ to_ : Nat, x1 = (to_ : Int) := ⟨x1.toNat, by omega⟩
            simp only [Int.toNat_natCast] at Hst q3
            have hlb : lb ≤ 255 := by omega
            have hwl : IntKind.u8.wrap (lb : Int) = (lb : Int) := u8_in_b (by omega)
            have hbn : (UInt8.ofNat lb).toNat = lb := by rw [UInt8.toNat_ofNat']; omega
            have HQ := hidd (heap_alloc_new wr (.cells #[.int .i64 (lb : Int), .int .i64 (to_ : Int), .int .i64 x2] 66))
            have HBq := hidd ((Below.refl wr.heap.size wr).alloc (Nat.le_refl _) (.cells #[.int .i64 (lb : Int), .int .i64 (to_ : Int), .int .i64 x2] 66))
            go_upto_region 11 with fail
            obtain ⟨Q, hQ⟩ : ∃ Q, wr.heap.size = Q := ⟨_, rfl⟩
            obtain ⟨wq, hwq⟩ : ∃ wq, wr.alloc (.cells #[.int .i64 (lb : Int), .int .i64 (to_ : Int), .int .i64 x2] 66) = wq := ⟨_, rfl⟩
            rw [hwq] at HQ HBq
            try rw [hwq]
            clear hwq
            have HOq := hidd (own_below HOj.out HBq.out)
            have HBw : Hid (Below w1.heap.size w1 wq) := HBj.out.trans (HBq.out.mono hjz2)
            have hqs := HBq.out.size
            have hQw : wr.heap.size < wq.heap.size := (Array.getElem?_eq_some_iff.1 HQ.out).1
            rw [hQ] at HQ hQw
            try rw [hQ]
            have e0 := blkc HQ.out 0
            have e1 := blkc HQ.out 1
            clear p0 p1 p2 HOj HBj hjz2 hQ HBq
            obtain ⟨M, hM⟩ : ∃ M, midB S k l R j = M := ⟨_, rfl⟩
            rw [hM] at HOq Hst hml
            try rw [hM]
            clear hM
            have HK : Hid (∀ (V w6 : World) (v : Value) (base : Nat) (n : Nat) (ys : List Value), V.heap[Q]? = some (.cells #[.int .i64 (lb : Int), .int .i64 (to_ : Int), .int .i64 x2] 66) → V.ownsRow base 5 1 v n ys → V.grownBy w6 v.ownBlock → w6.heap[Q]? = some (.cells #[.int .i64 (lb : Int), .int .i64 (to_ : Int), .int .i64 x2] 66)) := fun V w6 v base n ys hV ho hg => box_grown hV (Below.refl _ _) hg (fun e => by
              obtain ⟨_, cur, hc⟩ := own_blk ho e
              exact blk_ne hc hV (by decide) rfl)
            have HAp := hidd (fun (w6 : World) (g6 cp6 : Nat) (hb6 : Below w1.heap.size w1 w6) (ho : w6.ownsRow w1.heap.size 5 1 (.slice (some ⟨g6, 0, none⟩) (M.length + 1) cp6) (M.length + 1) (Lib.byteCells (M ++ [UInt8.ofNat lb]))) => appendInt_any w1.heap.size (M.length + 1) (.slice (some ⟨g6, 0, none⟩) (M.length + 1) cp6) (M ++ [UInt8.ofNat lb]) to_ w6 (by omega) (by simp) (by omega) hb6.size ho)
            have hB1 : Below wq.heap.size wq wq.drew := below_drewN (Below.refl _ wq) 1
            have HS1 : Hid (wq.drew.heap[Q]? = some (.cells #[.int .i64 (lb : Int), .int .i64 (to_ : Int), .int .i64 x2] 66)) := blko HQ.out hB1
            refine wp_region_held (S := fun W' => W'.heap[Q]? = some (.cells #[.int .i64 (lb : Int), .int .i64 (to_ : Int), .int .i64 x2] 66)) (by kernel_rfl) ?_
            try simp only [Act.put, List.getElem_toArray, List.getElem_cons_succ, List.getElem_cons_zero, List.setIfInBounds_toArray, List.set_cons_zero, List.set_cons_succ]
            refine wpAnyH_take (i := 0) (v := (.slice aj M.length cj)) rfl (by kernel_rfl) (by kernel_rfl) (by kernel_rfl) (fun _ _ _ h => h) (Or.inl ⟨by kernel_rfl, fun W hW => mkx_move W _ _ _ rfl _ (by kernel_rfl)⟩) HS1.out ?_
            try simp only [Act.put, List.getElem_toArray, List.getElem_cons_succ, List.getElem_cons_zero, List.setIfInBounds_toArray, List.set_cons_zero, List.set_cons_succ]
            refine wpAnyH_take (i := 1) (v := (.pointer (some ⟨Q, 0, none⟩))) rfl (by kernel_rfl) (by kernel_rfl) (by kernel_rfl) (fun _ _ _ h => h) (Or.inl ⟨by kernel_rfl, fun W hW => dbx_field0 W _ _ _ rfl Q (by kernel_rfl)⟩) HS1.out ?_
            try simp only [Act.put, List.getElem_toArray, List.getElem_cons_succ, List.getElem_cons_zero, List.setIfInBounds_toArray, List.set_cons_zero, List.set_cons_succ]
            refine wpAnyH_take (i := 2) (v := (.int .i64 (lb : Int))) rfl (by kernel_rfl) (by kernel_rfl) (by kernel_rfl) (fun _ _ _ h => h) (Or.inl ⟨by kernel_rfl, fun W hW => dbx_loadI W _ _ _ rfl Q 0 _ (by kernel_rfl) (blkc hW 0)⟩) HS1.out ?_
            try simp only [Act.put, List.getElem_toArray, List.getElem_cons_succ, List.getElem_cons_zero, List.setIfInBounds_toArray, List.set_cons_zero, List.set_cons_succ]
            refine wpAnyH_take (i := 3) (v := (.int .u8 (lb : Int))) rfl (by kernel_rfl) (by kernel_rfl) (by kernel_rfl) (fun _ _ _ h => h) (Or.inl ⟨by kernel_rfl, fun W hW => dbx_conv W _ _ _ rfl (lb : Int) hwl (by kernel_rfl)⟩) HS1.out ?_
            try simp only [Act.put, List.getElem_toArray, List.getElem_cons_succ, List.getElem_cons_zero, List.setIfInBounds_toArray, List.set_cons_zero, List.set_cons_succ]
            refine wpAnyH_take (i := 6) (v := (.pointer (some ⟨Q, 1, none⟩))) rfl (by kernel_rfl) (by kernel_rfl) (by kernel_rfl) (fun _ _ _ h => h) (Or.inl ⟨by kernel_rfl, fun W hW => dbx_field1 W _ _ _ rfl Q (by kernel_rfl)⟩) HS1.out ?_
            try simp only [Act.put, List.getElem_toArray, List.getElem_cons_succ, List.getElem_cons_zero, List.setIfInBounds_toArray, List.set_cons_zero, List.set_cons_succ]
            refine wpAnyH_take (i := 7) (v := (.int .i64 (to_ : Int))) rfl (by kernel_rfl) (by kernel_rfl) (by kernel_rfl) (fun _ _ _ h => h) (Or.inl ⟨by kernel_rfl, fun W hW => dbx_loadI W _ _ _ rfl Q 1 _ (by kernel_rfl) (blkc hW 1)⟩) HS1.out ?_
            try simp only [Act.put, List.getElem_toArray, List.getElem_cons_succ, List.getElem_cons_zero, List.setIfInBounds_toArray, List.set_cons_zero, List.set_cons_succ]
            have hB2 : Below wq.heap.size wq (wq.drew.alloc (.cells #[.int .u8 (lb : Int)] 5)) := hB1.alloc hB1.size _
            refine mkAny_one 4 (by kernel_rfl) ?_
            refine mkOp_val (.slice (some ⟨wq.drew.heap.size, 0, none⟩) 1 1) (wq.drew.alloc (.cells #[.int .u8 (lb : Int)] 5)) rfl (by kernel_rfl) (dbx_build _ _ _ _ rfl _ (by kernel_rfl)) ?_
            refine ⟨blko HQ.out hB2, ?_⟩
            try simp only [Act.put, List.getElem_toArray, List.getElem_cons_succ, List.getElem_cons_zero, List.setIfInBounds_toArray, List.set_cons_zero, List.set_cons_succ]
            refine mkAny_one 5 (by kernel_rfl) ?_
            refine mkOp_wp rfl (by kernel_rfl) (wp_append_lies _ (.tmp 39) (.tmp 43) 41 rfl w1.heap.size 5 i1 (.int .u8 0) 1 1 Try.underlying41 hi1 hy0 hy1 hy2 rfl (by decide) (.slice aj M.length cj) M.length (Lib.byteCells M) (by kernel_rfl) (own_below HOq.out hB2) ⟨wq.drew.heap.size, 0, none⟩ 1 1 [.int .u8 (lb : Int)] (by kernel_rfl) rfl (World.news_of_block (heap_alloc_new wq.drew _)) (by intro u' hu'; simp at hu'; subst hu'; rfl) (by omega) (by unfold maxLen; omega) (by omega) (by have := hB2.size; have := HBw.out.size; omega) _ rfl ?_)
            intro g6 cp6 w6 hown6 hgrow6 hat6 hlt6
            have hq6 := HK.out _ w6 _ w1.heap.size _ _ (blko HQ.out hB2) (own_below HOq.out hB2) hgrow6
            have HB6 : Hid (Below w1.heap.size w1 w6) := (HBw.out.trans (hB2.mono HBw.out.size)).grown hgrow6 (by have := hB2.size; have := HBw.out.size; omega) (fun b h => (own_blk HOq.out h).1)
            have HO6 : Hid (w6.ownsRow w1.heap.size 5 1 (.slice (some ⟨g6, 0, none⟩) (M.length + 1) cp6) (M.length + 1) (Lib.byteCells (M ++ [UInt8.ofNat lb]))) := by
              show World.ownsRow _ _ _ _ _ _ _
              rw [byteCells_snoc, hbn]
              exact hown6
            clear hown6 hgrow6 hat6 hlt6
            refine ⟨hq6, ?_⟩
            try simp only [Act.put, List.getElem_toArray, List.getElem_cons_succ, List.getElem_cons_zero, List.setIfInBounds_toArray, List.set_cons_zero, List.set_cons_succ]
            refine mkAny_one 8 (by kernel_rfl) ?_
            refine mkOp_call 43 #[.slice (some ⟨g6, 0, none⟩) (M.length + 1) cp6, .int .i64 (to_ : Int)] rfl (by kernel_rfl) (dbx_call2 _ _ _ _ _ _ _ _ rfl _ _ (by kernel_rfl) (by kernel_rfl) (Try.call43 _ _)) ?_
            refine (HAp.out _ _ _ HB6.out HO6.out).mono ?_
            rintro e w7 ⟨v7, rfl, hown7, hg7, hv7⟩
            have hq7 := HK.out _ w7 _ w1.heap.size _ _ hq6 HO6.out hg7.1
            have HB7 : Hid (Below w1.heap.size w1 w7) := HB6.out.grown hg7.1 HB6.out.size (fun b h => (own_blk HO6.out h).1)
            have HO7 := hidd hown7
            clear hown7 hg7 hv7
            refine ⟨hq7, ?_⟩
            try simp only [Act.put, List.getElem_toArray, List.getElem_cons_succ, List.getElem_cons_zero, List.setIfInBounds_toArray, List.set_cons_zero, List.set_cons_succ]
            refine wpAnyH_take (i := 9) (v := v7) rfl (by kernel_rfl) (by kernel_rfl) (by kernel_rfl) (fun _ _ _ h => h) (Or.inl ⟨by kernel_rfl, fun W hW => dbx_assign W _ _ _ rfl _ (by kernel_rfl)⟩) hq7 ?_
            try simp only [Act.put, List.getElem_toArray, List.getElem_cons_succ, List.getElem_cons_zero, List.setIfInBounds_toArray, List.set_cons_zero, List.set_cons_succ]
            refine wpAnyH_done (by kernel_rfl) ?_ _
            clear e0 e1 hq6 hq7
            go_wp2_with fail
            go_roundw
            case rel => exact ⟨j + 1, by omega, by go_num, by rw [Hst.out, List.length_append, List.length_append, List.length_singleton]; exact HO7.out, HB7.out⟩
            case measure => simp [intOf]; omega
          · have hjlz : ¬ (j : Int) < (l.length : Int) := by omega
            obtain rfl : j = l.length := by omega
            go_wp2_with fail
            go_roundw
            case rel => exact ⟨k + 1, by omega, by go_num, by rw [← Hall.out]; exact HOj.out, HBj.out⟩
            case measure => simp [intOf]; omega
      · have hltz : ¬ (k : Int) < (S.length : Int) := by omega
        obtain rfl : k = S.length := by omega
        rw [preB_all] at HOw hpl
        try rw [preB_all]
        have hpos : 0 < (dB S).length := by
          have := putL_pos S.length
          simp only [dB, List.length_append]; omega
        rcases own_cases HOw.out with ⟨_, h0⟩ | ⟨g, c', e1, hgb, hg⟩
        · omega
        simp only [Value.slice.injEq, true_and] at e1
        obtain ⟨rfl, rfl⟩ := e1
        have HSu := hidd (sumBytes_any g 0 cv (dB S) wr (own_bytes HOw.out rfl) hg)
        have hsl := sumL_lt (dB S)
        have HBD : Hid (bytesD S = dB S ++ four (sumL (dB S))) := rfl
        obtain ⟨n, hn2⟩ : ∃ n, sumL (dB S) = n := ⟨_, rfl⟩
        rw [hn2] at HSu hsl HBD
        clear hn2
        obtain ⟨M, hM⟩ : ∃ M, dB S = M := ⟨_, rfl⟩
        rw [hM] at HOw hpl hpos HSu HBD
        try rw [hM]
        clear hM
        go_wp2_with fail
        refine HSu.out.mono ?_
        rintro e w4 ⟨rfl, hb4⟩
        have HO4 := hidd (own_below HOw.out hb4)
        have HB4 := hidd (HBe.out.trans (hb4.mono hwz))
        have hz4 := HB4.out.size
        clear hb4 HSu HOw
        dsimp only
        go_wp2_with (at_builtin; refine wpList_append_lies _ rfl (.tmp 52) (.tmp 53) 41 rfl w1.heap.size 5 i1 (.int .u8 0) 1 1 Try.underlying41 hi1 hy0 hy1 hy2 rfl (by decide) (.slice (some ⟨g, 0, none⟩) M.length cv) M.length (Lib.byteCells M) rfl (HO4.out.alloc _) ⟨w4.heap.size, 0, none⟩ 4 4 [.int .u8 ((n : Int) / 16777216), .int .u8 ((n : Int) / 65536 % 256), .int .u8 ((n : Int) / 256 % 256), .int .u8 ((n : Int) % 256)] rfl rfl (World.news_of_block (heap_alloc_new w4 _)) (by intro u' hu'; simp at hu'; rcases hu' with rfl | rfl | rfl | rfl <;> rfl) (by decide) ?d3 ?d4 ?d5 _ rfl ?_)
        case d3 => unfold maxLen; omega
        case d4 => omega
        case d5 => simp; omega
        intro g6 cp6 w6 hown6 hgrow6 hat6 hlt6
        have HB6 : Hid (Below w.heap.size w w6) := ((HB1.out.trans (HB4.out.mono HB1.out.size)).alloc (by omega) _).grown hgrow6 (by simp; omega) (fun b h => by have := (own_blk HO4.out h).1; omega)
        have HO6 : Hid (w6.ownsRow w1.heap.size 5 1 (.slice (some ⟨g6, 0, none⟩) (M.length + 4) cp6) (M.length + 4) (Lib.byteCells (M ++ four n))) := by
          show World.ownsRow _ _ _ _ _ _ _
          rw [four_cells n hsl]
          exact hown6
        clear hown6 hgrow6 hat6 hlt6
        go_wp2_with fail
        go_ret2
        refine ⟨_, by rw [HO.out]; rfl, ?_, HB6.out⟩
        rw [HO.out]
        show World.ownsRow _ _ _ _ _ (bytesD S).length (Lib.byteCells (bytesD S))
        rw [HBD.out, List.length_append]
        exact own_mono HO6.out (by omega)
  · rw [hok]
    have HO : Hid (bytesO S (dictT c S) = ([], 1)) := by show _ = _; rw [dictT_none hno]; rfl
    clear hok hno
    go_wp2_with fail
    go_ret2
    exact ⟨_, by rw [HO.out]; rfl, by rw [HO.out]; exact World.ownsRow_nil _ _ _ _, HB1.out⟩
end Go.Proofs.Ytanolccfmpbjgal
