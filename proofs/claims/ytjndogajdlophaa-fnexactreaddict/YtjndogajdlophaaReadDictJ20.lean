import Derived.Test.YtjndogajdlophaaReadDictJ18
import Derived.Test.YtjndogajdlophaaReadDictJ19
import Derived.Test.YtjndogajdlophaaReadDictJ12
namespace Go.Proofs.Ytjndogajdlophaa
open Go Go.RowKit
set_option linter.unusedVariables false
set_option maxRecDepth 100000

theorem convR_own {w : World} {base n : Nat} {v : Value} {bs : List UInt8} (h : w.ownsRow base 5 1 v n (Lib.byteCells bs)) (hl : bs.length = n) :
    (convert 34 9 v).run Try.prog w = .ok (.string ⟨bs.toArray⟩) w := by
  rcases own_cases h with ⟨rfl, rfl⟩ | ⟨g, cp, rfl, _, _⟩
  · have : bs = [] := List.length_eq_zero_iff.1 hl
    subst this
    exact run_convert_bytes_nil w 34 5 Try.underlying34 Try.underlying5 0 0 9 Try.underlying9
  · subst hl
    refine run_convert_bytes_back w 34 9 5 ⟨g, 0, none⟩ cp bs Try.underlying34 Try.underlying5 Try.underlying9 fun j hj => ?_
    have := own_bytes h rfl j hj
    rw [show (⟨g, 0, none⟩ : Addr).add j = ⟨g, 0 + j, none⟩ from by simp only [Addr.add]; split <;> simp_all]
    simpa [hj] using this
set_option maxHeartbeats 16000000 in
theorem specRead_any (hmake : ∀ (base bm bb : Nat) (aT : Option Addr) (cT : Nat) (ts : List Tx) (f : Nat), MakeC base bm bb aT cT ts (f + 1)) : ReadC 11 := by
  intro b off cap bs w hlen hcap hc hb
  have HMk := hidd hmake
  have Hc := hidd hc
  clear hmake hc
  have HBa : Hid (Below w.heap.size w (w.alloc (.cells #[.int .i64 0, .slice none 0 0] 30))) := (Below.refl _ _).alloc (Nat.le_refl _) _
  have HX0 := hidd (heap_alloc_new w (.cells #[.int .i64 0, .slice none 0 0] 30))
  go_enter Try.func11, Try.ntmps11
  go_upto_region 1 with fail
  obtain ⟨wa, hwa⟩ : ∃ wa, w.alloc (.cells #[.int .i64 0, .slice none 0 0] 30) = wa := ⟨_, rfl⟩
  rw [hwa] at HBa HX0
  try rw [hwa]
  clear hwa
  by_cases hl : 1048576 < bs.length
  · have hlz : (bs.length : Int) > 1048576 := by omega
    have HO := hidd (readO_long hl)
    have x0 := blkc HX0.out 0
    have x1 := blkc HX0.out 1
    have f0 := blkf HX0.out 0
    have f1 := blkf HX0.out 1
    have HR := hidd (box_ret (x' := .int .i64 0) (y' := .slice none 0 0) HBa.out HX0.out)
    have z0 := blkc HR.out.2 0
    have z1 := blkc HR.out.2 1
    go_wp2_with fail
    refine bodyPost_ret (v := .tuple #[.agg #[.int .i64 0, .slice none 0 0], .int .i64 2]) (by simp [results, Try.results11, go_sem, z0, z1]) rfl ?_
    first
      | (refine ⟨none, 0, by rw [HO.out]; rfl, ?_, HR.out.1⟩; rw [HO.out]; exact Or.inl rfl)
      | (refine ⟨none, ⟨0, by rw [HO.out]; rfl⟩, ?_, HR.out.1⟩; rw [HO.out]; exact Or.inl rfl)
  have hlz : ¬ (bs.length : Int) > 1048576 := by omega
  have HPa := hidd (parse_any b off cap bs wa (by omega) (Hc.out.below HBa.out) (Nat.lt_of_lt_of_le hb HBa.out.size))
  go_wp2_with fail
  refine HPa.out.mono ?_
  rintro e w1 ⟨hb1, hcs⟩
  have HB1 := hidd (HBa.out.trans (hb1.mono HBa.out.size))
  have HX1 := hidd (blko HX0.out hb1)
  clear hb1 HPa HX0
  rcases hcs with ⟨hno, av, nv, cv, rfl⟩ | ⟨S, a, c, hrd, rfl, hS⟩
  · have HO := hidd (readO_none hl (readD_spec_none hno))
    have HBx := hidd ((Below.refl w1.heap.size w1).alloc (Nat.le_refl _) (.cells #[.int .i64 0, .slice av nv cv] 30))
    clear hno
    dsimp only
    go_upto_region 4 with fail
    obtain ⟨w2, hw2⟩ : ∃ w2, w1.alloc (.cells #[.int .i64 0, .slice av nv cv] 30) = w2 := ⟨_, rfl⟩
    rw [hw2] at HBx
    try rw [hw2]
    clear hw2
    have HB2 := hidd (HB1.out.trans (HBx.out.mono HB1.out.size))
    have HX2 := hidd (blko HX1.out HBx.out)
    clear HB1 HX1 HBx
    have x0 := blkc HX2.out 0
    have x1 := blkc HX2.out 1
    have f0 := blkf HX2.out 0
    have f1 := blkf HX2.out 1
    have HR := hidd (box_ret (x' := .int .i64 0) (y' := .slice none 0 0) HB2.out HX2.out)
    have z0 := blkc HR.out.2 0
    have z1 := blkc HR.out.2 1
    go_wp2_with fail
    refine bodyPost_ret (v := .tuple #[.agg #[.int .i64 0, .slice none 0 0], .int .i64 15]) (by simp [results, Try.results11, go_sem, z0, z1]) rfl ?_
    first
      | (refine ⟨none, 0, by rw [HO.out]; rfl, ?_, HR.out.1⟩; rw [HO.out]; exact Or.inl rfl)
      | (refine ⟨none, ⟨0, by rw [HO.out]; rfl⟩, ?_, HR.out.1⟩; rw [HO.out]; exact Or.inl rfl)
  · have HBx := hidd ((Below.refl w1.heap.size w1).alloc (Nat.le_refl _) (.cells #[.int .i64 0, .slice a S.length c] 30))
    have Hd2 := hidd (heap_alloc_new w1 (.cells #[.int .i64 0, .slice a S.length c] 30))
    obtain ⟨hinv1, hinv2, hinv3, hinv4, hinv5⟩ := rdP_inv hrd
    have HRd := hidd hrd
    have HS1 := hidd hS
    dsimp only
    go_upto_region 4 with fail
    obtain ⟨w2, hw2⟩ : ∃ w2, w1.alloc (.cells #[.int .i64 0, .slice a S.length c] 30) = w2 := ⟨_, rfl⟩
    rw [hw2] at HBx Hd2
    try rw [hw2]
    clear hw2
    have HB2 := hidd (HB1.out.trans (HBx.out.mono HB1.out.size))
    have HX2 := hidd (blko HX1.out HBx.out)
    have HS2 := hidd (HS1.out.below HBx.out)
    have hdb : w1.heap.size < w2.heap.size := (Array.getElem?_eq_some_iff.1 Hd2.out).1
    have hwd : w.heap.size < w1.heap.size := (Array.getElem?_eq_some_iff.1 HX1.out).1
    clear HB1 HX1 HBx hrd hS HS1
    have y0 := blkc Hd2.out 0
    have y1 := blkc Hd2.out 1
    have HB3 := hidd ((Below.refl w2.heap.size w2).alloc (Nat.le_refl _) (.cells #[] 9))
    by_cases hone : 1 < S.length
    · have honez : (S.length : Int) > 1 := by omega
      obtain ⟨gS, oS, rfl, hgS, hcS⟩ := HS2.out.resolve_left (fun h => by rw [h] at hone; simp at hone)
      clear hcS
      have HFi := hidd (fine_of hinv3)
      have HAl : Hid (∀ i, (arcsAt S i).length ≤ 1048576) := fun i => by
        by_cases hi : i < S.length
        · have := (HFi.out i hi).1; omega
        · have : arcsAt S i = [] := by
            unfold arcsAt
            rw [List.getD_eq_getElem?_getD, List.getElem?_eq_none (by omega)]; rfl
          rw [this]; simp
      go_upto_region 8 with fail
      obtain ⟨w3, hw3⟩ : ∃ w3, w2.alloc (.cells #[] 9) = w3 := ⟨_, rfl⟩
      have HE3 : Hid (w3.heap[w2.heap.size]? = some (.cells #[] 9)) := by show _ = _; rw [← hw3]; exact heap_alloc_new w2 _
      rw [hw3] at HB3
      try rw [hw3]
      clear hw3
      have hz3 : w2.heap.size < w3.heap.size := (Array.getElem?_eq_some_iff.1 HE3.out).1
      have Hd3 := hidd (blko Hd2.out HB3.out)
      have HX3 := hidd (blko HX2.out HB3.out)
      replace y0 := blkc Hd3.out 0
      replace y1 := blkc Hd3.out 1
      clear Hd2 HX2
      obtain ⟨i1, hi1, hy0, hy1, hy2⟩ := info_parts Try.infoIn
      go_wp2_with (at_make; refine wpList_make_full _ rfl _ _ 71 rfl w3.heap.size 3 i1 (.int .i64 0) 1 Try.underlying71 hi1 hy0 hy1 _ _ _ _ S.length rfl rfl (by omega) (by omega) ?b2 ?b3 (Nat.le_refl _) ?_)
      case b2 => first | omega | (rw [hy2]; omega)
      case b3 => unfold maxLen; omega
      intro wm hown3 hgrow3
      have HO0 : Hid (wm.ownsRow w3.heap.size 3 1 (.slice (some ⟨w3.heap.size, 0, none⟩) S.length S.length) S.length (rowZ (fillZ 0) S.length)) := by
        have e0 : (madeCells #[Value.int .i64 0] S.length).toList = List.replicate S.length (Value.int .i64 0) := toList_madeCells_one _ _
        rw [e0] at hown3
        show World.ownsRow _ _ _ _ _ _ _
        rw [fillZ_zero]
        exact hown3
      have HBm : Hid (Below w3.heap.size w3 wm) := (Below.refl _ _).grown hgrow3 (Nat.le_refl _) (fun k h => by cases h)
      clear hown3 hgrow3
      go_wp2
      go_loopw [8] (fun kv wr => ∃ k : Nat, k ≤ S.length ∧ kv = .int .i64 (k : Int) ∧ wr.ownsRow w3.heap.size 3 1 (.slice (some ⟨w3.heap.size, 0, none⟩) S.length S.length) S.length (rowZ (fillZ k) S.length) ∧ Below w3.heap.size w3 wr) (fun kv _ => S.length - (intOf kv).toNat)
      case atStart => exact ⟨0, Nat.zero_le _, rfl, HO0.out, HBm.out⟩
      case round =>
        obtain ⟨k, hk, rfl, hown, hbel⟩ := hrel
        clear HO0 HBm
        have HO := hidd hown
        have HB := hidd hbel
        clear hown hbel
        by_cases hlt : k < S.length
        · have hltz : (k : Int) < (S.length : Int) := by omega
          have f1 := HO.out.frozenAt k
          have c1 := (HO.out.cellAt k (by omega)).trans (rowZ_at (fillZ k) hlt)
          have st := hidd (HO.out.stored k (.int .i64 (-1)))
          have Hst := hidd ((rowZ_set (fillZ k) S.length k (-1)).trans (fillZ_step k S.length))
          clear HO
          go_wp2
          go_roundw
          case rel =>
            have h := st.out.1
            rw [Hst.out] at h
            exact ⟨k + 1, by omega, by go_num, h, HB.out.setCell (p := ⟨w3.heap.size, k, none⟩) (Nat.le_refl _) _⟩
          case measure => simp [intOf]; omega
        · have hltz : ¬ (k : Int) < (S.length : Int) := by omega
          obtain rfl : k = S.length := by omega
          have HB23 : Hid (Below w2.heap.size w2 wr) := HB3.out.trans (HB.out.mono HB3.out.size)
          have HCn : Hid (CntAt w2 wr w3.heap.size (some ⟨gS, oS, none⟩) S (List.replicate S.length (-1))) := ⟨HB23.out, HS2.out, doneRow HO.out, by omega⟩
          have Hdr := hidd (blko Hd3.out HB.out)
          have HXr := hidd (blko HX3.out HB.out)
          have HEr := hidd (blko HE3.out HB.out)
          have d0 := blkc Hdr.out 0
          have d1 := blkc Hdr.out 1
          have hzr : w3.heap.size < wr.heap.size := (Array.getElem?_eq_some_iff.1 HCn.out.row).1
          have HCall := hidd (count_any (w0 := w2) (bd := w3.heap.size) (aS := some ⟨gS, oS, none⟩) (cS := c) (c := 0) (S := S) hinv2 HAl.out 65 0 rfl 0 wr _ _ _ (by omega) HCn.out (cnt_start S))
          clear HO HB y0 y1
          go_wp2_with fail
          refine HCall.out.mono ?_
          rintro e w5 ⟨x, D, ρ, M, rfl, hcnt, hfr, hok, hx0, hx1, hxv, _, _, _, hsay⟩
          have HSay : Hid (CntSays S x) := fun e g hs hf hd => (hsay e g hs hf (agree_start S e) (fun j _ h => by rw [valD_none] at h; omega) (by omega)).1
          have HB5 := hidd hcnt.old
          have Hd5 : Hid (w5.heap[w1.heap.size]? = some (.cells #[.int .i64 0, .slice (some ⟨gS, oS, none⟩) S.length c] 30)) := (hfr.block w1.heap.size (by omega) (by omega) (by omega)).trans Hdr.out
          have HX5 : Hid (w5.heap[w.heap.size]? = some (.cells #[.int .i64 0, .slice none 0 0] 30)) := (hfr.block w.heap.size (by omega) (by omega) (by omega)).trans HXr.out
          have HE5 : Hid (w5.heap[w2.heap.size]? = some (.cells #[] 9)) := (hfr.block w2.heap.size (by omega) (by omega) (by omega)).trans HEr.out
          have HOk := hidd hok.rank
          have HXv := hidd hxv
          have HBw5 := hidd (HB2.out.trans (HB5.out.mono HB2.out.size))
          clear hcnt hfr hok hxv hsay HCall HCn Hdr HXr HEr d0 d1 HB23 Hd3 HX3 HE3
          dsimp only
          have e0 := blkc Hd5.out 0
          have e1 := blkc Hd5.out 1
          by_cases hbad : x = 0 ∨ 4096 < x
          · have HO := hidd (readO_none hl (readD_count HRd.out hone HSay.out hbad))
            have hxb : (x == 0) = true ∨ ((x == 0) = false ∧ x > 4096) := by
              rcases hbad with h | h
              · left; simp [h]
              · right; exact ⟨beq_false_of_ne (by omega), h⟩
            clear hbad
            rcases hxb with hxb | ⟨hxb, hxc⟩
            · have x0 := blkc HX5.out 0
              have x1 := blkc HX5.out 1
              have f0 := blkf HX5.out 0
              have f1 := blkf HX5.out 1
              have HR := hidd (box_ret (x' := .int .i64 0) (y' := .slice none 0 0) HBw5.out HX5.out)
              have z0 := blkc HR.out.2 0
              have z1 := blkc HR.out.2 1
              go_wp2_with fail
              refine bodyPost_ret (v := .tuple #[.agg #[.int .i64 0, .slice none 0 0], .int .i64 15]) (by simp [results, Try.results11, go_sem, z0, z1]) rfl ?_
              first
                | (refine ⟨none, 0, by rw [HO.out]; rfl, ?_, HR.out.1⟩; rw [HO.out]; exact Or.inl rfl)
                | (refine ⟨none, ⟨0, by rw [HO.out]; rfl⟩, ?_, HR.out.1⟩; rw [HO.out]; exact Or.inl rfl)
            · have x0 := blkc HX5.out 0
              have x1 := blkc HX5.out 1
              have f0 := blkf HX5.out 0
              have f1 := blkf HX5.out 1
              have HR := hidd (box_ret (x' := .int .i64 0) (y' := .slice none 0 0) HBw5.out HX5.out)
              have z0 := blkc HR.out.2 0
              have z1 := blkc HR.out.2 1
              go_wp2_with fail
              refine bodyPost_ret (v := .tuple #[.agg #[.int .i64 0, .slice none 0 0], .int .i64 15]) (by simp [results, Try.results11, go_sem, z0, z1]) rfl ?_
              first
                | (refine ⟨none, 0, by rw [HO.out]; rfl, ?_, HR.out.1⟩; rw [HO.out]; exact Or.inl rfl)
                | (refine ⟨none, ⟨0, by rw [HO.out]; rfl⟩, ?_, HR.out.1⟩; rw [HO.out]; exact Or.inl rfl)
          · have hxp1 : 0 < x := by
              have : x ≠ 0 := fun e => hbad (Or.inl e)
              omega
            have hxp2 : x ≤ 4096 := Int.not_lt.1 fun e => hbad (Or.inr e)
            have hxb : (x == 0) = false := beq_false_of_ne (by omega)
            have hxc : ¬ x > 4096 := by omega
            clear hbad
            have hv0 : valD D 0 = x := HXv.out hxp1
            have hr0 := HOk.out.top 0 (by omega) (by omega)
            obtain ⟨f, hf⟩ : ∃ f, S.length + 66 = f := ⟨_, rfl⟩
            have hcl := HOk.out.count_len f 0 (by omega) (by omega) (by omega) (by omega)
            obtain ⟨L, hL⟩ : ∃ L, langF S f 0 = L := ⟨_, rfl⟩
            rw [hL] at hcl
            have hLl : L.length ≤ 4096 := by omega
            have HBt : Hid (Below w2.heap.size w2 (w5.alloc (.cells #[] 5))) := HB5.out.alloc HB5.out.size _
            have hbw := HB5.out.size
            have hE5 : w2.heap.size < w5.heap.size := (Array.getElem?_eq_some_iff.1 HE5.out).1
            have HOw : Hid ((w5.alloc (.cells #[] 5)).ownsRow w2.heap.size 9 1 (.slice (some ⟨w2.heap.size, 0, none⟩) 0 0) 0 (tCells [])) := ⟨by simp [tCells], .inr ⟨w2.heap.size, 0, #[], rfl, Nat.le_refl _, (Below.heap_alloc _ _ _ hE5).trans HE5.out, Nat.le_refl _, by unfold maxLen; omega, rfl, by simp [tCells]⟩⟩
            have HCt := hidd (terms_any (w0 := w2) (aS := some ⟨gS, oS, none⟩) (cS := c) (c := 0) hinv2 HS2.out HOk.out f 0 w5.heap.size 0 [] [] (.slice (some ⟨w2.heap.size, 0, none⟩) 0 0) (w5.alloc (.cells #[] 5)) (by omega) (by omega) (by omega) HBt.out (fun t ht => by simp at ht) (by simp) (by simp; omega) HOw.out (by simp) (by simp [Value.ownBlock]; omega) (by rw [hL]; simpa using hLl))
            have eL : ([] : List Tx) ++ L.map (([] : Tx) ++ ·) = L := by simp
            rw [hL, eL] at HCt
            have HBl := hidd (fun (ord : List (List Tx)) (ho : IsBfs nextT L ord) (hn : ord.length ≤ 300000) (hg : GoodT L) => readD_build HRd.out (f := f) (by omega) hL hg ho hn)
            have HBad : Hid (¬ GoodT L → readO bs = ((0, []), 15)) := fun h => readO_none hl (readD_bad HRd.out (f := f) (by omega) (by rw [hL]; exact h))
            have Hd6 := hidd (blko Hd5.out ((Below.refl w5.heap.size w5).alloc (Nat.le_refl _) (.cells #[] 5)))
            have HX6 := hidd (blko HX5.out ((Below.refl w5.heap.size w5).alloc (Nat.le_refl _) (.cells #[] 5)))
            have HBx6 := hidd (HBw5.out.alloc HBw5.out.size (.cells #[] 5))
            clear hL hf eL hcl hv0 hr0 HXv HSay HOw HBt HE5 HOk
            go_wp2_with fail
            refine HCt.out.mono ?_
            rintro e w4 ⟨v, rfl, hown4, hv4, hgr4⟩
            obtain ⟨gT, cT, rfl, hgTb, hgT⟩ := (own_cases hown4).resolve_left (fun h => hv4 h.1)
            have HO4 := hidd hown4
            have HB4 : Hid (Below w.heap.size w w4) := HBx6.out.grown hgr4.1 HBx6.out.size (fun k h => by simp [Value.ownBlock] at h; omega)
            have HX4 : Hid (w4.heap[w.heap.size]? = some (.cells #[.int .i64 0, .slice none 0 0] 30)) := (hgr4.1.block w.heap.size (by simp; omega) (fun h => by simp [Value.ownBlock] at h; omega)).trans HX6.out
            clear hown4 hv4 hgr4 HCt Hd6 HX6 HBx6 Hd5 HX5 e0 e1
            have HTx : Hid (∀ j, j < L.length → w4.cell? ⟨gT, j, none⟩ = some (.string ⟨(L.getD j []).toArray⟩)) := fun j hj => (HO4.out.cellAt j (by omega)).trans (by simp [tCells, txV, hj])
            dsimp only
            go_wp2_with fail
            go_loopw [10] (fun kv wr => ∃ (i q : Nat), i ≤ L.length ∧ kv = .int .i64 (i : Int) ∧ upG L i ∧ wr = w4.drewN q) (fun kv _ => L.length - (intOf kv).toNat)
            case atStart => exact ⟨0, 0, Nat.zero_le _, rfl, upG_zero L, rfl⟩
            case round =>
              obtain ⟨i, q, hi, rfl, hup, hwr⟩ := hrel
              have HUp := hidd hup
              clear hup
              by_cases hlt : i < L.length
              · subst hwr
                have hltz : (i : Int) < (L.length : Int) := by omega
                have t1 := HTx.out i hlt
                obtain ⟨ti, hti⟩ : ∃ ti, L.getD i [] = ti := ⟨_, rfl⟩
                rw [hti] at t1
                have Hti := hidd hti
                have hsl : (⟨ti.toArray⟩ : ByteArray).size = ti.length := by rw [Lib.size_eq]
                clear hti
                go_wp2_with fail
                go_cut [91] (fun cv wy => ∃ T : Bool, cv = .bool T ∧ (T = true ↔ ¬ (1 ≤ ti.length ∧ ti.length ≤ 64 ∧ (0 < i → ltT (L.getD (i - 1) []) ti = true))) ∧ ∃ q', wy = w4.drewN q')
                case first =>
                  by_cases g0 : ti.length < 1
                  · have g0z : (ti.length : Int) < 1 := by omega
                    go_quiet (fail)
                    go_wp2_with fail
                    go_meet
                    case rel => exact ⟨true, rfl, ⟨fun _ h => by omega, fun _ => rfl⟩, q + nq, by first | rfl | simp [World.drewN, Nat.add_assoc]⟩
                  · have g0z : ¬ (ti.length : Int) < 1 := by omega
                    by_cases g1 : 64 < ti.length
                    · have g1z : (ti.length : Int) > 64 := by omega
                      go_quiet (fail)
                      go_wp2_with fail
                      go_meet
                      case rel => exact ⟨true, rfl, ⟨fun _ h => by omega, fun _ => rfl⟩, q + nq, by first | rfl | simp [World.drewN, Nat.add_assoc]⟩
                    · have g1z : ¬ (ti.length : Int) > 64 := by omega
                      by_cases g2 : i = 0
                      · have g2z : ¬ (0 < i) := by omega
                        have G2 := hidd g2
                        clear g2
                        go_quiet (fail)
                        go_wp2_with fail
                        go_meet
                        case rel => exact ⟨false, rfl, ⟨fun h => (by cases h), fun h => absurd ⟨by omega, by omega, fun h => (by have := G2.out; omega)⟩ h⟩, q + nq, by first | rfl | simp [World.drewN, Nat.add_assoc]⟩
                      · have g2z : 0 < i := by omega
                        have t2 := HTx.out (i - 1) (by omega)
                        obtain ⟨tp, htp⟩ : ∃ tp, L.getD (i - 1) [] = tp := ⟨_, rfl⟩
                        rw [htp] at t2
                        have Htp := hidd htp
                        have hpn : ((i : Int) - 1).toNat = i - 1 := by omega
                        have hp0 : ¬ ((i : Int) - 1 < 0) := by omega
                        have hp1 : (i : Int) - 1 < (L.length : Int) := by omega
                        clear htp g2
                        go_quiet (fail)
                        go_wp2_with fail
                        go_meet
                        case rel =>
                          refine ⟨_, rfl, ?_, q + nq, by first | rfl | simp [World.drewN, Nat.add_assoc]⟩
                          rw [le_lt, Htp.out]
                          cases h5 : ltT tp ti
                          · simp [g2z]
                          · simp [g2z]
                            omega
                case rest =>
                  obtain ⟨T, rfl, hT, q', hwy⟩ := hcut
                  have HT := hidd hT
                  clear hT
                  cases T with
                  | true =>
                    have HO : Hid (readO bs = ((0, []), 15)) := HBad.out fun h => by
                      have h2 := good_upG h
                      refine HT.out.1 rfl ?_
                      rw [← Hti.out]
                      exact ⟨h2.2 i hlt, h2.1.1 i hlt, fun h0 => h2.1.2 i h0 hlt⟩
                    have HBy : Hid (Below w.heap.size w wc) := by show Below _ _ _; rw [hwy]; exact below_drewN HB4.out q'
                    have HXy : Hid (wc.heap[w.heap.size]? = some (.cells #[.int .i64 0, .slice none 0 0] 30)) := by show _ = _; rw [hwy]; exact blko HX4.out (below_drewN (Below.refl _ _) q')
                    clear hwy
                    have x0 := blkc HXy.out 0
                    have x1 := blkc HXy.out 1
                    have f0 := blkf HXy.out 0
                    have f1 := blkf HXy.out 1
                    have HR := hidd (box_ret (x' := .int .i64 0) (y' := .slice none 0 0) HBy.out HXy.out)
                    have z0 := blkc HR.out.2 0
                    have z1 := blkc HR.out.2 1
                    go_wp2_with fail
                    refine bodyPost_ret (v := .tuple #[.agg #[.int .i64 0, .slice none 0 0], .int .i64 15]) (by simp [results, Try.results11, go_sem, z0, z1]) rfl ?_
                    first
                      | (refine ⟨none, 0, by rw [HO.out]; rfl, ?_, HR.out.1⟩; rw [HO.out]; exact Or.inl rfl)
                      | (refine ⟨none, ⟨0, by rw [HO.out]; rfl⟩, ?_, HR.out.1⟩; rw [HO.out]; exact Or.inl rfl)
                  | false =>
                    have HU2 : Hid (upG L (i + 1)) := by
                      have h5 : 1 ≤ ti.length ∧ ti.length ≤ 64 ∧ (0 < i → ltT (L.getD (i - 1) []) ti = true) := Classical.byContradiction fun h => by have := HT.out.2 h; cases this
                      rw [← Hti.out] at h5
                      exact upG_step HUp.out h5.1 h5.2.1 h5.2.2
                    go_wp2_with fail
                    go_roundw
                    case rel => exact ⟨i + 1, q', by omega, by go_num, HU2.out, by first | exact hwy | rfl⟩
                    case measure => simp [intOf]; omega
              · have hltz : ¬ (i : Int) < (L.length : Int) := by omega
                obtain rfl : i = L.length := by omega
                have HG := hidd (upG_good HUp.out hLl)
                have HBl := hidd (fun (ord : List (List Tx)) (ho : IsBfs nextT L ord) (hn : ord.length ≤ 300000) => HBl.out ord ho hn HG.out)
                have HBq : Hid (Below w.heap.size w wr) := by show Below _ _ _; rw [hwr]; exact below_drewN HB4.out q
                have HXq : Hid (wr.heap[w.heap.size]? = some (.cells #[.int .i64 0, .slice none 0 0] 30)) := by show _ = _; rw [hwr]; exact blko HX4.out (below_drewN (Below.refl _ _) q)
                have HBd : Hid (Calls Try.prog 36 #[.slice (some ⟨gT, 0, none⟩) L.length cT] wr fun e w' => BuildPost L wr e w') := by
                  have hb4 : Below w4.heap.size w4 wr := by rw [hwr]; exact below_drewN (Below.refl _ _) q
                  refine build_any HMk.out L _ _ wr hLl HG.out.1 (fun t ht => (HG.out.2.2 t ht).2) (Or.inr ⟨gT, 0, rfl, Nat.lt_of_lt_of_le hgT hb4.size, fun j hj => ?_⟩)
                  rw [Nat.zero_add]
                  exact (hb4.cell (p := ⟨gT, j, none⟩) hgT).trans (HTx.out j hj)
                clear hwr HB4 HX4 HTx HO4
                go_wp2_with fail
                refine HBd.out.mono ?_
                rintro e w5 ⟨ord, aB, kB, rfl, p1, p2, p3, p4⟩
                have P1 := hidd p1
                have P2 := hidd p2
                have HB5 := hidd (HBq.out.trans (p3.mono HBq.out.size))
                have HX5 := hidd (blko HXq.out p3)
                clear p1 p2 p3 HBd HBq HXq
                obtain ⟨nL, hnL⟩ : ∃ nL : Int, (((L).length : Nat) : Int) = nL := ⟨_, rfl⟩
                have HnL := hidd hnL
                try rw [hnL]
                clear hnL
                dsimp only
                have HB6 := hidd ((Below.refl w5.heap.size w5).alloc (Nat.le_refl _) (.cells #[.int .i64 nL, .slice aB ord.length kB] 30))
                have Hf6 := hidd (heap_alloc_new w5 (.cells #[.int .i64 nL, .slice aB ord.length kB] 30))
                go_upto_region 23 with fail
                obtain ⟨w6, hw6⟩ : ∃ w6, w5.alloc (.cells #[.int .i64 nL, .slice aB ord.length kB] 30) = w6 := ⟨_, rfl⟩
                rw [hw6] at HB6 Hf6
                try rw [hw6]
                clear hw6
                have hw5 : w5.heap.size < w6.heap.size := (Array.getElem?_eq_some_iff.1 Hf6.out).1
                have hww5 : w.heap.size < w5.heap.size := (Array.getElem?_eq_some_iff.1 HX5.out).1
                have HBw6 := hidd (HB5.out.trans (HB6.out.mono HB5.out.size))
                have HX6 := hidd (blko HX5.out HB6.out)
                have HH6 := hidd (P2.out.below HB6.out)
                have e1 : (dictOf (L) ord).2.length = ord.length := by simp [dictOf]
                have ho1 : 1 ≤ ord.length := List.length_pos_iff.2 (List.ne_nil_of_mem (dict_root P1.out).1)
                have HL4 := hidd (fun (W : World) (hW : Below w6.heap.size w6 W) => specL04Bytes_any nL aB kB (dictOf (L) ord).2 W (dict_fine P1.out) ⟨by omega, by omega⟩ (HH6.out.below hW))
                rw [e1] at HL4
                have cb0 := conv_str w6 b off cap bs (Hc.out.below HBw6.out)
                have cb1 := conv_str w6.drew b off cap bs (Hc.out.below (below_drewN HBw6.out 1))
                have y0 := blkc Hf6.out 0
                have y1 := blkc Hf6.out 1
                clear HB6 HB5 HX5 P2
                have HE1 := hidd e1
                clear e1 ho1
                go_cut [100] (fun cv wy => cv = .bool (!(decide (bytesD (dictOf (L) ord).2 = bs))) ∧ Below w6.heap.size w6 wy)
                case first =>
                  go_region_with (go_at_call 37; refine (HL4.out _ (by first | exact below_drewN (Below.refl _ _) 1 | exact Below.refl _ _)).mono ?_; rintro e w7 ⟨v7, rfl, ho7, hb7⟩; have HB7 : Hid (Below w6.heap.size w6 w7) := (by first | exact hb7 | exact (below_drewN (Below.refl _ _) 1).trans hb7); have cv7 := convR_own ho7 rfl; have cb7 := conv_str w7 b off cap bs (Hc.out.below (HBw6.out.trans (HB7.out.mono HBw6.out.size))); clear ho7 hb7)
                  all_goals
                    go_wp2_with fail
                    go_meet
                    exact ⟨congrArg (fun t => Value.bool (!t)) (Bool.eq_iff_iff.2 (by rw [beq_iff_eq, decide_eq_true_iff])), HB7.out⟩
                case rest =>
                  obtain ⟨rfl, hb8⟩ := hcut
                  have HB8 := hidd (HBw6.out.trans (hb8.mono HBw6.out.size))
                  have HX8 := hidd (blko HX6.out hb8)
                  have Hf8 := hidd (blko Hf6.out hb8)
                  have HH8 := hidd (HH6.out.below hb8)
                  clear hb8 y0 y1 cb0 cb1 HL4 HX6 Hf6 HH6 HBw6
                  by_cases he : bytesD (dictOf (L) ord).2 = bs
                  · have hd : decide (bytesD (dictOf (L) ord).2 = bs) = true := decide_eq_true he
                    rw [hd]
                    have HO := hidd (readO_some hl ((HBl.out ord P1.out p4).1 he))
                    clear he hd
                    have x0 := blkc HX8.out 0
                    have x1 := blkc HX8.out 1
                    have f0 := blkf HX8.out 0
                    have f1 := blkf HX8.out 1
                    have y0 := blkc Hf8.out 0
                    have y1 := blkc Hf8.out 1
                    have HR := hidd (box_ret (x' := .int .i64 nL) (y' := .slice aB ord.length kB) HB8.out HX8.out)
                    have z0 := blkc HR.out.2 0
                    have z1 := blkc HR.out.2 1
                    go_wp2_with fail
                    refine bodyPost_ret (v := .tuple #[.agg #[.int .i64 nL, .slice aB ord.length kB], .int .i64 0]) (by simp [results, Try.results11, go_sem, z0, z1]) rfl ?_
                    refine ⟨aB, kB, ?_, ?_, HR.out.1⟩
                    · rw [HO.out, HE1.out, ← HnL.out]; rfl
                    · rw [HO.out]
                      exact HH8.out.put2 HX8.out
                  · have hd : decide (bytesD (dictOf (L) ord).2 = bs) = false := decide_eq_false he
                    rw [hd]
                    have HO := hidd (readO_none hl ((HBl.out ord P1.out p4).2 he))
                    clear he hd
                    have x0 := blkc HX8.out 0
                    have x1 := blkc HX8.out 1
                    have f0 := blkf HX8.out 0
                    have f1 := blkf HX8.out 1
                    have HR := hidd (box_ret (x' := .int .i64 0) (y' := .slice none 0 0) HB8.out HX8.out)
                    have z0 := blkc HR.out.2 0
                    have z1 := blkc HR.out.2 1
                    go_wp2_with fail
                    refine bodyPost_ret (v := .tuple #[.agg #[.int .i64 0, .slice none 0 0], .int .i64 15]) (by simp [results, Try.results11, go_sem, z0, z1]) rfl ?_
                    first
                      | (refine ⟨none, 0, by rw [HO.out]; rfl, ?_, HR.out.1⟩; rw [HO.out]; exact Or.inl rfl)
                      | (refine ⟨none, ⟨0, by rw [HO.out]; rfl⟩, ?_, HR.out.1⟩; rw [HO.out]; exact Or.inl rfl)
    · have honez : ¬ (S.length : Int) > 1 := by omega
      have h1S : S.length = 1 := by omega
      have HGood : Hid (GoodT ([] : List Tx)) := ⟨List.Pairwise.nil, by simp, fun t ht => by simp at ht⟩
      have HBl := hidd (fun (ord : List (List Tx)) (ho : IsBfs nextT [] ord) (hn : ord.length ≤ 300000) => readD_one HRd.out h1S ho hn)
      have HBad : Hid (¬ GoodT ([] : List Tx) → readO bs = ((0, []), 15)) := fun h => absurd HGood.out h
      have hLl : ([] : List Tx).length ≤ 4096 := by simp
      clear h1S
      go_upto_region 17 with fail
      obtain ⟨w4, hw4⟩ : ∃ w4, w2.alloc (.cells #[] 9) = w4 := ⟨_, rfl⟩
      rw [hw4] at HB3
      try rw [hw4]
      have hgT : w2.heap.size < w4.heap.size := by rw [← hw4]; simp
      clear hw4
      have HB4 := hidd (HB2.out.trans (HB3.out.mono HB2.out.size))
      have HX4 := hidd (blko HX2.out HB3.out)
      obtain ⟨gT, hgTe⟩ : ∃ gT, w2.heap.size = gT := ⟨_, rfl⟩
      rw [hgTe] at hgT
      try rw [hgTe]
      clear hgTe HB2 HX2 HS2 Hd2 y0 y1 HB3
      go_wp2_with fail
      go_loopw [10] (fun kv wr => kv = .int .i64 0 ∧ ∃ q, wr = w4.drewN q) (fun _ _ => 0)
      case atStart => exact ⟨rfl, 0, rfl⟩
      case round =>
        obtain ⟨rfl, q, hwr⟩ := hrel
        have HBq : Hid (Below w.heap.size w wr) := by show Below _ _ _; rw [hwr]; exact below_drewN HB4.out q
        have HXq : Hid (wr.heap[w.heap.size]? = some (.cells #[.int .i64 0, .slice none 0 0] 30)) := by show _ = _; rw [hwr]; exact blko HX4.out (below_drewN (Below.refl _ _) q)
        have HBd : Hid (Calls Try.prog 36 #[.slice (some ⟨gT, 0, none⟩) 0 0] wr fun e w' => BuildPost [] wr e w') := build_any HMk.out [] (some ⟨gT, 0, none⟩) 0 wr (by simp) List.Pairwise.nil (fun t ht => by simp at ht) (Or.inl rfl)
        clear hwr HB4 HX4
        go_wp2_with fail
        refine HBd.out.mono ?_
        rintro e w5 ⟨ord, aB, kB, rfl, p1, p2, p3, p4⟩
        have P1 := hidd p1
        have P2 := hidd p2
        have HB5 := hidd (HBq.out.trans (p3.mono HBq.out.size))
        have HX5 := hidd (blko HXq.out p3)
        clear p1 p2 p3 HBd HBq HXq
        obtain ⟨nL, hnL⟩ : ∃ nL : Int, ((([] : List Tx).length : Nat) : Int) = nL := ⟨_, rfl⟩
        have HnL := hidd hnL
        try rw [hnL]
        clear hnL
        dsimp only
        have HB6 := hidd ((Below.refl w5.heap.size w5).alloc (Nat.le_refl _) (.cells #[.int .i64 nL, .slice aB ord.length kB] 30))
        have Hf6 := hidd (heap_alloc_new w5 (.cells #[.int .i64 nL, .slice aB ord.length kB] 30))
        go_upto_region 23 with fail
        obtain ⟨w6, hw6⟩ : ∃ w6, w5.alloc (.cells #[.int .i64 nL, .slice aB ord.length kB] 30) = w6 := ⟨_, rfl⟩
        rw [hw6] at HB6 Hf6
        try rw [hw6]
        clear hw6
        have hw5 : w5.heap.size < w6.heap.size := (Array.getElem?_eq_some_iff.1 Hf6.out).1
        have hww5 : w.heap.size < w5.heap.size := (Array.getElem?_eq_some_iff.1 HX5.out).1
        have HBw6 := hidd (HB5.out.trans (HB6.out.mono HB5.out.size))
        have HX6 := hidd (blko HX5.out HB6.out)
        have HH6 := hidd (P2.out.below HB6.out)
        have e1 : (dictOf ([] : List Tx) ord).2.length = ord.length := by simp [dictOf]
        have ho1 : 1 ≤ ord.length := List.length_pos_iff.2 (List.ne_nil_of_mem (dict_root P1.out).1)
        have HL4 := hidd (fun (W : World) (hW : Below w6.heap.size w6 W) => specL04Bytes_any nL aB kB (dictOf ([] : List Tx) ord).2 W (dict_fine P1.out) ⟨by omega, by omega⟩ (HH6.out.below hW))
        rw [e1] at HL4
        have cb0 := conv_str w6 b off cap bs (Hc.out.below HBw6.out)
        have cb1 := conv_str w6.drew b off cap bs (Hc.out.below (below_drewN HBw6.out 1))
        have y0 := blkc Hf6.out 0
        have y1 := blkc Hf6.out 1
        clear HB6 HB5 HX5 P2
        have HE1 := hidd e1
        clear e1 ho1
        go_cut [100] (fun cv wy => cv = .bool (!(decide (bytesD (dictOf ([] : List Tx) ord).2 = bs))) ∧ Below w6.heap.size w6 wy)
        case first =>
          go_region_with (go_at_call 37; refine (HL4.out _ (by first | exact below_drewN (Below.refl _ _) 1 | exact Below.refl _ _)).mono ?_; rintro e w7 ⟨v7, rfl, ho7, hb7⟩; have HB7 : Hid (Below w6.heap.size w6 w7) := (by first | exact hb7 | exact (below_drewN (Below.refl _ _) 1).trans hb7); have cv7 := convR_own ho7 rfl; have cb7 := conv_str w7 b off cap bs (Hc.out.below (HBw6.out.trans (HB7.out.mono HBw6.out.size))); clear ho7 hb7)
          all_goals
            go_wp2_with fail
            go_meet
            exact ⟨congrArg (fun t => Value.bool (!t)) (Bool.eq_iff_iff.2 (by rw [beq_iff_eq, decide_eq_true_iff])), HB7.out⟩
        case rest =>
          obtain ⟨rfl, hb8⟩ := hcut
          have HB8 := hidd (HBw6.out.trans (hb8.mono HBw6.out.size))
          have HX8 := hidd (blko HX6.out hb8)
          have Hf8 := hidd (blko Hf6.out hb8)
          have HH8 := hidd (HH6.out.below hb8)
          clear hb8 y0 y1 cb0 cb1 HL4 HX6 Hf6 HH6 HBw6
          by_cases he : bytesD (dictOf ([] : List Tx) ord).2 = bs
          · have hd : decide (bytesD (dictOf ([] : List Tx) ord).2 = bs) = true := decide_eq_true he
            rw [hd]
            have HO := hidd (readO_some hl ((HBl.out ord P1.out p4).1 he))
            clear he hd
            have x0 := blkc HX8.out 0
            have x1 := blkc HX8.out 1
            have f0 := blkf HX8.out 0
            have f1 := blkf HX8.out 1
            have y0 := blkc Hf8.out 0
            have y1 := blkc Hf8.out 1
            have HR := hidd (box_ret (x' := .int .i64 nL) (y' := .slice aB ord.length kB) HB8.out HX8.out)
            have z0 := blkc HR.out.2 0
            have z1 := blkc HR.out.2 1
            go_wp2_with fail
            refine bodyPost_ret (v := .tuple #[.agg #[.int .i64 nL, .slice aB ord.length kB], .int .i64 0]) (by simp [results, Try.results11, go_sem, z0, z1]) rfl ?_
            refine ⟨aB, kB, ?_, ?_, HR.out.1⟩
            · rw [HO.out, HE1.out, ← HnL.out]; rfl
            · rw [HO.out]
              exact HH8.out.put2 HX8.out
          · have hd : decide (bytesD (dictOf ([] : List Tx) ord).2 = bs) = false := decide_eq_false he
            rw [hd]
            have HO := hidd (readO_none hl ((HBl.out ord P1.out p4).2 he))
            clear he hd
            have x0 := blkc HX8.out 0
            have x1 := blkc HX8.out 1
            have f0 := blkf HX8.out 0
            have f1 := blkf HX8.out 1
            have HR := hidd (box_ret (x' := .int .i64 0) (y' := .slice none 0 0) HB8.out HX8.out)
            have z0 := blkc HR.out.2 0
            have z1 := blkc HR.out.2 1
            go_wp2_with fail
            refine bodyPost_ret (v := .tuple #[.agg #[.int .i64 0, .slice none 0 0], .int .i64 15]) (by simp [results, Try.results11, go_sem, z0, z1]) rfl ?_
            first
              | (refine ⟨none, 0, by rw [HO.out]; rfl, ?_, HR.out.1⟩; rw [HO.out]; exact Or.inl rfl)
              | (refine ⟨none, ⟨0, by rw [HO.out]; rfl⟩, ?_, HR.out.1⟩; rw [HO.out]; exact Or.inl rfl)
end Go.Proofs.Ytjndogajdlophaa
