import Derived.Test.YtkgmghncpjhodaaDgOi
namespace Go.Proofs.Ytkgmghncpjhodaa
open Go Go.RowKit
set_option linter.unusedVariables false
set_option linter.unusedSimpArgs false
set_option maxRecDepth 100000

/-! The law of DigestOf. -/
theorem Bx.grown2 {W W' : World} {base B : Nat} {o : Option Nat} {js jp jc : Int} {ad : Option Addr} {n cp : Nat} {xs : List Value} (h : Bx W base B js jp jc ad n cp xs) (hg : W.grownBy W' o) (hgt : ∀ g, o = some g → ∃ cur, W.heap[g]? = some (.cells cur 3)) (hne : ∀ b, (Value.slice ad n cp).ownBlock = some b → some b ≠ o) : Bx W' base B js jp jc ad n cp xs :=
  ⟨(hg.block B (Array.getElem?_eq_some_iff.1 h.box).1 (fun e => by
      obtain ⟨cur, h5⟩ := hgt B e.symm
      exact blk_ne h.box h5 (by decide) rfl)).trans h.box, own_congr h.row (fun b hb => hg.block b (by
      obtain ⟨_, cur', h5⟩ := own_blk h.row hb
      exact (Array.getElem?_eq_some_iff.1 h5).1) (fun e => hne b hb e))⟩
set_option maxHeartbeats 16000000 in
theorem ofLaw_any (t : Int) (u : Value) (zs : List Int) (w : World) (hl : zs.length ≤ 9223372036854775807) (hv : HoldI w u zs) :
    Calls Try.prog 7 #[u, .int .i64 t] w fun e w' => e = .returned (.bool true) ∧ Below w.heap.size w w' := by
  have HV := hidd hv
  obtain ⟨ad0, cap0, rfl, -⟩ := hv
  obtain ⟨n, hn⟩ : ∃ n, zs.length = n := ⟨_, rfl⟩
  rw [hn] at HV hl
  rw [hn]
  have HN := hidd hn
  clear hn
  by_cases hlong : 1048576 < n
  · have hlz : (1048576 : Int) < (n : Int) := by omega
    go_enter Try.func7, Try.ntmps7
    go_wp2
    go_ret
    exact ⟨rfl, Below.refl _ _⟩
  have hlz : ¬ (1048576 : Int) < (n : Int) := by omega
  have hq : n ≤ 1048576 := by omega
  have HT : Hid (∀ V, Below w.heap.size w V → Calls Try.prog 23 #[.slice ad0 n cap0] V fun e w' => e = .returned (.slice (some ⟨V.heap.size, 0, none⟩) n n) ∧ w'.ownsRow V.heap.size 3 1 (.slice (some ⟨V.heap.size, 0, none⟩) n n) n (zI zs) ∧ Below V.heap.size V w') := fun V hV => by
    have h := toInts_hold (.slice ad0 n cap0) zs V (by rw [HN.out]; exact hq) (HV.out.below hV)
    rw [HN.out] at h
    exact h
  have HSp : Hid (∀ V b g, V.ownsRow b 3 1 (.slice (some ⟨g, 0, none⟩) n n) n (zI zs) → Calls Try.prog 22 #[.slice (some ⟨g, 0, none⟩) n n, .int .i64 t] V (DgR V (ofZ zs t))) := fun V b g h => specOf_any t _ zs V (by rw [HN.out]; exact hq) (by have h' := h; rw [← HN.out] at h' ⊢; exact SzI.own h')
  have HIm : Hid (∀ V b g, V.ownsRow b 3 1 (.slice (some ⟨g, 0, none⟩) n n) n (zI zs) → Calls Try.prog 24 #[.slice (some ⟨g, 0, none⟩) n n, .int .i64 t] V (DgR V (ofZ zs t))) := fun V b g h => implOf_any t _ zs V (by rw [HN.out]; exact hq) (by have h' := h; rw [← HN.out] at h' ⊢; exact SzI.own h')
  have hJl := ofZ_len zs t
  generalize ofZ zs t = J at *
  obtain ⟨⟨js, jp, jc, jz⟩, code⟩ := J
  dsimp only at hJl
  unfold DgR at HSp HIm
  dsimp only at HSp HIm
  have hcc : (code != code) = false := by simp
  go_enter Try.func7, Try.ntmps7
  go_wp2_with fail
  refine (HT.out _ (Below.refl _ _)).mono ?_
  rintro e w1 ⟨rfl, ho1, hb1⟩
  have HO1 := hidd ho1
  have HB1 := hidd hb1
  clear ho1 hb1
  go_wp2_with fail
  refine (HSp.out _ _ _ HO1.out).mono ?_
  rintro e w2 ⟨v0, rfl, ho2, hb2⟩
  obtain ⟨ad6, cp6, rfl⟩ := own_sl1 ho2
  have HO2 := hidd ho2
  have HB2 := hidd (HB1.out.trans (hb2.mono HB1.out.size))
  have hz12 := hb2.size
  clear ho2 hb2 HO1 HSp
  go_upto_region 4 with fail
  have HBn : Hid (Below w2.heap.size w2 (w2.alloc (.cells #[.int .i64 js, .int .i64 jp, .int .i64 jc, .slice ad6 jz.length cp6] 27))) := (Below.refl _ _).alloc (Nat.le_refl _) _
  have HKn := hidd (heap_alloc_new w2 (.cells #[.int .i64 js, .int .i64 jp, .int .i64 jc, .slice ad6 jz.length cp6] 27))
  obtain ⟨w3, hwn⟩ : ∃ V, w2.alloc (.cells #[.int .i64 js, .int .i64 jp, .int .i64 jc, .slice ad6 jz.length cp6] 27) = V := ⟨_, rfl⟩
  rw [hwn] at HBn HKn
  try rw [hwn]
  clear hwn
  have HX6 : Hid (Bx w3 w1.heap.size w2.heap.size js jp jc ad6 jz.length cp6 (zI jz)) := ⟨HKn.out, own_below HO2.out HBn.out⟩
  have HB3 := hidd (HB2.out.trans (HBn.out.mono HB2.out.size))
  have hz23 := HBn.out.size
  have HV6 : Hid (∀ b, (Value.slice ad6 jz.length cp6).ownBlock = some b → b < w3.heap.size) := fun b hb => by
    obtain ⟨_, cur, h5⟩ := own_blk HX6.out.row hb
    exact (Array.getElem?_eq_some_iff.1 h5).1
  clear HKn HBn HO2 HB1 HB2
  go_wp2_with fail
  refine (HT.out _ HB3.out).mono ?_
  rintro e w4 ⟨rfl, ho4, hb4⟩
  have HO4 := hidd ho4
  have HB4 := hidd (HB3.out.trans (hb4.mono HB3.out.size))
  replace HX6 := hidd (HX6.out.below hb4)
  have hz34 : w3.heap.size < w4.heap.size := own_lt ho4
  clear ho4 hb4
  go_wp2_with fail
  refine (HIm.out _ _ _ HO4.out).mono ?_
  rintro e w5 ⟨v1, rfl, ho5, hb5⟩
  obtain ⟨ad1, cp1, rfl⟩ := own_sl1 ho5
  have HO5 := hidd ho5
  have HB5 := hidd (HB4.out.trans (hb5.mono HB4.out.size))
  replace HX6 := hidd (HX6.out.below hb5)
  replace HO4 := hidd (own_below HO4.out hb5)
  have HVJ : Hid (∀ b, (Value.slice ad1 jz.length cp1).ownBlock = some b → w4.heap.size ≤ b) := fun b hb => (own_blk ho5 hb).1
  have hz45 := hb5.size
  clear ho5 hb5 HB4
  go_upto_region 6 with fail
  have HBn : Hid (Below w5.heap.size w5 (w5.alloc (.cells #[.int .i64 js, .int .i64 jp, .int .i64 jc, .slice ad1 jz.length cp1] 27))) := (Below.refl _ _).alloc (Nat.le_refl _) _
  have HKn := hidd (heap_alloc_new w5 (.cells #[.int .i64 js, .int .i64 jp, .int .i64 jc, .slice ad1 jz.length cp1] 27))
  obtain ⟨w6, hwn⟩ : ∃ V, w5.alloc (.cells #[.int .i64 js, .int .i64 jp, .int .i64 jc, .slice ad1 jz.length cp1] 27) = V := ⟨_, rfl⟩
  rw [hwn] at HBn HKn
  try rw [hwn]
  clear hwn
  have HXA : Hid (Bx w6 w4.heap.size w5.heap.size js jp jc ad1 jz.length cp1 (zI jz)) := ⟨HKn.out, own_below HO5.out HBn.out⟩
  have HB6 := hidd (HB5.out.trans (HBn.out.mono HB5.out.size))
  replace HX6 := hidd (HX6.out.below HBn.out)
  replace HO4 := hidd (own_below HO4.out HBn.out)
  have hz56 := HBn.out.size
  clear HKn HBn HO5 HB5
  have x0 : w6.cell? ⟨w5.heap.size, 0, none⟩ = some (.int .i64 js) := blkc HXA.out.box 0
  have x1 : w6.cell? ⟨w5.heap.size, 1, none⟩ = some (.int .i64 jp) := blkc HXA.out.box 1
  have x2 : w6.cell? ⟨w5.heap.size, 2, none⟩ = some (.int .i64 jc) := blkc HXA.out.box 2
  have x3 : w6.cell? ⟨w5.heap.size, 3, none⟩ = some (.slice ad1 jz.length cp1) := blkc HXA.out.box 3
  have y0 : w6.cell? ⟨w2.heap.size, 0, none⟩ = some (.int .i64 js) := blkc HX6.out.box 0
  have y1 : w6.cell? ⟨w2.heap.size, 1, none⟩ = some (.int .i64 jp) := blkc HX6.out.box 1
  have y2 : w6.cell? ⟨w2.heap.size, 2, none⟩ = some (.int .i64 jc) := blkc HX6.out.box 2
  have y3 : w6.cell? ⟨w2.heap.size, 3, none⟩ = some (.slice ad6 jz.length cp6) := blkc HX6.out.box 3
  go_wp2_with fail
  refine (eqDigest_same js jp jc _ _ _ _ jz _ hJl HXA.out.row HX6.out.row).mono ?_
  rintro e w7 ⟨rfl, hb7⟩
  have HB7 := hidd (HB6.out.trans (hb7.mono HB6.out.size))
  replace HX6 := hidd (HX6.out.below hb7)
  replace HXA := hidd (HXA.out.below hb7)
  replace HO4 := hidd (own_below HO4.out hb7)
  clear hb7 x0 x1 x2 x3 y0 y1 y2 y3 HB6
  go_wp2_with fail
  refine (HT.out _ HB7.out).mono ?_
  rintro e w8 ⟨rfl, ho8, hb8⟩
  have HO8 := hidd ho8
  have HB8 := hidd (HB7.out.trans (hb8.mono HB7.out.size))
  replace HX6 := hidd (HX6.out.below hb8)
  replace HXA := hidd (HXA.out.below hb8)
  replace HO4 := hidd (own_below HO4.out hb8)
  clear ho8 hb8 HB7
  go_wp2_with fail
  refine (eqInts_own _ _ n _ _ zs _ hq HN.out HO4.out HO8.out).mono ?_
  rintro e w9 ⟨rfl, m9, rfl⟩
  have hb9 : Below w8.heap.size w8 (w8.drewN m9) := below_drewN (Below.refl _ _) m9
  have HB9 := hidd (HB8.out.trans (hb9.mono HB8.out.size))
  replace HX6 := hidd (HX6.out.below hb9)
  replace HXA := hidd (HXA.out.below hb9)
  replace HO4 := hidd (own_below HO4.out hb9)
  clear hb9 HO8 HB8
  generalize w8.drewN m9 = wd at *
  go_wp2_with fail
  refine (markInts_own _ n _ _ 1 _ hq (by omega) (by omega) HO4.out).mono ?_
  rintro e w10 ⟨rfl, ho10, hgr10⟩
  have hgt : ∀ g, (Value.slice (some ⟨w3.heap.size, 0, none⟩) n n).ownBlock = some g → ∃ cur, wd.heap[g]? = some (.cells cur 3) := fun g hg => (own_blk HO4.out hg).2
  have HB10 : Hid (Below w.heap.size w w10) := HB9.out.grown hgr10 HB9.out.size (fun k hk => by have := (own_blk HO4.out hk).1; have := HB3.out.size; omega)
  replace HX6 := hidd (HX6.out.grown2 hgr10 hgt (fun b hb e => by have h1 := HV6.out b hb; have h2 := (own_blk HO4.out e.symm).1; omega))
  replace HXA := hidd (HXA.out.grown2 hgr10 hgt (fun b hb e => by have h1 := HVJ.out b hb; have h2 : w3.heap.size = b := (by simpa [Value.ownBlock] using e.symm); omega))
  clear ho10 hgr10 hgt HO4 HB9
  have hkn : ¬ (1 + (n : Int)) < 0 := by omega
  have x0 : w10.cell? ⟨w5.heap.size, 0, none⟩ = some (.int .i64 js) := blkc HXA.out.box 0
  have x1 : w10.cell? ⟨w5.heap.size, 1, none⟩ = some (.int .i64 jp) := blkc HXA.out.box 1
  have x2 : w10.cell? ⟨w5.heap.size, 2, none⟩ = some (.int .i64 jc) := blkc HXA.out.box 2
  have x3 : w10.cell? ⟨w5.heap.size, 3, none⟩ = some (.slice ad1 jz.length cp1) := blkc HXA.out.box 3
  have y0 : w10.cell? ⟨w2.heap.size, 0, none⟩ = some (.int .i64 js) := blkc HX6.out.box 0
  have y1 : w10.cell? ⟨w2.heap.size, 1, none⟩ = some (.int .i64 jp) := blkc HX6.out.box 1
  have y2 : w10.cell? ⟨w2.heap.size, 2, none⟩ = some (.int .i64 jc) := blkc HX6.out.box 2
  have y3 : w10.cell? ⟨w2.heap.size, 3, none⟩ = some (.slice ad6 jz.length cp6) := blkc HX6.out.box 3
  go_wp2_with fail
  refine (eqDigest_same js jp jc _ _ _ _ jz _ hJl HXA.out.row HX6.out.row).mono ?_
  rintro e w11 ⟨rfl, hb11⟩
  have HB11 := hidd (HB10.out.trans (hb11.mono HB10.out.size))
  replace HX6 := hidd (HX6.out.below hb11)
  replace HXA := hidd (HXA.out.below hb11)
  clear hb11 x0 x1 x2 x3 y0 y1 y2 y3 HB10
  have x0 : w11.cell? ⟨w5.heap.size, 0, none⟩ = some (.int .i64 js) := blkc HXA.out.box 0
  have x1 : w11.cell? ⟨w5.heap.size, 1, none⟩ = some (.int .i64 jp) := blkc HXA.out.box 1
  have x2 : w11.cell? ⟨w5.heap.size, 2, none⟩ = some (.int .i64 jc) := blkc HXA.out.box 2
  have x3 : w11.cell? ⟨w5.heap.size, 3, none⟩ = some (.slice ad1 jz.length cp1) := blkc HXA.out.box 3
  go_wp2_with fail
  refine (markDigestL_own js jp jc _ jz.length _ _ 1 _ hJl (by omega) (by omega) HXA.out.row).mono ?_
  rintro e w12 ⟨rfl, ho12, hgr12⟩
  have hgt : ∀ g, (Value.slice ad1 jz.length cp1).ownBlock = some g → ∃ cur, w11.heap[g]? = some (.cells cur 3) := fun g hg => (own_blk HXA.out.row hg).2
  have HB12 : Hid (Below w.heap.size w w12) := HB11.out.grown hgr12 HB11.out.size (fun k hk => by have := HVJ.out k hk; have := HB3.out.size; omega)
  have HM12 : Hid (Bx w12 w4.heap.size w5.heap.size js jp jc ad1 jz.length cp1 (marks 1 jz.length)) := ⟨(hgr12.block w5.heap.size (Array.getElem?_eq_some_iff.1 HXA.out.box).1 (fun e => by
      obtain ⟨cur, h5⟩ := hgt _ e.symm
      exact blk_ne HXA.out.box h5 (by decide) rfl)).trans HXA.out.box, ho12⟩
  replace HX6 := hidd (HX6.out.grown2 hgr12 hgt (fun b hb e => by have h1 := HV6.out b hb; have h2 := HVJ.out b e.symm; omega))
  clear ho12 hgr12 hgt x0 x1 x2 x3 HXA HB11
  have hkm : ¬ (1 + (jz.length : Int)) < 0 := by omega
  have hmm : ((1 + (jz.length : Int)) != (1 + (jz.length : Int))) = false := by simp
  have x0 : w12.cell? ⟨w5.heap.size, 0, none⟩ = some (.int .i64 js) := blkc HM12.out.box 0
  have x1 : w12.cell? ⟨w5.heap.size, 1, none⟩ = some (.int .i64 jp) := blkc HM12.out.box 1
  have x2 : w12.cell? ⟨w5.heap.size, 2, none⟩ = some (.int .i64 jc) := blkc HM12.out.box 2
  have x3 : w12.cell? ⟨w5.heap.size, 3, none⟩ = some (.slice ad1 jz.length cp1) := blkc HM12.out.box 3
  go_wp2_with fail
  refine (heldDigest_own js jp jc _ jz.length _ _ hJl HM12.out.row).mono ?_
  rintro e w13 ⟨rfl, hb13⟩
  have HB13 := hidd (HB12.out.trans (hb13.mono HB12.out.size))
  replace HX6 := hidd (HX6.out.below hb13)
  replace HM12 := hidd (HM12.out.below hb13)
  clear hb13 x0 x1 x2 x3 HB12
  go_wp2_with fail
  refine (HT.out _ HB13.out).mono ?_
  rintro e w14 ⟨rfl, ho14, hb14⟩
  have HO14 := hidd ho14
  have HB14 := hidd (HB13.out.trans (hb14.mono HB13.out.size))
  replace HX6 := hidd (HX6.out.below hb14)
  replace HM12 := hidd (HM12.out.below hb14)
  clear ho14 hb14 HB13
  go_wp2_with fail
  refine (HIm.out _ _ _ HO14.out).mono ?_
  rintro e w15 ⟨v2, rfl, ho15, hb15⟩
  obtain ⟨adF, cpF, rfl⟩ := own_sl1 ho15
  have HO15 := hidd ho15
  have HB15 := hidd (HB14.out.trans (hb15.mono HB14.out.size))
  replace HX6 := hidd (HX6.out.below hb15)
  replace HM12 := hidd (HM12.out.below hb15)
  clear ho15 hb15 HO14 HB14 HIm
  go_upto_region 23 with fail
  have HBn : Hid (Below w15.heap.size w15 (w15.alloc (.cells #[.int .i64 js, .int .i64 jp, .int .i64 jc, .slice adF jz.length cpF] 27))) := (Below.refl _ _).alloc (Nat.le_refl _) _
  have HKn := hidd (heap_alloc_new w15 (.cells #[.int .i64 js, .int .i64 jp, .int .i64 jc, .slice adF jz.length cpF] 27))
  obtain ⟨w16, hwn⟩ : ∃ V, w15.alloc (.cells #[.int .i64 js, .int .i64 jp, .int .i64 jc, .slice adF jz.length cpF] 27) = V := ⟨_, rfl⟩
  rw [hwn] at HBn HKn
  try rw [hwn]
  clear hwn
  have HXF : Hid (Bx w16 w14.heap.size w15.heap.size js jp jc adF jz.length cpF (zI jz)) := ⟨HKn.out, own_below HO15.out HBn.out⟩
  have HB16 := hidd (HB15.out.trans (HBn.out.mono HB15.out.size))
  replace HX6 := hidd (HX6.out.below HBn.out)
  replace HM12 := hidd (HM12.out.below HBn.out)
  clear HKn HBn HO15 HB15
  have x0 : w16.cell? ⟨w15.heap.size, 0, none⟩ = some (.int .i64 js) := blkc HXF.out.box 0
  have x1 : w16.cell? ⟨w15.heap.size, 1, none⟩ = some (.int .i64 jp) := blkc HXF.out.box 1
  have x2 : w16.cell? ⟨w15.heap.size, 2, none⟩ = some (.int .i64 jc) := blkc HXF.out.box 2
  have x3 : w16.cell? ⟨w15.heap.size, 3, none⟩ = some (.slice adF jz.length cpF) := blkc HXF.out.box 3
  have y0 : w16.cell? ⟨w2.heap.size, 0, none⟩ = some (.int .i64 js) := blkc HX6.out.box 0
  have y1 : w16.cell? ⟨w2.heap.size, 1, none⟩ = some (.int .i64 jp) := blkc HX6.out.box 1
  have y2 : w16.cell? ⟨w2.heap.size, 2, none⟩ = some (.int .i64 jc) := blkc HX6.out.box 2
  have y3 : w16.cell? ⟨w2.heap.size, 3, none⟩ = some (.slice ad6 jz.length cp6) := blkc HX6.out.box 3
  go_wp2_with fail
  refine (eqDigest_same js jp jc _ _ _ _ jz _ hJl HXF.out.row HX6.out.row).mono ?_
  rintro e w17 ⟨rfl, hb17⟩
  have HB17 := hidd (HB16.out.trans (hb17.mono HB16.out.size))
  replace HM12 := hidd (HM12.out.below hb17)
  clear hb17 x0 x1 x2 x3 y0 y1 y2 y3 HX6 HXF HB16
  have x0 : w17.cell? ⟨w5.heap.size, 0, none⟩ = some (.int .i64 js) := blkc HM12.out.box 0
  have x1 : w17.cell? ⟨w5.heap.size, 1, none⟩ = some (.int .i64 jp) := blkc HM12.out.box 1
  have x2 : w17.cell? ⟨w5.heap.size, 2, none⟩ = some (.int .i64 jc) := blkc HM12.out.box 2
  have x3 : w17.cell? ⟨w5.heap.size, 3, none⟩ = some (.slice ad1 jz.length cp1) := blkc HM12.out.box 3
  go_wp2_with fail
  refine (heldDigest_own js jp jc _ jz.length _ _ hJl HM12.out.row).mono ?_
  rintro e w18 ⟨rfl, hb18⟩
  have HB18 := hidd (HB17.out.trans (hb18.mono HB17.out.size))
  clear hb18 x0 x1 x2 x3
  go_wp2_with fail
  go_ret
  exact ⟨rfl, HB18.out⟩
end Go.Proofs.Ytkgmghncpjhodaa
