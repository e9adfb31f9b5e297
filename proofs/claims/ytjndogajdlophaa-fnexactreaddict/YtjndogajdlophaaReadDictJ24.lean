import Derived.Test.YtjndogajdlophaaReadDictJ23
import Derived.Test.YtjndogajdlophaaReadDictJ02
import Derived.Test.YtjndogajdlophaaReadDictJ20
namespace Go.Proofs.Ytjndogajdlophaa
open Go Go.RowKit
set_option linter.unusedVariables false

/-- What the law holds on to. -/
structure LB (wb W : World) (B4 lo hi : Nat) (D : Int) (a1 : Option Addr) (k1 : Nat) (F : List St) (xs : List Value) : Prop where
  base : Below wb.heap.size wb W
  box : W.heap[B4]? = some (.cells #[.int .i64 D, .slice a1 F.length k1] 30)
  sts : StsAt W lo hi (.slice a1 F.length k1) F xs
theorem LB.below {wb W W' : World} {B4 lo hi : Nat} {D : Int} {a1 : Option Addr} {k1 : Nat} {F : List St} {xs : List Value} (h : LB wb W B4 lo hi D a1 k1 F xs) (hb : Below W.heap.size W W') : LB wb W' B4 lo hi D a1 k1 F xs :=
  ⟨h.base.trans (hb.mono h.base.size), blko h.box hb, h.sts.keep hb.size fun b _ h2 => hb.block b (Nat.lt_of_lt_of_le h2 h.sts.le)⟩
theorem LB.grown {wb W W' : World} {B4 lo hi : Nat} {D : Int} {a1 : Option Addr} {k1 : Nat} {F : List St} {xs : List Value} {r : Nat} (h : LB wb W B4 lo hi D a1 k1 F xs) (hg : W.grownBy W' (some r)) (h1 : wb.heap.size ≤ r) (h2 : r ≠ B4) (h3 : r < lo) : LB wb W' B4 lo hi D a1 k1 F xs :=
  ⟨h.base.grown hg h.base.size (fun k e => by cases e; exact h1), (hg.block B4 (Array.getElem?_eq_some_iff.1 h.box).1 (fun e => by cases e; exact h2 rfl)).trans h.box, h.sts.keep hg.size fun b q1 q2 => hg.block b (Nat.lt_of_lt_of_le q2 h.sts.le) (fun e => by cases e; omega)⟩
theorem LB.hold {wb W : World} {B4 lo hi : Nat} {D : Int} {a1 : Option Addr} {k1 : Nat} {F : List St} {xs : List Value} (h : LB wb W B4 lo hi D a1 k1 F xs) : HoldS W a1 F := by
  obtain ⟨a', c', e', hH⟩ := h.sts.hold
  simp only [Value.slice.injEq, true_and] at e'
  rw [e'.1]; exact hH
set_option maxHeartbeats 16000000 in
set_option maxRecDepth 100000 in
theorem readLaw_any (hSp : ReadC 11) (hIm : ReadI 13) (ao : Option Addr) (n cap : Nat) (bs : List UInt8) (w : World) (h : RowB w ao n bs) :
    Calls Try.prog 4 #[.slice ao n cap] w fun e w' => e = .returned (.bool true) ∧ Below w.heap.size w w' := by
  have HT : Hid (∀ w', n ≤ 1048576 → Below w.heap.size w w' → Calls Try.prog 12 #[.slice ao n cap] w' fun e w2 => e = .returned (.slice (some ⟨w'.heap.size, 0, none⟩) n n) ∧ w2.ownsRow w'.heap.size 5 1 (.slice (some ⟨w'.heap.size, 0, none⟩) n n) n (Lib.byteCells bs) ∧ Below w'.heap.size w' w2) := fun w' hn hb => h.to cap w' hn hb
  obtain ⟨rfl, _⟩ := h
  by_cases hlong : 1048576 < bs.length
  · have hlz : (bs.length : Int) > 1048576 := by omega
    clear hSp hIm HT
    go_enter Try.func4, Try.ntmps4
    go_wp2_with fail
    go_ret
    exact ⟨rfl, Below.refl _ _⟩
  have hlz : ¬ (bs.length : Int) > 1048576 := by omega
  obtain ⟨hF1, hF2⟩ := readO_small bs
  have HS : Hid (∀ g W, BytesAt W g 0 bs → g < W.heap.size → Calls Try.prog 11 #[.slice (some ⟨g, 0, none⟩) bs.length bs.length] W fun e w' => ∃ a c, e = .returned (.tuple #[.agg #[.int .i64 (readO bs).1.1, .slice a (readO bs).1.2.length c], .int .i64 (readO bs).2]) ∧ HoldS w' a (readO bs).1.2 ∧ Below W.heap.size W w') := fun g W hb hg => hSp g 0 bs.length bs W (by omega) (Nat.le_refl _) hb hg
  have HI : Hid (∀ g W, BytesAt W g 0 bs → g < W.heap.size → Calls Try.prog 13 #[.slice (some ⟨g, 0, none⟩) bs.length bs.length] W fun e w' => ∃ a c lo hi xs, e = .returned (.tuple #[.agg #[.int .i64 (readO bs).1.1, .slice a (readO bs).1.2.length c], .int .i64 (readO bs).2]) ∧ W.heap.size ≤ lo ∧ StsAt w' lo hi (.slice a (readO bs).1.2.length c) (readO bs).1.2 xs ∧ DisX xs (readO bs).1.2.length ∧ Below W.heap.size W w') := fun g W hb hg => hIm g 0 bs.length bs W (by omega) (Nat.le_refl _) hb hg
  clear hSp hIm
  obtain ⟨D, hD⟩ : ∃ D, (readO bs).1.1 = D := ⟨_, rfl⟩
  obtain ⟨F, hF⟩ : ∃ F, (readO bs).1.2 = F := ⟨_, rfl⟩
  obtain ⟨C, hC⟩ : ∃ C, (readO bs).2 = C := ⟨_, rfl⟩
  rw [hD, hF, hC] at HS HI
  rw [hF] at hF1 hF2
  clear hD hF hC
  have hF3 : ∀ i, (arcsAt F i).length ≤ 1048576 := fun i => by have := hF2 i; omega
  have HF2 := hidd hF2
  have HF3 := hidd hF3
  clear hF2 hF3
  have hcn : (C != C) = false := by simp
  go_enter Try.func4, Try.ntmps4
  go_wp2_with fail
  refine (HT.out _ (by omega) (Below.refl _ _)).mono ?_
  rintro e w1 ⟨rfl, hown1, hb1⟩
  have HB1 := hidd hb1
  have HS1 := hidd (HS.out w.heap.size w1 (bytes_own hown1 rfl) (own_lt hown1))
  clear hown1 hb1
  go_wp2_with fail
  refine HS1.out.mono ?_
  rintro e w2 ⟨a0, k0, rfl, hh2, hb2⟩
  have HB2 := hidd (HB1.out.trans (hb2.mono HB1.out.size))
  have HBx := hidd ((Below.refl w2.heap.size w2).alloc (Nat.le_refl _) (.cells #[.int .i64 D, .slice a0 F.length k0] 30))
  have HX2 := hidd (heap_alloc_new w2 (.cells #[.int .i64 D, .slice a0 F.length k0] 30))
  have HH2 := hidd (hh2.below HBx.out)
  clear hh2 hb2 HS1 HS HB1
  dsimp only
  go_upto_region 4 with fail
  obtain ⟨wb, hwb⟩ : ∃ wb, w2.alloc (.cells #[.int .i64 D, .slice a0 F.length k0] 30) = wb := ⟨_, rfl⟩
  rw [hwb] at HBx HX2 HH2
  try rw [hwb]
  clear hwb
  have HBb := hidd (HB2.out.trans (HBx.out.mono HB2.out.size))
  have hzb : w2.heap.size < wb.heap.size := (Array.getElem?_eq_some_iff.1 HX2.out).1
  clear HB2 HBx
  go_wp2_with fail
  refine (HT.out _ (by omega) HBb.out).mono ?_
  rintro e w3 ⟨rfl, hown3, hb3⟩
  have HX3 := hidd hown3
  have HB3 := hidd hb3
  have hz3 : wb.heap.size < w3.heap.size := own_lt hown3
  have HI3 := hidd (HI.out wb.heap.size w3 (bytes_own hown3 rfl) hz3)
  clear hown3 hb3
  go_wp2_with fail
  refine HI3.out.mono ?_
  rintro e w4 ⟨a1, k1, lo, hi, xs, rfl, hlo, hs4, hd4, hb4⟩
  have HBx4 := hidd ((Below.refl w4.heap.size w4).alloc (Nat.le_refl _) (.cells #[.int .i64 D, .slice a1 F.length k1] 30))
  have HX4 := hidd (heap_alloc_new w4 (.cells #[.int .i64 D, .slice a1 F.length k1] 30))
  have HDi := hidd hd4
  have HS4 := hidd (hs4.keep HBx4.out.size fun b h1 h2 => HBx4.out.block b (Nat.lt_of_lt_of_le h2 hs4.le))
  have hhi := hs4.le
  have HB34 := hidd (HB3.out.trans (hb4.mono HB3.out.size))
  have HO4 := hidd (own_below (own_below HX3.out hb4) HBx4.out)
  have hz34 := hb4.size
  clear hs4 hd4 hb4 HI3 HB3 HX3
  dsimp only
  go_upto_region 6 with fail
  obtain ⟨wc, hwc⟩ : ∃ wc, w4.alloc (.cells #[.int .i64 D, .slice a1 F.length k1] 30) = wc := ⟨_, rfl⟩
  rw [hwc] at HBx4 HX4 HS4 HO4
  try rw [hwc]
  clear hwc
  have HBc := hidd (HB34.out.trans (HBx4.out.mono HB34.out.size))
  have hzc : w4.heap.size < wc.heap.size := (Array.getElem?_eq_some_iff.1 HX4.out).1
  have hz4b : wb.heap.size < w4.heap.size := by omega
  clear HB34 HBx4
  have HL := hidd (LB.mk HBc.out HX4.out HS4.out)
  have hlo2 : wb.heap.size < lo := by omega
  clear HX4 HS4 HBc
  obtain ⟨B4, hB4⟩ : ∃ B4, w4.heap.size = B4 := ⟨_, rfl⟩
  rw [hB4] at HL hz4b hhi
  rw [hB4]
  clear hB4 hzc hz34 hlo hz3
  have x0 := blkc HL.out.box 0
  have x1 := blkc HL.out.box 1
  have y0 := blkc (blko HX2.out HL.out.base) 0
  have y1 := blkc (blko HX2.out HL.out.base) 1
  have HEq := hidd (eqDict_same D a1 a0 k1 k0 F wc (by omega) HF3.out HL.out.hold (HH2.out.below HL.out.base))
  go_wp2_with fail
  refine HEq.out.mono ?_
  rintro e w5 ⟨rfl, hb5⟩
  have HL5 := hidd (HL.out.below hb5)
  have HO5 := hidd (own_below HO4.out hb5)
  clear hb5 HEq HL HO4 x0 x1 y0 y1
  dsimp only
  go_wp2_with fail
  refine (HT.out _ (by omega) (HBb.out.trans (HL5.out.base.mono HBb.out.size))).mono ?_
  rintro e w6 ⟨rfl, hown6, hb6⟩
  have HY6 := hidd hown6
  have HL6 := hidd (HL5.out.below hb6)
  have HO6 := hidd (own_below HO5.out hb6)
  clear hown6 hb6 HL5 HO5
  dsimp only
  go_wp2_with fail
  refine (eqBytes_own _ _ bs.length _ _ bs _ (by omega) rfl HO6.out HY6.out).mono ?_
  rintro e w7 ⟨rfl, m7, hw7⟩
  have HL7 : Hid (LB wb w7 B4 lo hi D a1 k1 F xs) := by show LB _ _ _ _ _ _ _ _ _ _; rw [hw7]; exact HL6.out.below (below_drewN (Below.refl _ _) m7)
  have HO7 : Hid (w7.ownsRow wb.heap.size 5 1 (.slice (some ⟨wb.heap.size, 0, none⟩) bs.length bs.length) bs.length (Lib.byteCells bs)) := by show World.ownsRow _ _ _ _ _ _ _; rw [hw7]; exact own_drewN HO6.out m7
  clear HY6 HL6 HO6 hw7
  dsimp only
  go_wp2_with fail
  refine (markBytes_own _ bs.length _ _ 1 _ (by omega) (by omega) (by omega) HO7.out).mono ?_
  rintro e w8 ⟨rfl, hown8, hg8⟩
  have HL8 := hidd (HL7.out.grown hg8 (Nat.le_refl _) (Nat.ne_of_lt hz4b) hlo2)
  clear hown8 hg8 HL7 HO7
  have hkz : ¬ (1 + (bs.length : Int)) < 0 := by omega
  have x0 := blkc HL8.out.box 0
  have x1 := blkc HL8.out.box 1
  have y0 := blkc (blko HX2.out HL8.out.base) 0
  have y1 := blkc (blko HX2.out HL8.out.base) 1
  have HEq := hidd (eqDict_same D a1 a0 k1 k0 F w8 (by omega) HF3.out HL8.out.hold (HH2.out.below HL8.out.base))
  dsimp only
  go_wp2_with fail
  refine HEq.out.mono ?_
  rintro e w9 ⟨rfl, hb9⟩
  have HL9 := hidd (HL8.out.below hb9)
  clear hb9 HEq HL8 x0 x1 y0 y1
  have x0 := blkc HL9.out.box 0
  have x1 := blkc HL9.out.box 1
  have HMk := hidd (markD_any D a1 k1 lo hi F xs w9 hF1 HF2.out HL9.out.sts HDi.out)
  have HHeld := hidd (fun W (hW : HoldS W a1 (mkS 1 F)) => heldD_any D a1 k1 F W hF1 HF2.out hW)
  obtain ⟨K, hK⟩ : ∃ K, kAt 1 F F.length = K := ⟨_, rfl⟩
  rw [hK] at HMk HHeld
  clear hK
  have hKn : ¬ (K : Int) < 0 := by omega
  have hKe : ((K : Int) != (K : Int)) = false := by simp
  dsimp only
  go_wp2_with fail
  refine HMk.out.mono ?_
  rintro e wm ⟨rfl, hhm, hbm⟩
  have hw9 : wb.heap.size ≤ w9.heap.size := HL9.out.base.size
  have HBm : Hid (Below wb.heap.size wb wm) := HL9.out.base.trans (hbm.below hw9 (fun i hi' q => by omega))
  have HXm : Hid (wm.heap[B4]? = some (.cells #[.int .i64 D, .slice a1 F.length k1] 30)) := (hbm.block B4 (Array.getElem?_eq_some_iff.1 HL9.out.box).1 (fun q => by omega)).trans HL9.out.box
  have HHm := hidd hhm
  clear hhm hbm HMk HL9 x0 x1
  have x0 := blkc HXm.out 0
  have x1 := blkc HXm.out 1
  have HHe := hidd (HHeld.out wm HHm.out)
  dsimp only
  go_wp2_with fail
  refine HHe.out.mono ?_
  rintro e wn ⟨rfl, hbn⟩
  have HBn := hidd (HBm.out.trans (hbn.mono HBm.out.size))
  have HXn := hidd (blko HXm.out hbn)
  have HHn := hidd (HHm.out.below hbn)
  clear hbn HHe HBm HXm HHm x0 x1
  dsimp only
  go_wp2_with fail
  refine (HT.out _ (by omega) (HBb.out.trans (HBn.out.mono HBb.out.size))).mono ?_
  rintro e wo ⟨rfl, howno, hbo⟩
  have HBo := hidd (HBn.out.trans (hbo.mono HBn.out.size))
  have HXo := hidd (blko HXn.out hbo)
  have HHo := hidd (HHn.out.below hbo)
  have HIo := hidd (HI.out wn.heap.size wo (bytes_own howno rfl) (own_lt howno))
  clear howno hbo HBn HXn HHn
  dsimp only
  go_wp2_with fail
  refine HIo.out.mono ?_
  rintro e wp ⟨a2, k2, lo2, hi2, xs2, rfl, _, hs2, _, hbp⟩
  have HBxp := hidd ((Below.refl wp.heap.size wp).alloc (Nat.le_refl _) (.cells #[.int .i64 D, .slice a2 F.length k2] 30))
  have HX5 := hidd (heap_alloc_new wp (.cells #[.int .i64 D, .slice a2 F.length k2] 30))
  have HHp : Hid (HoldS wp a2 F) := by
    obtain ⟨a', c', e', hH⟩ := hs2.hold
    simp only [Value.slice.injEq, true_and] at e'
    rw [e'.1]; exact hH
  have HBp := hidd (HBo.out.trans (hbp.mono HBo.out.size))
  have HXp := hidd (blko HXo.out hbp)
  have HHp1 := hidd (HHo.out.below hbp)
  clear hs2 hbp HIo HBo HXo HHo
  dsimp only
  go_upto_region 23 with fail
  obtain ⟨wq, hwq⟩ : ∃ wq, wp.alloc (.cells #[.int .i64 D, .slice a2 F.length k2] 30) = wq := ⟨_, rfl⟩
  rw [hwq] at HBxp HX5
  try rw [hwq]
  clear hwq
  have HBq := hidd (HBp.out.trans (HBxp.out.mono HBp.out.size))
  have HXq := hidd (blko HXp.out HBxp.out)
  have HHq := hidd (HHp.out.below HBxp.out)
  have HHq1 := hidd (HHp1.out.below HBxp.out)
  clear HBp HXp HHp HHp1 HBxp
  have z0 := blkc HX5.out 0
  have z1 := blkc HX5.out 1
  have y0 := blkc (blko HX2.out HBq.out) 0
  have y1 := blkc (blko HX2.out HBq.out) 1
  have HEq := hidd (eqDict_same D a2 a0 k2 k0 F wq (by omega) HF3.out HHq.out (HH2.out.below HBq.out))
  go_wp2_with fail
  refine HEq.out.mono ?_
  rintro e wr ⟨rfl, hbr⟩
  have HBr := hidd (HBq.out.trans (hbr.mono HBq.out.size))
  have HXr := hidd (blko HXq.out hbr)
  have HHr := hidd (HHq1.out.below hbr)
  clear hbr HEq HBq HXq HHq HHq1 z0 z1 y0 y1
  have x0 := blkc HXr.out 0
  have x1 := blkc HXr.out 1
  have HHe := hidd (HHeld.out wr HHr.out)
  dsimp only
  go_wp2_with fail
  refine HHe.out.mono ?_
  rintro e ws ⟨rfl, hbs⟩
  have HBs : Hid (Below w.heap.size w ws) := HBb.out.trans ((HBr.out.trans (hbs.mono HBr.out.size)).mono HBb.out.size)
  clear hbs HHe
  dsimp only
  go_wp2_with fail
  go_ret
  exact ⟨rfl, HBs.out⟩
end Go.Proofs.Ytjndogajdlophaa

namespace Go.Proofs.Ytjndogajdlophaa
open Go Go.RowKit
set_option linter.unusedVariables false
theorem readLaw (ao : Option Addr) (n cap : Nat) (bs : List UInt8) (w : World) (h : RowB w ao n bs) :
    Calls Try.prog 4 #[.slice ao n cap] w fun e w' => e = .returned (.bool true) ∧ Below w.heap.size w w' :=
  readLaw_any (specRead_any make_any) implRead_any ao n cap bs w h
end Go.Proofs.Ytjndogajdlophaa
