import Derived.Test.YtkgmghncpjhodabDoorSoS
import Derived.Test.YtkgmghncpjhodabDoorSkE
namespace Go.Proofs.YtkgmghncpjhodabDoor
open Go Go.RowKit
set_option linter.unusedVariables false
set_option linter.unusedSimpArgs false
set_option maxRecDepth 100000

/-! The law of SketchOf. -/
theorem tyK {ty : TypeId} (h : ty = 3 ∨ ty = 65) : (26 : TypeId) ≠ ty := by rcases h with rfl | rfl <;> decide
theorem tyS {ty : TypeId} (h : ty = 3 ∨ ty = 65) : ty ≠ (9 : TypeId) := by rcases h with rfl | rfl <;> decide
theorem own_slL {W : World} {base e n : Nat} {v : Value} {xs : List Value} (h : W.ownsRow base e 1 v n xs) : ∃ ad cap, v = .slice ad n cap := by
  rcases h.2 with ⟨h1, h2⟩ | ⟨g, cap, _, h1, _⟩
  · exact ⟨none, 0, by rw [h1, h2]⟩
  · exact ⟨_, cap, h1⟩
/-- A sketch in a box, with a row of its own. -/
structure Bx (W : World) (base B ty : Nat) (ad : Option Addr) (n cp : Nat) (xs : List Value) : Prop where
  box : W.heap[B]? = some (.cells #[.slice ad n cp] 26)
  row : W.ownsRow base ty 1 (.slice ad n cp) n xs
theorem Bx.below {W W' : World} {base B ty : Nat} {ad : Option Addr} {n cp : Nat} {xs : List Value} (h : Bx W base B ty ad n cp xs) (hb : Below W.heap.size W W') : Bx W' base B ty ad n cp xs := ⟨blko h.box hb, own_below h.row hb⟩
theorem Bx.grown {W W' : World} {base B ty g : Nat} {ad : Option Addr} {n cp : Nat} {xs : List Value} (h : Bx W base B ty ad n cp xs) (hty : ty = 3 ∨ ty = 65) (hg : W.grownBy W' (some g)) (hgt : ∃ cur, W.heap[g]? = some (.cells cur 9)) : Bx W' base B ty ad n cp xs := by
  obtain ⟨cur, hgt⟩ := hgt
  refine ⟨(hg.block B (Array.getElem?_eq_some_iff.1 h.box).1 (fun e => blk_ne h.box hgt (by decide) (Option.some.inj e))).trans h.box, own_congr h.row (fun b hb => ?_)⟩
  obtain ⟨_, cur', h5⟩ := own_blk h.row hb
  exact hg.block b (Array.getElem?_eq_some_iff.1 h5).1 (fun e => blk_ne h5 hgt (tyS hty) (Option.some.inj e))
set_option maxHeartbeats 16000000 in
theorem skOfLaw_any (ao : Option Addr) (cap : Nat) (ts : List Tx) (w : World) (hn63 : ts.length ≤ 9223372036854775807) (hA63 : ∀ i, (ts.getD i []).length ≤ 9223372036854775807) (h : TmAt w ao ts) (hTb : TabAt (Tryd.laysTz_ren.g 0) Lib.deBruijn32tab w) :
    Calls Tryd.prog 3 #[.slice ao ts.length cap] w fun e w' => e = .returned (.bool true) ∧ Below w.heap.size w w' := by
  have HSz := hidd (szStrs_any ao cap ts 1048576 w (by omega) (by omega) hn63 hA63 h)
  have HT : Hid (∀ w', ts.length ≤ 1048576 → Below w.heap.size w w' → Calls Tryd.prog 7 #[.slice ao ts.length cap] w' fun e w2 => e = .returned (.slice (some ⟨w'.heap.size, 0, none⟩) ts.length ts.length) ∧ RowTx w2 w'.heap.size ts ∧ Below w'.heap.size w' w2) := fun w' hn hb => toTx_any ao cap ts w' hn (h.below hb)
  have HTb := hidd hTb
  clear h hA63 hTb
  by_cases hneg : szTx 1048576 ts < 0
  · generalize szTx 1048576 ts = R at *
    go_enter Tryd.func3, Tryd.ntmps3
    go_wp2_with fail
    refine HSz.out.mono ?_
    rintro e w1 ⟨rfl, rfl⟩
    go_wp2_with fail
    go_ret
    exact ⟨rfl, Below.refl _ _⟩
  have hlen := szTx_bound (by omega : (0 : Int) ≤ 1048576) hneg
  have hlen2 : ts.length ≤ 1048576 := by omega
  clear hlen hn63
  have HS : Hid (∀ g W, RowTx W g ts → Calls Tryd.prog 6 #[.slice (some ⟨g, 0, none⟩) ts.length ts.length] W (SkR W (ofS ts))) := fun g W hb => specOf_any _ _ ts W hlen2 (rowTx_hold hb)
  have HI : Hid (∀ g W, RowTx W g ts → Below w.heap.size w W → Calls Tryd.prog 8 #[.slice (some ⟨g, 0, none⟩) ts.length ts.length] W (SkR W (ofS ts))) := fun g W hb hB => implOf_any _ _ ts W hlen2 (rowTx_hold hb) (tab_below HTb.out hB)
  have hJl := ofS_len ts
  generalize ofS ts = J at *
  obtain ⟨jz, C⟩ := J
  dsimp only at hJl
  unfold SkR at HS HI
  dsimp only at HS HI
  have hcn : (C != C) = false := by simp
  generalize szTx 1048576 ts = R at *
  go_enter Tryd.func3, Tryd.ntmps3
  go_wp2_with fail
  refine HSz.out.mono ?_
  rintro e w0 ⟨rfl, hw0⟩
  obtain rfl := hw0.symm
  clear hw0 HSz
  go_wp2_with fail
  refine (HT.out _ (by omega) (Below.refl _ _)).mono ?_
  rintro e w1 ⟨rfl, hown1, hb1⟩
  have HB1 := hidd hb1
  have HS1 := hidd (HS.out w.heap.size w1 hown1)
  clear hown1 hb1
  go_wp2_with fail
  refine HS1.out.mono ?_
  rintro e w2 ⟨ty0, v0, hty0, rfl, ho2, hb2⟩
  obtain ⟨a0, k0, rfl⟩ := own_slL ho2
  have HB2 := hidd (HB1.out.trans (hb2.mono HB1.out.size))
  have HBx := hidd ((Below.refl w2.heap.size w2).alloc (Nat.le_refl _) (.cells #[.slice a0 jz.length k0] 26))
  have HX2 : Hid (Bx (w2.alloc (.cells #[.slice a0 jz.length k0] 26)) w1.heap.size w2.heap.size ty0 a0 jz.length k0 (zI jz)) := ⟨heap_alloc_new w2 _, own_below ho2 HBx.out⟩
  have HT0 := hidd hty0
  clear ho2 hb2 HS1 HS HB1 hty0
  try dsimp only
  go_upto_region 6 with fail
  obtain ⟨wb, hwb⟩ : ∃ wb, w2.alloc (.cells #[.slice a0 jz.length k0] 26) = wb := ⟨_, rfl⟩
  rw [hwb] at HBx HX2
  try rw [hwb]
  clear hwb
  have HBb := hidd (HB2.out.trans (HBx.out.mono HB2.out.size))
  have HV2 : Hid (∀ b, (Value.slice a0 jz.length k0).ownBlock = some b → b < wb.heap.size) := fun b hb => by
    obtain ⟨_, cur, h5⟩ := own_blk HX2.out.row hb
    exact (Array.getElem?_eq_some_iff.1 h5).1
  clear HB2 HBx
  obtain ⟨B2, hB2⟩ : ∃ B2, w2.heap.size = B2 := ⟨_, rfl⟩
  rw [hB2] at HX2
  try rw [hB2]
  clear hB2
  go_wp2_with fail
  refine (HT.out _ (by omega) HBb.out).mono ?_
  rintro e w3 ⟨rfl, hown3, hb3⟩
  have HO3 := hidd hown3
  have hz3 : wb.heap.size < w3.heap.size := hown3.lt
  have HB3 := hidd (HBb.out.trans (hb3.mono HBb.out.size))
  replace HX2 := hidd (HX2.out.below hb3)
  have HI3 := hidd (HI.out wb.heap.size w3 hown3 HB3.out)
  clear hown3 hb3
  go_wp2_with fail
  refine HI3.out.mono ?_
  rintro e w4 ⟨ty1, v1, hty1, rfl, ho4, hb4⟩
  obtain ⟨a1, k1, rfl⟩ := own_slL ho4
  have HT1 := hidd hty1
  have HV4 : Hid (∀ b, (Value.slice a1 jz.length k1).ownBlock = some b → w3.heap.size ≤ b) := fun b hb => (own_blk ho4 hb).1
  have HB4 := hidd (HB3.out.trans (hb4.mono HB3.out.size))
  replace HX2 := hidd (HX2.out.below hb4)
  replace HO3 := hidd (HO3.out.below hb4)
  have HBx := hidd ((Below.refl w4.heap.size w4).alloc (Nat.le_refl _) (.cells #[.slice a1 jz.length k1] 26))
  have HX4 : Hid (Bx (w4.alloc (.cells #[.slice a1 jz.length k1] 26)) w3.heap.size w4.heap.size ty1 a1 jz.length k1 (zI jz)) := ⟨heap_alloc_new w4 _, own_below ho4 HBx.out⟩
  clear ho4 hb4 HI3 hty1
  try dsimp only
  go_upto_region 8 with fail
  obtain ⟨wc, hwc⟩ : ∃ wc, w4.alloc (.cells #[.slice a1 jz.length k1] 26) = wc := ⟨_, rfl⟩
  rw [hwc] at HBx HX4
  try rw [hwc]
  clear hwc
  have HBc := hidd (HB4.out.trans (HBx.out.mono HB4.out.size))
  replace HX2 := hidd (HX2.out.below HBx.out)
  replace HO3 := hidd (HO3.out.below HBx.out)
  clear HBx HB4 HB3
  obtain ⟨B4, hB4⟩ : ∃ B4, w4.heap.size = B4 := ⟨_, rfl⟩
  rw [hB4] at HX4
  try rw [hB4]
  clear hB4
  have x0 : wc.cell? ⟨B4, 0, none⟩ = some (.slice a1 jz.length k1) := blkc HX4.out.box 0
  have y0 : wc.cell? ⟨B2, 0, none⟩ = some (.slice a0 jz.length k0) := blkc HX2.out.box 0
  go_wp2_with fail
  refine (eqSketchE_same _ _ _ _ _ _ jz _ hJl HX4.out.row HX2.out.row).mono ?_
  rintro e w5 ⟨rfl, hb5⟩
  have HB5 := hidd (HBc.out.trans (hb5.mono HBc.out.size))
  replace HX2 := hidd (HX2.out.below hb5)
  replace HX4 := hidd (HX4.out.below hb5)
  replace HO3 := hidd (HO3.out.below hb5)
  clear hb5 x0 y0 HBc
  try dsimp only
  go_wp2_with fail
  refine (HT.out _ (by omega) HB5.out).mono ?_
  rintro e w6 ⟨rfl, hown6, hb6⟩
  have HY6 := hidd hown6
  have HB6 := hidd (HB5.out.trans (hb6.mono HB5.out.size))
  replace HX2 := hidd (HX2.out.below hb6)
  replace HX4 := hidd (HX4.out.below hb6)
  replace HO3 := hidd (HO3.out.below hb6)
  clear hown6 hb6 HB5
  try dsimp only
  go_wp2_with fail
  refine (eqTx_any _ _ _ _ ts _ hlen2 (rowTx_hold HO3.out) (rowTx_hold HY6.out)).mono ?_
  rintro e w7 ⟨rfl, hb7⟩
  have HB7 := hidd (HB6.out.trans (hb7.mono HB6.out.size))
  replace HX2 := hidd (HX2.out.below hb7)
  replace HX4 := hidd (HX4.out.below hb7)
  have HO7 : Hid (RowN w7 wb.heap.size ts.length 9) := by
    obtain ⟨cur, q1, q2, _⟩ := HO3.out.below hb7
    exact ⟨cur, q1, q2⟩
  clear HY6 HO3 hb7 HB6
  try dsimp only
  go_wp2_with fail
  refine (markTx_any _ ts.length _ _ hlen2 HO7.out).mono ?_
  rintro e w8 ⟨rfl, hg8⟩
  have hgt : ∃ cur, w7.heap[wb.heap.size]? = some (.cells cur 9) := by
    obtain ⟨cur, q1, _⟩ := HO7.out
    exact ⟨cur, q1⟩
  have HB8 : Hid (Below w.heap.size w w8) := HB7.out.grown hg8 HB7.out.size (fun k e => by cases e; exact HBb.out.size)
  replace HX2 := hidd (HX2.out.grown HT0.out hg8 hgt)
  replace HX4 := hidd (HX4.out.grown HT1.out hg8 hgt)
  clear hg8 hgt HB7 HO7
  have hkz : ¬ (((1 + ts.length : Nat) : Int)) < 0 := by omega
  have x0 : w8.cell? ⟨B4, 0, none⟩ = some (.slice a1 jz.length k1) := blkc HX4.out.box 0
  have y0 : w8.cell? ⟨B2, 0, none⟩ = some (.slice a0 jz.length k0) := blkc HX2.out.box 0
  try dsimp only
  go_wp2_with fail
  refine (eqSketchE_same _ _ _ _ _ _ jz _ hJl HX4.out.row HX2.out.row).mono ?_
  rintro e w9 ⟨rfl, hb9⟩
  have HB9 := hidd (HB8.out.trans (hb9.mono HB8.out.size))
  replace HX2 := hidd (HX2.out.below hb9)
  replace HX4 := hidd (HX4.out.below hb9)
  clear hb9 x0 y0 HB8
  have x0 : w9.cell? ⟨B4, 0, none⟩ = some (.slice a1 jz.length k1) := blkc HX4.out.box 0
  try dsimp only
  go_wp2_with fail
  refine (markSketchE_own _ _ jz.length _ _ 1 _ hJl (by omega) (by omega) HX4.out.row).mono ?_
  rintro e wm ⟨rfl, hom, hgm⟩
  have hzw : w.heap.size ≤ w3.heap.size := by have := HBb.out.size; omega
  have HBm : Hid (Below w.heap.size w wm) := HB9.out.grown hgm HB9.out.size (fun k hk => by have := HV4.out k hk; omega)
  have HM4 : Hid (Bx wm w3.heap.size B4 ty1 a1 jz.length k1 (marks 1 jz.length)) := ⟨(hgm.block B4 (Array.getElem?_eq_some_iff.1 HX4.out.box).1 (fun e => by
      obtain ⟨_, cur, h5⟩ := own_blk HX4.out.row e.symm
      exact blk_ne HX4.out.box h5 (tyK HT1.out) rfl)).trans HX4.out.box, hom⟩
  have HM2 : Hid (Bx wm w1.heap.size B2 ty0 a0 jz.length k0 (zI jz)) := ⟨(hgm.block B2 (Array.getElem?_eq_some_iff.1 HX2.out.box).1 (fun e => by
      obtain ⟨_, cur, h5⟩ := own_blk HX4.out.row e.symm
      exact blk_ne HX2.out.box h5 (tyK HT1.out) rfl)).trans HX2.out.box, own_congr HX2.out.row (fun b hb => hgm.block b (by
        obtain ⟨_, cur, h5⟩ := own_blk HX2.out.row hb
        exact (Array.getElem?_eq_some_iff.1 h5).1) (fun e => by have h1 := HV2.out b hb; have h2 := HV4.out b e.symm; omega))⟩
  clear hom hgm x0 HX2 HX4 HB9
  have hkm : ¬ (1 + (jz.length : Int)) < 0 := by omega
  have hmm : ((1 + (jz.length : Int)) != (1 + (jz.length : Int))) = false := by simp
  have x0 : wm.cell? ⟨B4, 0, none⟩ = some (.slice a1 jz.length k1) := blkc HM4.out.box 0
  try dsimp only
  go_wp2_with fail
  refine (heldSketchE_own _ _ jz.length _ _ hJl HM4.out.row).mono ?_
  rintro e wn ⟨rfl, hbn⟩
  have HBn := hidd (HBm.out.trans (hbn.mono HBm.out.size))
  replace HM4 := hidd (HM4.out.below hbn)
  replace HM2 := hidd (HM2.out.below hbn)
  clear hbn x0 HBm
  try dsimp only
  go_wp2_with fail
  refine (HT.out _ (by omega) HBn.out).mono ?_
  rintro e wo ⟨rfl, howno, hbo⟩
  have HBo := hidd (HBn.out.trans (hbo.mono HBn.out.size))
  replace HM4 := hidd (HM4.out.below hbo)
  replace HM2 := hidd (HM2.out.below hbo)
  have HIo := hidd (HI.out wn.heap.size wo howno HBo.out)
  clear howno hbo HBn
  try dsimp only
  go_wp2_with fail
  refine HIo.out.mono ?_
  rintro e wp ⟨ty2, v2, hty2, rfl, hop, hbp⟩
  obtain ⟨a2, k2, rfl⟩ := own_slL hop
  have HBp := hidd (HBo.out.trans (hbp.mono HBo.out.size))
  replace HM4 := hidd (HM4.out.below hbp)
  replace HM2 := hidd (HM2.out.below hbp)
  have HBx := hidd ((Below.refl wp.heap.size wp).alloc (Nat.le_refl _) (.cells #[.slice a2 jz.length k2] 26))
  have HX5 : Hid (Bx (wp.alloc (.cells #[.slice a2 jz.length k2] 26)) wo.heap.size wp.heap.size ty2 a2 jz.length k2 (zI jz)) := ⟨heap_alloc_new wp _, own_below hop HBx.out⟩
  clear hop hbp HIo hty2 HBo
  try dsimp only
  go_upto_region 25 with fail
  obtain ⟨wq, hwq⟩ : ∃ wq, wp.alloc (.cells #[.slice a2 jz.length k2] 26) = wq := ⟨_, rfl⟩
  rw [hwq] at HBx HX5
  try rw [hwq]
  clear hwq
  have HBq := hidd (HBp.out.trans (HBx.out.mono HBp.out.size))
  replace HM4 := hidd (HM4.out.below HBx.out)
  replace HM2 := hidd (HM2.out.below HBx.out)
  clear HBx HBp
  have x0 : wq.cell? ⟨wp.heap.size, 0, none⟩ = some (.slice a2 jz.length k2) := blkc HX5.out.box 0
  have y0 : wq.cell? ⟨B2, 0, none⟩ = some (.slice a0 jz.length k0) := blkc HM2.out.box 0
  go_wp2_with fail
  refine (eqSketchE_same _ _ _ _ _ _ jz _ hJl HX5.out.row HM2.out.row).mono ?_
  rintro e wr ⟨rfl, hbr⟩
  have HBr := hidd (HBq.out.trans (hbr.mono HBq.out.size))
  replace HM4 := hidd (HM4.out.below hbr)
  clear hbr x0 y0 HBq
  have x0 : wr.cell? ⟨B4, 0, none⟩ = some (.slice a1 jz.length k1) := blkc HM4.out.box 0
  try dsimp only
  go_wp2_with fail
  refine (heldSketchE_own _ _ jz.length _ _ hJl HM4.out.row).mono ?_
  rintro e ws ⟨rfl, hbs⟩
  have HBs := hidd (HBr.out.trans (hbs.mono HBr.out.size))
  clear hbs
  try dsimp only
  go_wp2_with fail
  go_ret
  exact ⟨rfl, HBs.out⟩
end Go.Proofs.YtkgmghncpjhodabDoor
