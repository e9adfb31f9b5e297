import Derived.Test.YtnekdkafhoacoaaDoorRqK
namespace Go.Proofs.YtnekdkafhoacoaaDoor
open Go Go.RowKit
set_option linter.unusedVariables false
set_option maxRecDepth 100000

theorem bytes_own {w : World} {base g n c : Nat} {bs : List UInt8} (h : w.ownsRow base 5 1 (.slice (some ⟨g, 0, none⟩) n c) n (Lib.byteCells bs)) (hl : bs.length = n) : BytesAt w g 0 bs := own_bytes h hl
theorem AnsV.lower {w : World} {lo lo' hi : Nat} {va : Value} {V : List Vl} {xs : List Value} (h : AnsV w lo hi va V xs) (hl : lo' ≤ lo) : AnsV w lo' hi va V xs := by
  refine ⟨own_monoR h.row hl, h.top, fun j hj => ?_, fun j b hj hb => ⟨Nat.le_trans hl (h.lie j b hj hb).1, (h.lie j b hj hb).2⟩, h.dis⟩
  obtain ⟨vt, vn, q0, q1, q2, q3, q4⟩ := h.val j hj
  exact ⟨vt, vn, q0, q1, q2, own_monoR q3 hl, own_monoR q4 hl⟩
/-- What the law holds on to. -/
structure LD (wb W : World) (B4 lo hi : Nat) (id : List UInt8) (a1 : Option Addr) (k1 : Nat) (V : List Vl) (xs : List Value) : Prop where
  base : Below wb.heap.size wb W
  box : W.heap[B4]? = some (.cells #[.string ⟨id.toArray⟩, .slice a1 V.length k1] 36)
  ans : AnsV W lo hi (.slice a1 V.length k1) V xs
  le : hi ≤ W.heap.size
theorem LD.below {wb W W' : World} {B4 lo hi : Nat} {id : List UInt8} {a1 : Option Addr} {k1 : Nat} {V : List Vl} {xs : List Value} (h : LD wb W B4 lo hi id a1 k1 V xs) (hb : Below W.heap.size W W') : LD wb W' B4 lo hi id a1 k1 V xs :=
  ⟨h.base.trans (hb.mono h.base.size), blko h.box hb, h.ans.keep fun b _ h2 => hb.block b (Nat.lt_of_lt_of_le h2 h.le), Nat.le_trans h.le hb.size⟩
theorem LD.grown {wb W W' : World} {B4 lo hi : Nat} {id : List UInt8} {a1 : Option Addr} {k1 : Nat} {V : List Vl} {xs : List Value} {r : Nat} (h : LD wb W B4 lo hi id a1 k1 V xs) (hg : W.grownBy W' (some r)) (h1 : wb.heap.size ≤ r) (h2 : r ≠ B4) (h3 : r < lo) : LD wb W' B4 lo hi id a1 k1 V xs :=
  ⟨h.base.grown hg h.base.size (fun k e => by cases e; exact h1), (hg.block B4 (Array.getElem?_eq_some_iff.1 h.box).1 (fun e => by cases e; exact h2 rfl)).trans h.box, h.ans.keep fun b q1 q2 => hg.block b (Nat.lt_of_lt_of_le q2 h.le) (fun e => by cases e; omega), Nat.le_trans h.le hg.size⟩
set_option maxHeartbeats 16000000 in
theorem readDocLaw_any {u : TypeId} {pv : Value} (ao : Option Addr) (n cap : Nat) (bs : List UInt8) (w : World) (hE : ErrC w u pv) (h : RowB w ao n bs) :
    Calls Tryd.prog 4 #[.slice ao n cap] w fun e w' => e = .returned (.bool true) ∧ Below w.heap.size w w' := by
  have HT : Hid (∀ w', n ≤ 1048576 → Below w.heap.size w w' → Calls Tryd.prog 11 #[.slice ao n cap] w' fun e w2 => e = .returned (.slice (some ⟨w'.heap.size, 0, none⟩) n n) ∧ w2.ownsRow w'.heap.size 5 1 (.slice (some ⟨w'.heap.size, 0, none⟩) n n) n (Lib.byteCells bs) ∧ Below w'.heap.size w' w2) := fun w' hn hb => h.to cap w' hn hb
  obtain ⟨rfl, _⟩ := h
  by_cases hlong : 1048576 < bs.length
  · have hlz : (bs.length : Int) > 1048576 := by omega
    clear HT
    go_enter Tryd.func4, Tryd.ntmps4
    go_wp2_with fail
    go_ret
    exact ⟨rfl, Below.refl _ _⟩
  have hlz : ¬ (bs.length : Int) > 1048576 := by omega
  obtain ⟨hF1, hF2⟩ := rdAns_small bs
  have HE := hidd hE
  have HS : Hid (∀ g W, BytesAt W g 0 bs → g < W.heap.size → Calls Tryd.prog 10 #[.slice (some ⟨g, 0, none⟩) bs.length bs.length] W (ReadP W bs)) := fun g W hb hg => specRead_any (by omega) hg (Nat.le_refl _) hb
  have HI : Hid (∀ g W, Below w.heap.size w W → BytesAt W g 0 bs → g < W.heap.size → Calls Tryd.prog 12 #[.slice (some ⟨g, 0, none⟩) bs.length bs.length] W (ReadP W bs)) := fun g W hW hb hg => implRead_any ⟨HE.out.at hW, by have := HE.out.2; have := hW.size; omega⟩ (by omega) hg (Nat.le_refl _) hb
  unfold ReadP at HS HI
  clear hE
  obtain ⟨D, hD⟩ : ∃ D, (rdAns bs).1.1 = D := ⟨_, rfl⟩
  obtain ⟨V, hV⟩ : ∃ V, (rdAns bs).1.2 = V := ⟨_, rfl⟩
  obtain ⟨C, hC⟩ : ∃ C, (rdAns bs).2 = C := ⟨_, rfl⟩
  rw [hD, hV, hC] at HS HI
  rw [hV] at hF1 hF2
  clear hD hV hC
  have HA : Hid (∀ i, (V.getD i vl0).1.length ≤ 1048576 ∧ (V.getD i vl0).2.1.length ≤ 1048576 ∧ (V.getD i vl0).2.2.length ≤ 1048576) := fun i => by obtain ⟨p1, p2, p3⟩ := hF2 i; omega
  have hL1 : (lensV V).length = V.length := by simp [lensV]
  have HLs : Hid (∀ j, ((lensV V).getD j (0, 0)).1 ≤ 4096 ∧ ((lensV V).getD j (0, 0)).2 ≤ 4096) := fun j => by
    by_cases hj : j < V.length
    · rw [lensV_at V j hj]; obtain ⟨p1, p2, p3⟩ := hF2 j; exact ⟨p2, p3⟩
    · rw [List.getD_eq_getElem?_getD, List.getElem?_eq_none (by omega)]; simp
  clear hF2
  have hcn : (C != C) = false := by simp
  go_enter Tryd.func4, Tryd.ntmps4
  go_wp2_with fail
  refine (HT.out _ (by omega) (Below.refl _ _)).mono ?_
  rintro e w1 ⟨rfl, hown1, hb1⟩
  have HB1 := hidd hb1
  have HS1 := hidd (HS.out w.heap.size w1 (bytes_own hown1 rfl) (own_lt hown1))
  clear hown1 hb1
  go_wp2_with fail
  refine HS1.out.mono ?_
  rintro e w2 ⟨hb2, va0, xs0, lo0, rfl, hlo0, hh2⟩
  obtain ⟨a0, k0, rfl⟩ := own_formR hh2.row
  have HB2 := hidd (HB1.out.trans (hb2.mono HB1.out.size))
  have HBx := hidd ((Below.refl w2.heap.size w2).alloc (Nat.le_refl _) (.cells #[.string ⟨D.toArray⟩, .slice a0 V.length k0] 36))
  have HX2 := hidd (heap_alloc_new w2 (.cells #[.string ⟨D.toArray⟩, .slice a0 V.length k0] 36))
  have HH2 := hidd (hh2.hold.below HBx.out)
  clear hh2 hb2 HS1 HS HB1
  dsimp only
  go_upto_region 4 with fail
  obtain ⟨wb, hwb⟩ : ∃ wb, w2.alloc (.cells #[.string ⟨D.toArray⟩, .slice a0 V.length k0] 36) = wb := ⟨_, rfl⟩
  rw [hwb] at HBx HX2 HH2
  try rw [hwb]
  clear hwb
  have HBb := hidd (HB2.out.trans (HBx.out.mono HB2.out.size))
  have hzb : w2.heap.size < wb.heap.size := (Array.getElem?_eq_some_iff.1 HX2.out).1
  clear HB2 HBx
  go_wp2_with fail
  refine (HT.out _ (by omega) HBb.out).mono ?_
  rintro e w3 ⟨rfl, hown3, hb3⟩
  have HX3 := hidd hown3
  have HB3 := hidd hb3
  have hz3 : wb.heap.size < w3.heap.size := own_lt hown3
  have HI3 := hidd (HI.out wb.heap.size w3 (HBb.out.trans (hb3.mono HBb.out.size)) (bytes_own hown3 rfl) hz3)
  clear hown3 hb3
  go_wp2_with fail
  refine HI3.out.mono ?_
  rintro e w4 ⟨hb4, va1, xs, lo0', rfl, hlo0', hs40⟩
  obtain ⟨a1, k1, rfl⟩ := own_formR hs40.row
  have hs4 := hs40.lower hlo0'
  obtain ⟨lo, hloe⟩ : ∃ lo, w3.heap.size = lo := ⟨_, rfl⟩
  rw [hloe] at hs4
  clear hs40 hlo0'
  have HBx4 := hidd ((Below.refl w4.heap.size w4).alloc (Nat.le_refl _) (.cells #[.string ⟨D.toArray⟩, .slice a1 V.length k1] 36))
  have HX4 := hidd (heap_alloc_new w4 (.cells #[.string ⟨D.toArray⟩, .slice a1 V.length k1] 36))
  have HS4 := hidd (hs4.keep fun b h1 h2 => HBx4.out.block b h2)
  have HB34 := hidd (HB3.out.trans (hb4.mono HB3.out.size))
  have HO4 := hidd (own_below (own_below HX3.out hb4) HBx4.out)
  have hz34 := hb4.size
  clear hs4 hb4 HI3 HB3 HX3
  dsimp only
  go_upto_region 6 with fail
  obtain ⟨wc, hwc⟩ : ∃ wc, w4.alloc (.cells #[.string ⟨D.toArray⟩, .slice a1 V.length k1] 36) = wc := ⟨_, rfl⟩
  rw [hwc] at HBx4 HX4 HS4 HO4
  try rw [hwc]
  clear hwc
  have HBc := hidd (HB34.out.trans (HBx4.out.mono HB34.out.size))
  have hzc : w4.heap.size < wc.heap.size := (Array.getElem?_eq_some_iff.1 HX4.out).1
  have hz4b : wb.heap.size < w4.heap.size := by omega
  clear HB34 HBx4
  have HL := hidd (LD.mk HBc.out HX4.out HS4.out (Nat.le_of_lt hzc))
  have hlo2 : wb.heap.size < lo := by omega
  have hlo4 : lo ≤ w4.heap.size := by omega
  clear HX4 HS4 HBc
  obtain ⟨B4, hB4⟩ : ∃ B4, w4.heap.size = B4 := ⟨_, rfl⟩
  rw [hB4] at HL hz4b hlo4
  rw [hB4]
  clear hB4 hzc hz34 hz3 hloe
  have x0 := blkc HL.out.box 0
  have x1 := blkc HL.out.box 1
  have y0 := blkc (blko HX2.out HL.out.base) 0
  have y1 := blkc (blko HX2.out HL.out.base) 1
  have HEq := hidd (eqDoc_any D a1 a0 k1 k0 V wc (by omega) HA.out HL.out.ans.hold (HH2.out.below HL.out.base))
  go_wp2_with fail
  refine HEq.out.mono ?_
  rintro e w5 ⟨rfl, hb5⟩
  have HL5 := hidd (HL.out.below hb5)
  have HO5 := hidd (own_below HO4.out hb5)
  clear hb5 HEq HL HO4 x0 x1 y0 y1
  dsimp only
  go_wp2_with fail
  refine (HT.out _ (by omega) (HBb.out.trans (HL5.out.base.mono HBb.out.size))).mono ?_
  rintro e w6 ⟨rfl, hown6, hb6⟩
  have HY6 := hidd hown6
  have HL6 := hidd (HL5.out.below hb6)
  have HO6 := hidd (own_below HO5.out hb6)
  clear hown6 hb6 HL5 HO5
  dsimp only
  go_wp2_with fail
  refine (eqBytes_own _ _ bs.length _ _ bs _ (by omega) rfl HO6.out HY6.out).mono ?_
  rintro e w7 ⟨rfl, m7, hw7⟩
  have HL7 : Hid (LD wb w7 B4 lo B4 D a1 k1 V xs) := by show LD _ _ _ _ _ _ _ _ _ _; rw [hw7]; exact HL6.out.below (below_drewN (Below.refl _ _) m7)
  have HO7 : Hid (w7.ownsRow wb.heap.size 5 1 (.slice (some ⟨wb.heap.size, 0, none⟩) bs.length bs.length) bs.length (Lib.byteCells bs)) := by show World.ownsRow _ _ _ _ _ _ _; rw [hw7]; exact own_drewN HO6.out m7
  clear HY6 HL6 HO6 hw7
  dsimp only
  go_wp2_with fail
  refine (markBytes_own _ bs.length _ _ 1 _ (by omega) (by omega) (by omega) HO7.out).mono ?_
  rintro e w8 ⟨rfl, hown8, hg8⟩
  have HL8 := hidd (HL7.out.grown hg8 (Nat.le_refl _) (Nat.ne_of_lt hz4b) hlo2)
  clear hown8 hg8 HL7 HO7
  have hkz : ¬ (1 + (bs.length : Int)) < 0 := by omega
  have x0 := blkc HL8.out.box 0
  have x1 := blkc HL8.out.box 1
  have y0 := blkc (blko HX2.out HL8.out.base) 0
  have y1 := blkc (blko HX2.out HL8.out.base) 1
  have HEq := hidd (eqDoc_any D a1 a0 k1 k0 V w8 (by omega) HA.out HL8.out.ans.hold (HH2.out.below HL8.out.base))
  dsimp only
  go_wp2_with fail
  refine HEq.out.mono ?_
  rintro e w9 ⟨rfl, hb9⟩
  have HL9 := hidd (HL8.out.below hb9)
  clear hb9 HEq HL8 x0 x1 y0 y1
  have x0 := blkc HL9.out.box 0
  have x1 := blkc HL9.out.box 1
  have hhi9 := HL9.out.le
  have HMk := hidd (markDocX ⟨D.toArray⟩ lo B4 1 (.slice a1 V.length k1) (lensV V) xs w9 (by omega) hhi9 (by omega) HLs.out (by omega) (by omega) (HL9.out.ans.mks 1))
  have HHeld := hidd (fun W xs' (hW : B4 ≤ W.heap.size) (hM : MkS W lo B4 (.slice a1 V.length k1) (lensV V) xs' 1 (lensV V).length) => heldDocX ⟨D.toArray⟩ lo B4 1 (.slice a1 V.length k1) (lensV V) xs' W hW (by omega) HLs.out (by omega) (by omega) hM)
  obtain ⟨K, hK⟩ : ∃ K, kAt (lensV V) 1 (lensV V).length = K := ⟨_, rfl⟩
  rw [hK] at HMk HHeld
  clear hK
  have hKn : ¬ (K : Int) < 0 := by omega
  have hKe : ((K : Int) != (K : Int)) = false := by simp
  dsimp only
  go_wp2_with fail
  refine HMk.out.mono ?_
  rintro e wm ⟨rfl, ⟨xs', hhm⟩, hbm⟩
  have hw9 : wb.heap.size ≤ w9.heap.size := HL9.out.base.size
  have HBm : Hid (Below wb.heap.size wb wm) := HL9.out.base.trans ⟨hbm.1, hbm.2.1, hbm.2.2.1, hbm.2.2.2.1, fun b hb => hbm.2.2.2.2 b (Or.inl (by omega)) (by omega)⟩
  have HXm : Hid (wm.heap[B4]? = some (.cells #[.string ⟨D.toArray⟩, .slice a1 V.length k1] 36)) := (hbm.2.2.2.2 B4 (Or.inr (Nat.le_refl _)) (Array.getElem?_eq_some_iff.1 HL9.out.box).1).trans HL9.out.box
  have hszm := hbm.2.2.2.1
  have hlm : B4 ≤ wm.heap.size := by omega
  have HHm := hidd hhm
  clear hhm hbm HMk HL9 x0 x1
  have x0 := blkc HXm.out 0
  have x1 := blkc HXm.out 1
  have HHe := hidd (HHeld.out wm xs' hlm HHm.out)
  dsimp only
  go_wp2_with fail
  refine HHe.out.mono ?_
  rintro e wn ⟨rfl, hbn⟩
  have HBn := hidd (HBm.out.trans (hbn.mono HBm.out.size))
  have HXn := hidd (blko HXm.out hbn)
  have HHn := hidd (HHm.out.below hlm hbn)
  have hln : B4 ≤ wn.heap.size := by have := hbn.size; omega
  clear hbn HHe HBm HXm HHm x0 x1
  dsimp only
  go_wp2_with fail
  refine (HT.out _ (by omega) (HBb.out.trans (HBn.out.mono HBb.out.size))).mono ?_
  rintro e wo ⟨rfl, howno, hbo⟩
  have HBo := hidd (HBn.out.trans (hbo.mono HBn.out.size))
  have HXo := hidd (blko HXn.out hbo)
  have HHo := hidd (HHn.out.below hln hbo)
  have hlo' : B4 ≤ wo.heap.size := by have := hbo.size; omega
  have HIo := hidd (HI.out wn.heap.size wo (HBb.out.trans (HBo.out.mono HBb.out.size)) (bytes_own howno rfl) (own_lt howno))
  clear howno hbo HBn HXn HHn
  dsimp only
  go_wp2_with fail
  refine HIo.out.mono ?_
  rintro e wp ⟨hbp, va2, xs2, lo2, rfl, _, hs2⟩
  obtain ⟨a2, k2, rfl⟩ := own_formR hs2.row
  have HBxp := hidd ((Below.refl wp.heap.size wp).alloc (Nat.le_refl _) (.cells #[.string ⟨D.toArray⟩, .slice a2 V.length k2] 36))
  have HX5 := hidd (heap_alloc_new wp (.cells #[.string ⟨D.toArray⟩, .slice a2 V.length k2] 36))
  have HHp := hidd hs2.hold
  have HBp := hidd (HBo.out.trans (hbp.mono HBo.out.size))
  have HXp := hidd (blko HXo.out hbp)
  have HHp1 := hidd (HHo.out.below hlo' hbp)
  have hlp : B4 ≤ wp.heap.size := by have := hbp.size; omega
  clear hs2 hbp HIo HBo HXo HHo
  dsimp only
  go_upto_region 23 with fail
  obtain ⟨wq, hwq⟩ : ∃ wq, wp.alloc (.cells #[.string ⟨D.toArray⟩, .slice a2 V.length k2] 36) = wq := ⟨_, rfl⟩
  rw [hwq] at HBxp HX5
  try rw [hwq]
  clear hwq
  have HBq := hidd (HBp.out.trans (HBxp.out.mono HBp.out.size))
  have HXq := hidd (blko HXp.out HBxp.out)
  have HHq := hidd (HHp.out.below HBxp.out)
  have HHq1 := hidd (HHp1.out.below hlp HBxp.out)
  have hlq : B4 ≤ wq.heap.size := by have := HBxp.out.size; omega
  clear HBp HXp HHp HHp1 HBxp
  have z0 := blkc HX5.out 0
  have z1 := blkc HX5.out 1
  have y0 := blkc (blko HX2.out HBq.out) 0
  have y1 := blkc (blko HX2.out HBq.out) 1
  have HEq := hidd (eqDoc_any D a2 a0 k2 k0 V wq (by omega) HA.out HHq.out (HH2.out.below HBq.out))
  go_wp2_with fail
  refine HEq.out.mono ?_
  rintro e wr ⟨rfl, hbr⟩
  have HBr := hidd (HBq.out.trans (hbr.mono HBq.out.size))
  have HXr := hidd (blko HXq.out hbr)
  have HHr := hidd (HHq1.out.below hlq hbr)
  have hlr : B4 ≤ wr.heap.size := by have := hbr.size; omega
  clear hbr HEq HBq HXq HHq HHq1 z0 z1 y0 y1
  have x0 := blkc HXr.out 0
  have x1 := blkc HXr.out 1
  have HHe := hidd (HHeld.out wr xs' hlr HHr.out)
  dsimp only
  go_wp2_with fail
  refine HHe.out.mono ?_
  rintro e ws ⟨rfl, hbs⟩
  have HBs : Hid (Below w.heap.size w ws) := HBb.out.trans ((HBr.out.trans (hbs.mono HBr.out.size)).mono HBb.out.size)
  clear hbs HHe
  dsimp only
  go_wp2_with fail
  go_ret
  exact ⟨rfl, HBs.out⟩
end Go.Proofs.YtnekdkafhoacoaaDoor
