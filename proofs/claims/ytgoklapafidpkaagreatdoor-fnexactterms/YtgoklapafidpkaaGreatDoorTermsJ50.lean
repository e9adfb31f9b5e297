import Derived.Test.YtgoklapafidpkaaGreatDoorTermsJ43
import Derived.Test.YtgoklapafidpkaaGreatDoorTermsJ48
import Derived.Test.YtgoklapafidpkaaGreatDoorTermsJ49
namespace Go.Proofs.YtgoklapafidpkaaGreatDoor
open Go Go.RowKit
set_option linter.unusedVariables false
set_option maxRecDepth 100000

theorem termsO_len (l : List Fd) (id : List UInt8) (V : List Vl) (n : List UInt8) : (termsO l id V n).1.length ≤ 131072 := by
  unfold termsO
  split
  · simp
  · split
    · simp
    · rename_i hok
      have hd : dOK l id V = true := by
        have : (scOK l && dOK l id V) = true := by simpa using hok
        simp only [Bool.and_eq_true] at this
        exact this.2
      have hsh := (short_of hd n).1
      split
      · simp
      · split
        · simp
        · unfold termsV
          dsimp only
          split
          · rw [wordTo_len]; omega
          · have := (textTo_small (l.getD (fldIx l n) fd0) (valV V n).2.1 (valV V n).2.1.length).2
            omega
theorem tok_keep {W W' : World} {g base n : Nat} {v : Value} {xs : List Value} (h : W.ownsRow base 63 4 v n xs) (hf : Fv W W' g) : W'.ownsRow base 63 4 v n xs :=
  own_congr h fun b hb => by
    obtain ⟨_, cur, hc⟩ := own_blk h hb
    exact hf.typ b cur _ hc (by decide) (by decide) (by decide) (by decide) (by decide)
theorem box_keep {W W' : World} {g b : Nat} {cs : Array Value} {t : TypeId} (h : W.heap[b]? = some (Obj.cells cs t)) (hf : Fv W W' g) (ht : t = 24 ∨ t = 27 ∨ t = 33 ∨ t = 37) : W'.heap[b]? = some (Obj.cells cs t) :=
  (hf.typ b cs t h (by rcases ht with rfl | rfl | rfl | rfl <;> decide) (by rcases ht with rfl | rfl | rfl | rfl <;> decide) (by rcases ht with rfl | rfl | rfl | rfl <;> decide) (by rcases ht with rfl | rfl | rfl | rfl <;> decide) (by rcases ht with rfl | rfl | rfl | rfl <;> decide)).trans h
set_option maxHeartbeats 32000000 in
theorem termsLaw_any (a : Option Addr) (cap : Nat) (l : List Fd) (id : List UInt8) (av : Option Addr) (cv : Nat) (V : List Vl) (n : List UInt8) (w : World) (hT : Tabs w) (hn : l.length ≤ 9223372036854775807) (hA : ∀ i, FdLen (l.getD i fd0)) (hS : HoldF w a l) (hi : id.length ≤ 9223372036854775807) (hv : V.length ≤ 9223372036854775807) (hB : ∀ i, VlLen (V.getD i vl0)) (hH : HoldV w av V) (hnl : n.length ≤ 9223372036854775807) :
    Calls Tryz.prog 4 #[.agg #[.slice a l.length cap], .agg #[.string ⟨id.toArray⟩, .slice av V.length cv], .string (bs n)] w fun e w' => e = .returned (.bool true) ∧ Below w.heap.size w w' := by
  have HT := hidd hT
  have HS := hidd hS
  have HH := hidd hH
  have hfl : (bs n).size = n.length := bs_size n
  have HSz := hidd (fun W (h : HoldF W a l) => szSchema_any a cap l W hn hA h)
  have HOk := hidd (fun h => szFds_ok (l := l) h)
  have hXle : szFds 1048576 l ≤ 1048576 := szFds_le l
  have HDz := hidd (fun (left : Int) W (h0 : 0 ≤ left) (h1 : left ≤ 1048576) (h : HoldV W av V) => szDoc_any id av cv V left W h0 h1 hi hv hB h)
  clear hT hS hA hB hH
  have HBa := hidd (((Below.refl w.heap.size w).alloc (Nat.le_refl _) (.cells #[.slice a l.length cap] 24)).alloc (by simp) (.cells #[.string ⟨id.toArray⟩, .slice av V.length cv] 27))
  have HX := hidd (box_two w (.cells #[.slice a l.length cap] 24) (.cells #[.string ⟨id.toArray⟩, .slice av V.length cv] 27))
  generalize szFds 1048576 l = X at *
  go_enter Tryz.func4, Tryz.ntmps4
  go_upto_region 1 with fail
  obtain ⟨wa, hwa⟩ : ∃ wa, (w.alloc (.cells #[.slice a l.length cap] 24)).alloc (.cells #[.string ⟨id.toArray⟩, .slice av V.length cv] 27) = wa := ⟨_, rfl⟩
  rw [hwa] at HBa HX
  try rw [hwa]
  clear hwa
  by_cases hlong : 1048576 < n.length
  · have zl : (1048576 : Int) < (n.length : Int) := by omega
    go_wp2_with fail
    go_ret
    exact ⟨rfl, HBa.out⟩
  have zl : ¬ (1048576 : Int) < (n.length : Int) := by omega
  have hn20 : n.length ≤ 1048576 := by omega
  have s0 : wa.cell? ⟨w.heap.size, 0, none⟩ = some (.slice a l.length cap) := blkc HX.out.1 0
  go_wp2_with fail
  refine (HSz.out _ (HS.out.below HBa.out)).mono ?_
  rintro e w1 ⟨rfl, hb1⟩
  have HB1 := hidd (HBa.out.trans (hb1.mono HBa.out.size))
  have HX1 := hidd (And.intro (blko HX.out.1 hb1) (blko HX.out.2 hb1))
  clear hb1 s0 HX HBa
  by_cases hX0 : X < 0
  · go_wp2_with fail
    go_ret
    exact ⟨rfl, HB1.out⟩
  obtain ⟨hn2, hA2⟩ := HOk.out (by omega)
  have HA2 := hidd hA2
  have HTo := hidd (fun W (h : HoldF W a l) => toSchemaR_any a cap l W hn2 hA2 h)
  clear hA2 HSz HOk
  have d0 : w1.cell? ⟨w.heap.size + 1, 0, none⟩ = some (.string ⟨id.toArray⟩) := blkc HX1.out.2 0
  have d1 : w1.cell? ⟨w.heap.size + 1, 1, none⟩ = some (.slice av V.length cv) := blkc HX1.out.2 1
  have HDx := hidd (fun W (h : HoldV W av V) => HDz.out X W (by omega) (by omega) h)
  have HDk := hidd (fun h => szDcL_ok (left := X) (d := (id, V)) (by omega) (by omega) h)
  clear HDz
  obtain ⟨Y, hY⟩ : ∃ Y, szDcL X (id, V) = Y := ⟨_, rfl⟩
  rw [hY] at HDx HDk
  clear hY
  go_wp2_with fail
  refine (HDx.out _ (HH.out.below HB1.out)).mono ?_
  rintro e w2 ⟨rfl, hb2⟩
  have HB2 := hidd (HB1.out.trans (hb2.mono HB1.out.size))
  have HX2 := hidd (And.intro (blko HX1.out.1 hb2) (blko HX1.out.2 hb2))
  clear hb2 d0 d1 HX1 HB1 HDx
  by_cases hY0 : Y < 0
  · go_wp2_with fail
    go_ret
    exact ⟨rfl, HB2.out⟩
  obtain ⟨hi2, hv2, hB2, hbo⟩ := HDk.out (by omega)
  try dsimp only at hi2 hv2 hB2 hbo
  have HV2 : Hid (VsSz V) := ⟨hv2, hB2, hbo⟩
  have HTd := hidd (fun W (h : HoldV W av V) => toDoc_any id av cv V W hv2 hB2 h)
  have HBs := hidd hB2
  clear HDk hB2 hbo
  have hLn := termsO_len l id V n
  have HSp := hidd (fun (g c gd cd : Nat) W (h1 : HoldF W (some ⟨g, 0, none⟩) l) (h2 : HoldV W (some ⟨gd, 0, none⟩) V) => specTerms_any (some ⟨g, 0, none⟩) c l id (some ⟨gd, 0, none⟩) cd V n W hn2 HA2.out h1 hi2 HV2.out h2 hn20)
  have HIm := hidd (fun (g c gd cd : Nat) W (hT : Tabs W) (h1 : HoldF W (some ⟨g, 0, none⟩) l) (h2 : HoldV W (some ⟨gd, 0, none⟩) V) => implTerms_any (some ⟨g, 0, none⟩) c l id (some ⟨gd, 0, none⟩) cd V n W hT hn2 HA2.out h1 hi2 HV2.out h2 hn20)
  generalize termsO l id V n = O at *
  obtain ⟨L, C⟩ := O
  unfold TmC at HSp HIm
  dsimp only at hLn HSp HIm
  have s0 : w2.cell? ⟨w.heap.size, 0, none⟩ = some (.slice a l.length cap) := blkc HX2.out.1 0
  have d0 : w2.cell? ⟨w.heap.size + 1, 0, none⟩ = some (.string ⟨id.toArray⟩) := blkc HX2.out.2 0
  have d1 : w2.cell? ⟨w.heap.size + 1, 1, none⟩ = some (.slice av V.length cv) := blkc HX2.out.2 1
  have hbd : Below w2.heap.size w2 w2.drew := below_drewN (Below.refl _ _) 1
  have HBd := hidd hbd
  have HSd := hidd ((HS.out.below HB2.out).below hbd)
  have HVd := hidd ((HH.out.below HB2.out).below hbd)
  have HXd := hidd (blko HX2.out.2 hbd)
  clear hbd
  go_upto_region 10 with fail
  go_cut [8, 9] (fun v c wy => c = .int .i64 C ∧ wy.ownsRow w2.heap.size 63 4 v L.length (toksCells L) ∧ Below w2.heap.size w2 wy)
  case first =>
    go_region_with (first
      | (go_at_call 9; refine (HTo.out _ HSd.out).mono ?_; rintro e' wq ⟨gq, rfl, hgq, hhq, hbq⟩; have e0 : wq.cell? ⟨w.heap.size + 1, 0, none⟩ = some (.string ⟨id.toArray⟩) := blkc (blko HXd.out hbq) 0; have e1 : wq.cell? ⟨w.heap.size + 1, 1, none⟩ = some (.slice av V.length cv) := blkc (blko HXd.out hbq) 1)
      | (go_at_call 10; refine (HTd.out _ (HVd.out.below hbq)).mono ?_; rintro e'' wp ⟨gp, rfl, hgp, hhp, hbp⟩)
      | (go_at_call 14; refine (HSp.out _ _ _ _ _ (hhq.below hbp).row.hold hhp.hold).mono ?_; rintro e3 wo ⟨v3, rfl, hown3, hbo⟩))
    all_goals
      go_wp2_with fail
      go_meet
      refine ⟨rfl, ownG_mono hown3 (Nat.le_trans HBd.out.size (Nat.le_trans hbq.size hbp.size)), HBd.out.trans (((hbq.trans (hbp.mono hbq.size)).trans (hbo.mono (Nat.le_trans hbq.size hbp.size))).mono HBd.out.size)⟩
  case rest =>
  obtain ⟨rfl, hown0, hb3⟩ := hcut
  have HO03 := hidd hown0
  have HB3 := hidd (HB2.out.trans (hb3.mono HB2.out.size))
  have HX3 := hidd (And.intro (blko HX2.out.1 hb3) (blko HX2.out.2 hb3))
  have HV0 := hidd (own4_lt hown0)
  clear hown0 hb3 s0 d0 d1 HX2 HBd HSd HVd HXd HSp
  obtain ⟨w3, hw3⟩ : ∃ w3, w3 = wc := ⟨_, rfl⟩
  rw [← hw3] at HO03 HB3 HX3 HV0
  rw [← hw3]
  clear hw3
  have HB3sz : Hid (w.heap.size ≤ w3.heap.size) := HB3.out.size
  have s0 : w3.cell? ⟨w.heap.size, 0, none⟩ = some (.slice a l.length cap) := blkc HX3.out.1 0
  go_wp2_with fail
  refine (HTo.out _ (HS.out.below HB3.out)).mono ?_
  rintro e w4 ⟨g4, rfl, hg4, hh4, hb4⟩
  have HB4 := hidd (HB3.out.trans (hb4.mono HB3.out.size))
  have HX4 := hidd (And.intro (blko HX3.out.1 hb4) (blko HX3.out.2 hb4))
  have HH4 := hidd hh4
  have HO04 := hidd (own4_below HO03.out hb4)
  have hz34 := hb4.size
  clear hh4 hb4 s0 HX3 HB3 HO03
  dsimp only
  go_upto_region 12 with fail
  have HB5a := hidd ((Below.refl w4.heap.size w4).alloc (Nat.le_refl _) (.cells #[.slice (some ⟨g4, 0, none⟩) l.length l.length] 33))
  have HX5a := hidd (heap_alloc_new w4 (.cells #[.slice (some ⟨g4, 0, none⟩) l.length l.length] 33))
  obtain ⟨w5, hw5⟩ : ∃ w5, w4.alloc (.cells #[.slice (some ⟨g4, 0, none⟩) l.length l.length] 33) = w5 := ⟨_, rfl⟩
  rw [hw5] at HB5a HX5a
  try rw [hw5]
  clear hw5
  have HB5 := hidd (HB4.out.trans (HB5a.out.mono HB4.out.size))
  have HX5 := hidd (And.intro (blko HX4.out.1 HB5a.out) (blko HX4.out.2 HB5a.out))
  have HH5 := hidd (HH4.out.below HB5a.out)
  have HO05 := hidd (own4_below HO04.out HB5a.out)
  have hz45 := HB5a.out.size
  clear HX4 HH4 HB4 HB5a HO04
  have d0 : w5.cell? ⟨w.heap.size + 1, 0, none⟩ = some (.string ⟨id.toArray⟩) := blkc HX5.out.2 0
  have d1 : w5.cell? ⟨w.heap.size + 1, 1, none⟩ = some (.slice av V.length cv) := blkc HX5.out.2 1
  go_wp2_with fail
  refine (HTd.out _ (HH.out.below HB5.out)).mono ?_
  rintro e w6 ⟨g6, rfl, hg6, hh6, hb6⟩
  have HB6 := hidd (HB5.out.trans (hb6.mono HB5.out.size))
  have HX6 := hidd (And.intro (blko HX5.out.1 hb6) (blko HX5.out.2 hb6))
  have HY6 := hidd (blko HX5a.out hb6)
  have HH6 := hidd (HH5.out.below hb6)
  have HD6 := hidd hh6
  have HO06 := hidd (own4_below HO05.out hb6)
  have hz56 := hb6.size
  clear hh6 hb6 d0 d1 HX5 HH5 HB5 HX5a HO05
  dsimp only
  go_upto_region 13 with fail
  have HB7a := hidd ((Below.refl w6.heap.size w6).alloc (Nat.le_refl _) (.cells #[.string ⟨id.toArray⟩, .slice (some ⟨g6, 0, none⟩) V.length V.length] 37))
  have HX7a := hidd (heap_alloc_new w6 (.cells #[.string ⟨id.toArray⟩, .slice (some ⟨g6, 0, none⟩) V.length V.length] 37))
  obtain ⟨w7, hw7⟩ : ∃ w7, w6.alloc (.cells #[.string ⟨id.toArray⟩, .slice (some ⟨g6, 0, none⟩) V.length V.length] 37) = w7 := ⟨_, rfl⟩
  rw [hw7] at HB7a HX7a
  try rw [hw7]
  clear hw7
  have HB7 := hidd (HB6.out.trans (HB7a.out.mono HB6.out.size))
  have HX7 := hidd (And.intro (blko HX6.out.1 HB7a.out) (blko HX6.out.2 HB7a.out))
  have HY7 := hidd (blko HY6.out HB7a.out)
  have HH7 := hidd (HH6.out.below HB7a.out)
  have HD7 := hidd (HD6.out.below HB7a.out)
  have HO07 := hidd (own4_below HO06.out HB7a.out)
  have hz67 := HB7a.out.size
  clear HX6 HH6 HD6 HB6 HB7a HY6 HO06
  have x0 : w7.cell? ⟨w4.heap.size, 0, none⟩ = some (.slice (some ⟨g4, 0, none⟩) l.length l.length) := blkc HY7.out 0
  have y0 : w7.cell? ⟨w6.heap.size, 0, none⟩ = some (.string ⟨id.toArray⟩) := blkc HX7a.out 0
  have y1 : w7.cell? ⟨w6.heap.size, 1, none⟩ = some (.slice (some ⟨g6, 0, none⟩) V.length V.length) := blkc HX7a.out 1
  go_wp2_with fail
  refine (HIm.out _ _ _ _ _ (HT.out.below HB7.out) HH7.out.row.hold HD7.out.hold).mono ?_
  rintro e w8 ⟨v1, rfl, hown1, hb8⟩
  have HO18 := hidd hown1
  have HO08 := hidd (own4_below HO07.out hb8)
  have HB8 := hidd (HB7.out.trans (hb8.mono HB7.out.size))
  have HX8 := hidd (And.intro (blko HX7.out.1 hb8) (blko HX7.out.2 hb8))
  have HY8 := hidd (blko HY7.out hb8)
  have HZ8 := hidd (blko HX7a.out hb8)
  have HH8 := hidd (HH7.out.below hb8)
  have HD8 := hidd (HD7.out.below hb8)
  have hz78 := hb8.size
  have hsz7 := HB7.out.size
  have hX7 := (Array.getElem?_eq_some_iff.1 HX7.out.2).1
  have HB7sz : Hid (w.heap.size + 1 < w7.heap.size ∧ w.heap.size ≤ g4 ∧ w.heap.size ≤ g6 ∧ w3.heap.size ≤ w7.heap.size) := ⟨hX7, by have := HB3sz.out; omega, by have := HB3sz.out; omega, by omega⟩
  clear hsz7 hX7
  clear hown1 hb8 x0 y0 y1 HX7 HH7 HD7 HB7 HY7 HX7a HO07
  have hCC : (C != C) = false := by simp
  dsimp only
  go_wp2_with fail
  refine (eqToks_own _ _ v1 u8 L _ (by omega) HO18.out HO08.out).mono ?_
  rintro e w9 ⟨rfl, hb9⟩
  have HO19 := hidd (own4_below HO18.out hb9)
  have HO09 := hidd (own4_below HO08.out hb9)
  have HB9 := hidd (HB8.out.trans (hb9.mono HB8.out.size))
  have HX9 := hidd (And.intro (blko HX8.out.1 hb9) (blko HX8.out.2 hb9))
  have HY9 := hidd (blko HY8.out hb9)
  have HZ9 := hidd (blko HZ8.out hb9)
  have HH9 := hidd (HH8.out.below hb9)
  have HD9 := hidd (HD8.out.below hb9)
  have hz89 := hb9.size
  clear hb9 HX8 HH8 HD8 HB8 HY8 HZ8 HO18 HO08
  dsimp only
  have s0 : w9.cell? ⟨w.heap.size, 0, none⟩ = some (.slice a l.length cap) := blkc HX9.out.1 0
  have x0 : w9.cell? ⟨w4.heap.size, 0, none⟩ = some (.slice (some ⟨g4, 0, none⟩) l.length l.length) := blkc HY9.out 0
  have hbd : Below w9.heap.size w9 w9.drew := below_drewN (Below.refl _ _) 1
  have HBd := hidd hbd
  have HSd := hidd ((HS.out.below HB9.out).below hbd)
  have HHd := hidd (HH9.out.below hbd)
  have HYd := hidd (blko HY9.out hbd)
  clear hbd
  go_upto_region 16 with fail
  go_cut [65] (fun cv wy => cv = .bool false ∧ Below w9.heap.size w9 wy)
  case first =>
    go_region_with (first
      | (go_at_call 9; refine (HTo.out _ HSd.out).mono ?_; rintro e' wq ⟨gq, rfl, hgq, hhq, hbq⟩; have e0 : wq.cell? ⟨w4.heap.size, 0, none⟩ = some (.slice (some ⟨g4, 0, none⟩) l.length l.length) := blkc (blko HYd.out hbq) 0)
      | (go_at_call 12; refine (eqSchema_any _ _ _ _ l _ hn2 HA2.out (HHd.out.below hbq).row hhq.row).mono ?_; rintro e'' wp ⟨rfl, hbp⟩))
    all_goals
      go_wp2_with fail
      go_meet
      exact ⟨rfl, HBd.out.trans ((hbq.trans (hbp.mono hbq.size)).mono HBd.out.size)⟩
  case rest =>
  obtain ⟨rfl, hb10⟩ := hcut
  obtain ⟨w10, hw10⟩ : ∃ w10, w10 = wc := ⟨_, rfl⟩
  rw [← hw10] at hb10
  rw [← hw10]
  clear hw10
  have HO1A := hidd (own4_below HO19.out hb10)
  have HO0A := hidd (own4_below HO09.out hb10)
  have HBA := hidd (HB9.out.trans (hb10.mono HB9.out.size))
  have HXA := hidd (And.intro (blko HX9.out.1 hb10) (blko HX9.out.2 hb10))
  have HYA := hidd (blko HY9.out hb10)
  have HZA := hidd (blko HZ9.out hb10)
  have HHA := hidd (HH9.out.below hb10)
  have HDA := hidd (HD9.out.below hb10)
  have hzA := hb10.size
  clear hb10 s0 x0 HX9 HH9 HD9 HB9 HY9 HZ9 HO19 HO09 HBd HSd HHd HYd
  have d0 : w10.cell? ⟨w.heap.size + 1, 0, none⟩ = some (.string ⟨id.toArray⟩) := blkc HXA.out.2 0
  have d1 : w10.cell? ⟨w.heap.size + 1, 1, none⟩ = some (.slice av V.length cv) := blkc HXA.out.2 1
  have y0 : w10.cell? ⟨w6.heap.size, 0, none⟩ = some (.string ⟨id.toArray⟩) := blkc HZA.out 0
  have y1 : w10.cell? ⟨w6.heap.size, 1, none⟩ = some (.slice (some ⟨g6, 0, none⟩) V.length V.length) := blkc HZA.out 1
  have hbd : Below w10.heap.size w10 w10.drew := below_drewN (Below.refl _ _) 1
  have HBd := hidd hbd
  have HVd := hidd ((HH.out.below HBA.out).below hbd)
  have HDd := hidd (HDA.out.below hbd)
  have HZd := hidd (blko HZA.out hbd)
  clear hbd
  go_upto_region 18 with fail
  go_cut [70] (fun cv wy => cv = .bool false ∧ Below w10.heap.size w10 wy)
  case first =>
    go_region_with (first
      | (go_at_call 10; refine (HTd.out _ HVd.out).mono ?_; rintro e' wq ⟨gq, rfl, hgq, hhq, hbq⟩; have e0 : wq.cell? ⟨w6.heap.size, 0, none⟩ = some (.string ⟨id.toArray⟩) := blkc (blko HZd.out hbq) 0; have e1 : wq.cell? ⟨w6.heap.size, 1, none⟩ = some (.slice (some ⟨g6, 0, none⟩) V.length V.length) := blkc (blko HZd.out hbq) 1)
      | (go_at_call 13; refine (eqDoc_any id _ _ _ _ V _ hv2 HBs.out (HDd.out.below hbq).hold hhq.hold).mono ?_; rintro e'' wp ⟨rfl, hbp⟩))
    all_goals
      go_wp2_with fail
      go_meet
      exact ⟨rfl, HBd.out.trans ((hbq.trans (hbp.mono hbq.size)).mono HBd.out.size)⟩
  case rest =>
  obtain ⟨rfl, hb11⟩ := hcut
  obtain ⟨w11, hw11⟩ : ∃ w11, w11 = wc := ⟨_, rfl⟩
  rw [← hw11] at hb11
  rw [← hw11]
  clear hw11
  have HO1B := hidd (own4_below HO1A.out hb11)
  have HO0B := hidd (own4_below HO0A.out hb11)
  have HBB := hidd (HBA.out.trans (hb11.mono HBA.out.size))
  have HXB := hidd (And.intro (blko HXA.out.1 hb11) (blko HXA.out.2 hb11))
  have HYB := hidd (blko HYA.out hb11)
  have HZB := hidd (blko HZA.out hb11)
  have HFB := hidd (HHA.out.below hb11).str
  have HDB := hidd (HDA.out.below hb11).str
  have hzB := hb11.size
  have hzw := HBB.out.size
  clear hb11 d0 d1 y0 y1 HXA HHA HDA HBA HYA HZA HO1A HO0A HBd HVd HDd HZd
  have x0 : w11.cell? ⟨w4.heap.size, 0, none⟩ = some (.slice (some ⟨g4, 0, none⟩) l.length l.length) := blkc HYB.out 0
  have HLf : Hid (∀ i, ((l.map fun f => (f.stops.length, f.syns.length)).getD i (0, 0)).1 ≤ 1048576 ∧ ((l.map fun f => (f.stops.length, f.syns.length)).getD i (0, 0)).2 ≤ 1048576) := fun i => by
    have h9 := HA2.out i
    by_cases hh : i < l.length
    · simp [List.getD_eq_getElem?_getD, hh] at h9 ⊢
      exact ⟨h9.2.1, h9.2.2.1⟩
    · simp [List.getD_eq_getElem?_getD, hh]
  have HLs : Hid (∀ i, ((V.map fun v => (v.2.1.length, v.2.2.length)).getD i (0, 0)).1 ≤ 1048576 ∧ ((V.map fun v => (v.2.1.length, v.2.2.length)).getD i (0, 0)).2 ≤ 1048576) := fun i => by
    have h9 := HBs.out i
    by_cases hh : i < V.length
    · simp [List.getD_eq_getElem?_getD, hh] at h9 ⊢
      omega
    · simp [List.getD_eq_getElem?_getD, hh]
  have HMk := hidd (markSchema_any g4 l.length (l.map fun f => (f.stops.length, f.syns.length)) w11 (by rw [List.length_map]; exact hn2) HLf.out HFB.out)
  rw [List.length_map] at HMk
  clear HLf HFB
  go_wp2_with fail
  refine HMk.out.mono ?_
  rintro e w12 ⟨k12, rfl, hk0, hk1, hf12⟩
  have hba := (Below.refl w11.heap.size w11).alloc (Nat.le_refl _) (.cells #[.slice (some ⟨g4, 0, none⟩) l.length l.length] 33)
  have hF := (Fv.of hba g4).trans hf12
  have HO1C := hidd (tok_keep HO1B.out hF)
  have HO0C := hidd (tok_keep HO0B.out hF)
  have HXC := hidd (And.intro (box_keep HXB.out.1 hF (Or.inl rfl)) (box_keep HXB.out.2 hF (Or.inr (Or.inl rfl))))
  have HZC := hidd (box_keep HZB.out hF (Or.inr (Or.inr (Or.inr rfl))))
  have HDC := hidd (hF.str _ _ HDB.out)
  have hgw : w.heap.size ≤ g4 := by have := HB7sz.out; omega
  have HBC : Hid (Below w.heap.size w w12) := HBB.out.trans (hF.below hgw hzw)
  have hzC := hF.size
  clear hba hf12 hF HMk x0 HO1B HO0B HXB HZB HDB HBB HYB
  have y0 : w12.cell? ⟨w6.heap.size, 0, none⟩ = some (.string ⟨id.toArray⟩) := blkc HZC.out 0
  have y1 : w12.cell? ⟨w6.heap.size, 1, none⟩ = some (.slice (some ⟨g6, 0, none⟩) V.length V.length) := blkc HZC.out 1
  have HMd := hidd (markDoc_any id g6 V.length k12 (V.map fun v => (v.2.1.length, v.2.2.length)) w12 hk0 hk1 (by rw [List.length_map]; exact hv2) HLs.out HDC.out)
  rw [List.length_map] at HMd
  clear HLs HDC
  dsimp only
  go_wp2_with fail
  refine HMd.out.mono ?_
  rintro e w13 ⟨k13, rfl, hf13⟩
  have hba := (Below.refl w12.heap.size w12).alloc (Nat.le_refl _) (.cells #[.string ⟨id.toArray⟩, .slice (some ⟨g6, 0, none⟩) V.length V.length] 37)
  have hF := (Fv.of hba g6).trans hf13
  have HO1D := hidd (tok_keep HO1C.out hF)
  have HO0D := hidd (tok_keep HO0C.out hF)
  have HXD := hidd (And.intro (box_keep HXC.out.1 hF (Or.inl rfl)) (box_keep HXC.out.2 hF (Or.inr (Or.inl rfl))))
  have hgw6 : w.heap.size ≤ g6 := by have := HB7sz.out; omega
  have HBD : Hid (Below w.heap.size w w13) := HBC.out.trans (hF.below hgw6 HBC.out.size)
  have hzD := hF.size
  clear hba hf13 hF HMd y0 y1 HO1C HO0C HXC HZC HBC
  have hk13 : ¬ (k13 : Int) < 0 := by omega
  dsimp only
  go_wp2_with fail
  refine (eqToks_own _ _ v1 u8 L _ (by omega) HO1D.out HO0D.out).mono ?_
  rintro e w14 ⟨rfl, hb14⟩
  have HO1E := hidd (own4_below HO1D.out hb14)
  have HO0E := hidd (own4_below HO0D.out hb14)
  have HBE := hidd (HBD.out.trans (hb14.mono HBD.out.size))
  have HXE := hidd (And.intro (blko HXD.out.1 hb14) (blko HXD.out.2 hb14))
  have hzE := hb14.size
  clear hb14 HO1D HO0D HBD HXD
  dsimp only
  go_wp2_with fail
  refine (markToks_own _ L.length v1 _ 1 _ (by omega) (by omega) (by omega) (by omega) HO1E.out).mono ?_
  rintro e w15 ⟨rfl, hown15, hg15⟩
  have HN : Hid (u8.ownBlock = none ∨ u8.ownBlock ≠ v1.ownBlock) := by
    show _ ∨ _
    rcases own4_cases HO0E.out with ⟨h, _⟩ | ⟨g, c, h, _, _⟩
    · exact Or.inl (by rw [h]; rfl)
    · refine Or.inr fun e => ?_
      have h1 := HV0.out g (by rw [h]; rfl)
      have h2 := own4_block HO1E.out g (by rw [← e, h]; rfl)
      omega
  have HO1F := hidd hown15
  have HO0F := hidd (HO0E.out.kept hg15 HN.out)
  have hzE2 := HBE.out.size
  have HBF : Hid (Below w.heap.size w w15) := HBE.out.grown hg15 hzE2 (fun k hk => by have := own4_block HO1E.out k hk; have := HB7sz.out; omega)
  have HXF : Hid (w15.heap[w.heap.size]? = some (.cells #[.slice a l.length cap] 24) ∧ w15.heap[w.heap.size + 1]? = some (.cells #[.string ⟨id.toArray⟩, .slice av V.length cv] 27)) := ⟨(hg15.block _ (Array.getElem?_eq_some_iff.1 HXE.out.1).1 (own4_low HO1E.out (by have := HB7sz.out; omega))).trans HXE.out.1, (hg15.block _ (Array.getElem?_eq_some_iff.1 HXE.out.2).1 (own4_low HO1E.out (by have := HB7sz.out; omega))).trans HXE.out.2⟩
  have hzF := hg15.size
  clear hown15 hg15 HO1E HO0E HBE HXE
  dsimp only
  go_wp2_with fail
  refine (heldToks_own _ L.length v1 1 _ (by omega) (by omega) (by omega) HO1F.out).mono ?_
  rintro e w16 ⟨rfl, hb16⟩
  have HO1G := hidd (own4_below HO1F.out hb16)
  have HO0G := hidd (own4_below HO0F.out hb16)
  have HBG := hidd (HBF.out.trans (hb16.mono HBF.out.size))
  have HXG := hidd (And.intro (blko HXF.out.1 hb16) (blko HXF.out.2 hb16))
  clear hb16 HO1F HO0F HBF HXF
  dsimp only
  have s0 : w16.cell? ⟨w.heap.size, 0, none⟩ = some (.slice a l.length cap) := blkc HXG.out.1 0
  have d0 : w16.cell? ⟨w.heap.size + 1, 0, none⟩ = some (.string ⟨id.toArray⟩) := blkc HXG.out.2 0
  have d1 : w16.cell? ⟨w.heap.size + 1, 1, none⟩ = some (.slice av V.length cv) := blkc HXG.out.2 1
  have hbd : Below w16.heap.size w16 w16.drew := below_drewN (Below.refl _ _) 1
  have HBd := hidd hbd
  have HSd := hidd ((HS.out.below HBG.out).below hbd)
  have HVd := hidd ((HH.out.below HBG.out).below hbd)
  have HTdr := hidd ((HT.out.below HBG.out).below hbd)
  have HXd := hidd (blko HXG.out.2 hbd)
  clear hbd
  go_upto_region 33 with fail
  go_cut [17, 18] (fun v c wy => c = .int .i64 C ∧ wy.ownsRow w16.heap.size 63 4 v L.length (toksCells L) ∧ Below w16.heap.size w16 wy)
  case first =>
    go_region_with (first
      | (go_at_call 9; refine (HTo.out _ HSd.out).mono ?_; rintro e' wq ⟨gq, rfl, hgq, hhq, hbq⟩; have e0 : wq.cell? ⟨w.heap.size + 1, 0, none⟩ = some (.string ⟨id.toArray⟩) := blkc (blko HXd.out hbq) 0; have e1 : wq.cell? ⟨w.heap.size + 1, 1, none⟩ = some (.slice av V.length cv) := blkc (blko HXd.out hbq) 1)
      | (go_at_call 10; refine (HTd.out _ (HVd.out.below hbq)).mono ?_; rintro e'' wp ⟨gp, rfl, hgp, hhp, hbp⟩)
      | (go_at_call 15; refine (HIm.out _ _ _ _ _ ((HTdr.out.below hbq).below hbp) (hhq.below hbp).row.hold hhp.hold).mono ?_; rintro e3 wo ⟨v3, rfl, hown3, hbo⟩))
    all_goals
      go_wp2_with fail
      go_meet
      refine ⟨rfl, ownG_mono hown3 (Nat.le_trans HBd.out.size (Nat.le_trans hbq.size hbp.size)), HBd.out.trans (((hbq.trans (hbp.mono hbq.size)).trans (hbo.mono (Nat.le_trans hbq.size hbp.size))).mono HBd.out.size)⟩
  case rest =>
  obtain ⟨rfl, hown2, hb17⟩ := hcut
  obtain ⟨w17, hw17⟩ : ∃ w17, w17 = wc := ⟨_, rfl⟩
  rw [← hw17] at hown2 hb17
  rw [← hw17]
  clear hw17
  have HO2H := hidd hown2
  have HO1H := hidd (own4_below HO1G.out hb17)
  have HO0H := hidd (own4_below HO0G.out hb17)
  have HBH := hidd (HBG.out.trans (hb17.mono HBG.out.size))
  clear hown2 hb17 s0 d0 d1 HO1G HO0G HBG HXG HBd HSd HVd HTdr HXd
  go_wp2_with fail
  refine (eqToks_own _ _ _ u8 L _ (by omega) HO2H.out HO0H.out).mono ?_
  rintro e w18 ⟨rfl, hb18⟩
  have HO1I := hidd (own4_below HO1H.out hb18)
  have HBI := hidd (HBH.out.trans (hb18.mono HBH.out.size))
  clear hb18 HO2H HO0H HO1H HBH
  dsimp only
  go_wp2_with fail
  refine (heldToks_own _ L.length v1 1 _ (by omega) (by omega) (by omega) HO1I.out).mono ?_
  rintro e w19 ⟨rfl, hb19⟩
  have HBJ := hidd (HBI.out.trans (hb19.mono HBI.out.size))
  clear hb19
  dsimp only
  go_wp2_with fail
  go_ret
  exact ⟨rfl, HBJ.out⟩
end Go.Proofs.YtgoklapafidpkaaGreatDoor
