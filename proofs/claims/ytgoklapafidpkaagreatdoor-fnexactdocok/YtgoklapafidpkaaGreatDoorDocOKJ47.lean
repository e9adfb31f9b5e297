import Derived.Test.YtgoklapafidpkaaGreatDoorDocOKJ41
import Derived.Test.YtgoklapafidpkaaGreatDoorDocOKJ43
import Derived.Test.YtgoklapafidpkaaGreatDoorDocOKJ08
import Derived.Test.YtgoklapafidpkaaGreatDoorDocOKJ44
import Derived.Test.YtgoklapafidpkaaGreatDoorDocOKJ46
import Derived.Test.YtgoklapafidpkaaGreatDoorDocOKJ45
import Derived.WalkKit
import Derived.ProofKit
import Derived.OpenShut
import Derived.Deep.SlicePairs
import Derived.ChangeOld
import Derived.Below
namespace Go.Proofs.YtgoklapafidpkaaGreatDoor
open Go Go.RowKit
set_option linter.unusedVariables false
set_option maxRecDepth 100000

theorem szFdGo_le : ∀ (l : List Fd) (left : Int), 0 ≤ left → left ≤ 1048576 → szFdGo left l ≤ left
  | [], left, h0, h1 => by simp [szFdGo]
  | f :: t, left, h0, h1 => by
    simp only [szFdGo]
    split
    · omega
    · rename_i hn
      have h2 := (szFd_ok (f := f) h0 h1 (by omega)).1
      have h3 := szFdGo_le t (szFd left f) (by omega) (by omega)
      omega
theorem szFds_le (l : List Fd) : szFds 1048576 l ≤ 1048576 := by
  unfold szFds
  split
  · omega
  · have := szFdGo_le l (1048576 - (l.length : Int)) (by omega) (by omega)
    omega
set_option maxHeartbeats 16000000 in
theorem docOKLaw_any (a : Option Addr) (cap : Nat) (l : List Fd) (id : List UInt8) (av : Option Addr) (cv : Nat) (V : List Vl) (w : World) (hT : Tabs w) (hn : l.length ≤ 9223372036854775807) (hA : ∀ i, FdLen (l.getD i fd0)) (hS : HoldF w a l) (hi : id.length ≤ 9223372036854775807) (hv : V.length ≤ 9223372036854775807) (hB : ∀ i, VlLen (V.getD i vl0)) (hH : HoldV w av V) :
    Calls Tryz.prog 3 #[.agg #[.slice a l.length cap], .agg #[.string ⟨id.toArray⟩, .slice av V.length cv]] w fun e w' => e = .returned (.bool true) ∧ Below w.heap.size w w' := by
  have HT := hidd hT
  have HS := hidd hS
  have HH := hidd hH
  have HSz := hidd (fun W (h : HoldF W a l) => szSchema_any a cap l W hn hA h)
  have HOk := hidd (fun h => szFds_ok (l := l) h)
  have hXle : szFds 1048576 l ≤ 1048576 := szFds_le l
  have HDz := hidd (fun (left : Int) W (h0 : 0 ≤ left) (h1 : left ≤ 1048576) (h : HoldV W av V) => szDoc_any id av cv V left W h0 h1 hi hv hB h)
  clear hT hS hA hB hH
  have HBa := hidd (((Below.refl w.heap.size w).alloc (Nat.le_refl _) (.cells #[.slice a l.length cap] 24)).alloc (by simp) (.cells #[.string ⟨id.toArray⟩, .slice av V.length cv] 27))
  have HX := hidd (box_two w (.cells #[.slice a l.length cap] 24) (.cells #[.string ⟨id.toArray⟩, .slice av V.length cv] 27))
  generalize szFds 1048576 l = X at *
  go_enter Tryz.func3, Tryz.ntmps3
  go_upto_region 2 with fail
  obtain ⟨wa, hwa⟩ : ∃ wa, (w.alloc (.cells #[.slice a l.length cap] 24)).alloc (.cells #[.string ⟨id.toArray⟩, .slice av V.length cv] 27) = wa := ⟨_, rfl⟩
  rw [hwa] at HBa HX
  try rw [hwa]
  clear hwa
  have s0 : wa.cell? ⟨w.heap.size, 0, none⟩ = some (.slice a l.length cap) := blkc HX.out.1 0
  go_wp2_with fail
  refine (HSz.out _ (HS.out.below HBa.out)).mono ?_
  rintro e w1 ⟨rfl, hb1⟩
  have HB1 := hidd (HBa.out.trans (hb1.mono HBa.out.size))
  have HX1 := hidd (And.intro (blko HX.out.1 hb1) (blko HX.out.2 hb1))
  clear hb1 s0 HX HBa
  by_cases hX0 : X < 0
  · go_wp2_with fail
    go_ret
    exact ⟨rfl, HB1.out⟩
  obtain ⟨hn2, hA2⟩ := HOk.out (by omega)
  have HA2 := hidd hA2
  have HTo := hidd (fun W (h : HoldF W a l) => toSchema_any a cap l W hn2 hA2 h)
  clear hA2 HSz HOk
  have d0 : w1.cell? ⟨w.heap.size + 1, 0, none⟩ = some (.string ⟨id.toArray⟩) := blkc HX1.out.2 0
  have d1 : w1.cell? ⟨w.heap.size + 1, 1, none⟩ = some (.slice av V.length cv) := blkc HX1.out.2 1
  have HDx := hidd (fun W (h : HoldV W av V) => HDz.out X W (by omega) (by omega) h)
  have HDk := hidd (fun h => szDcL_ok (left := X) (d := (id, V)) (by omega) (by omega) h)
  clear HDz
  obtain ⟨Y, hY⟩ : ∃ Y, szDcL X (id, V) = Y := ⟨_, rfl⟩
  rw [hY] at HDx HDk
  clear hY
  go_wp2_with fail
  refine (HDx.out _ (HH.out.below HB1.out)).mono ?_
  rintro e w2 ⟨rfl, hb2⟩
  have HB2 := hidd (HB1.out.trans (hb2.mono HB1.out.size))
  have HX2 := hidd (And.intro (blko HX1.out.1 hb2) (blko HX1.out.2 hb2))
  clear hb2 d0 d1 HX1 HB1 HDx
  by_cases hY0 : Y < 0
  · go_wp2_with fail
    go_ret
    exact ⟨rfl, HB2.out⟩
  obtain ⟨hi2, hv2, hB2, hbo⟩ := HDk.out (by omega)
  try dsimp only at hi2 hv2 hB2 hbo
  have HV2 : Hid (VsSz V) := ⟨hv2, hB2, hbo⟩
  have HTd := hidd (fun W (h : HoldV W av V) => toDoc_any id av cv V W hv2 hB2 h)
  have HBs := hidd hB2
  clear HDk hB2 hbo
  have s0 : w2.cell? ⟨w.heap.size, 0, none⟩ = some (.slice a l.length cap) := blkc HX2.out.1 0
  have d0 : w2.cell? ⟨w.heap.size + 1, 0, none⟩ = some (.string ⟨id.toArray⟩) := blkc HX2.out.2 0
  have d1 : w2.cell? ⟨w.heap.size + 1, 1, none⟩ = some (.slice av V.length cv) := blkc HX2.out.2 1
  have hbd : Below w2.heap.size w2 w2.drew := below_drewN (Below.refl _ _) 1
  have HBd := hidd hbd
  have HSd := hidd ((HS.out.below HB2.out).below hbd)
  have HVd := hidd ((HH.out.below HB2.out).below hbd)
  have HXd := hidd (blko HX2.out.2 hbd)
  clear hbd
  go_upto_region 8 with fail
  obtain ⟨R, hR⟩ : ∃ R, (scOK l && dOK l id V) = R := ⟨_, rfl⟩
  have HR := hidd hR
  clear hR
  go_cut [6] (fun cv wy => cv = .bool R ∧ Below w2.heap.size w2 wy)
  case first =>
    go_region_with (first
      | (go_at_call 9; refine (HTo.out _ HSd.out).mono ?_; rintro e' wq ⟨gq, rfl, hgq, hhq, hbq⟩; have e0 : wq.cell? ⟨w.heap.size + 1, 0, none⟩ = some (.string ⟨id.toArray⟩) := blkc (blko HXd.out hbq) 0; have e1 : wq.cell? ⟨w.heap.size + 1, 1, none⟩ = some (.slice av V.length cv) := blkc (blko HXd.out hbq) 1)
      | (go_at_call 10; refine (HTd.out _ (HVd.out.below hbq)).mono ?_; rintro e'' wp ⟨gp, rfl, hgp, hhp, hbp⟩)
      | (go_at_call 8; refine (specDocOK_any _ _ l id _ _ V _ hn2 HA2.out (hhq.below hbp).hold hi2 HV2.out hhp.hold).mono ?_; rintro e3 wo ⟨rfl, hbo⟩))
    all_goals
      go_wp2_with fail
      go_meet
      refine ⟨by rw [← HR.out], HBd.out.trans (((hbq.trans (hbp.mono hbq.size)).trans (hbo.mono (Nat.le_trans hbq.size hbp.size))).mono HBd.out.size)⟩
  case rest =>
  obtain ⟨rfl, hb3⟩ := hcut
  have HB3 := hidd (HB2.out.trans (hb3.mono HB2.out.size))
  have HX3 := hidd (And.intro (blko HX2.out.1 hb3) (blko HX2.out.2 hb3))
  clear hb3 s0 d0 d1 HX2 HBd HSd HVd HXd
  have s0 : wc.cell? ⟨w.heap.size, 0, none⟩ = some (.slice a l.length cap) := blkc HX3.out.1 0
  go_wp2_with fail
  refine (HTo.out _ (HS.out.below HB3.out)).mono ?_
  rintro e w4 ⟨g4, rfl, hg4, hh4, hb4⟩
  have HB4 := hidd (HB3.out.trans (hb4.mono HB3.out.size))
  have HX4 := hidd (And.intro (blko HX3.out.1 hb4) (blko HX3.out.2 hb4))
  have HH4 := hidd hh4
  clear hh4 hb4 s0 HX3 HB3
  dsimp only
  go_upto_region 10 with fail
  have HB5a := hidd ((Below.refl w4.heap.size w4).alloc (Nat.le_refl _) (.cells #[.slice (some ⟨g4, 0, none⟩) l.length l.length] 33))
  have HX5a := hidd (heap_alloc_new w4 (.cells #[.slice (some ⟨g4, 0, none⟩) l.length l.length] 33))
  obtain ⟨w5, hw5⟩ : ∃ w5, w4.alloc (.cells #[.slice (some ⟨g4, 0, none⟩) l.length l.length] 33) = w5 := ⟨_, rfl⟩
  rw [hw5] at HB5a HX5a
  try rw [hw5]
  clear hw5
  have HB5 := hidd (HB4.out.trans (HB5a.out.mono HB4.out.size))
  have HX5 := hidd (And.intro (blko HX4.out.1 HB5a.out) (blko HX4.out.2 HB5a.out))
  have HH5 := hidd (HH4.out.below HB5a.out)
  clear HX4 HH4 HB4 HB5a
  have d0 : w5.cell? ⟨w.heap.size + 1, 0, none⟩ = some (.string ⟨id.toArray⟩) := blkc HX5.out.2 0
  have d1 : w5.cell? ⟨w.heap.size + 1, 1, none⟩ = some (.slice av V.length cv) := blkc HX5.out.2 1
  go_wp2_with fail
  refine (HTd.out _ (HH.out.below HB5.out)).mono ?_
  rintro e w6 ⟨g6, rfl, hg6, hh6, hb6⟩
  have HB6 := hidd (HB5.out.trans (hb6.mono HB5.out.size))
  have HX6 := hidd (And.intro (blko HX5.out.1 hb6) (blko HX5.out.2 hb6))
  have HY6 := hidd (blko HX5a.out hb6)
  have HH6 := hidd (HH5.out.below hb6)
  have HD6 := hidd hh6
  clear hh6 hb6 d0 d1 HX5 HH5 HB5 HX5a
  dsimp only
  go_upto_region 11 with fail
  have HB7a := hidd ((Below.refl w6.heap.size w6).alloc (Nat.le_refl _) (.cells #[.string ⟨id.toArray⟩, .slice (some ⟨g6, 0, none⟩) V.length V.length] 37))
  have HX7a := hidd (heap_alloc_new w6 (.cells #[.string ⟨id.toArray⟩, .slice (some ⟨g6, 0, none⟩) V.length V.length] 37))
  obtain ⟨w7, hw7⟩ : ∃ w7, w6.alloc (.cells #[.string ⟨id.toArray⟩, .slice (some ⟨g6, 0, none⟩) V.length V.length] 37) = w7 := ⟨_, rfl⟩
  rw [hw7] at HB7a HX7a
  try rw [hw7]
  clear hw7
  have HB7 := hidd (HB6.out.trans (HB7a.out.mono HB6.out.size))
  have HX7 := hidd (And.intro (blko HX6.out.1 HB7a.out) (blko HX6.out.2 HB7a.out))
  have HY7 := hidd (blko HY6.out HB7a.out)
  have HH7 := hidd (HH6.out.below HB7a.out)
  have HD7 := hidd (HD6.out.below HB7a.out)
  clear HX6 HH6 HD6 HB6 HB7a HY6
  have x0 : w7.cell? ⟨w4.heap.size, 0, none⟩ = some (.slice (some ⟨g4, 0, none⟩) l.length l.length) := blkc HY7.out 0
  have y0 : w7.cell? ⟨w6.heap.size, 0, none⟩ = some (.string ⟨id.toArray⟩) := blkc HX7a.out 0
  have y1 : w7.cell? ⟨w6.heap.size, 1, none⟩ = some (.slice (some ⟨g6, 0, none⟩) V.length V.length) := blkc HX7a.out 1
  go_wp2_with fail
  refine (implDocOK_any _ _ l id _ _ V _ (HT.out.below HB7.out) hn2 HA2.out HH7.out.hold hi2 HV2.out HD7.out.hold).mono ?_
  rintro e w8 ⟨rfl, hb8⟩
  rw [HR.out]
  have HB8 := hidd (HB7.out.trans (hb8.mono HB7.out.size))
  have HX8 := hidd (And.intro (blko HX7.out.1 hb8) (blko HX7.out.2 hb8))
  have HY8 := hidd (blko HY7.out hb8)
  have HZ8 := hidd (blko HX7a.out hb8)
  have HH8 := hidd (HH7.out.below hb8)
  have HD8 := hidd (HD7.out.below hb8)
  clear hb8 x0 y0 y1 HX7 HH7 HD7 HB7 HY7 HX7a
  have hRR : (R != R) = false := by simp
  dsimp only
  have s0 : w8.cell? ⟨w.heap.size, 0, none⟩ = some (.slice a l.length cap) := blkc HX8.out.1 0
  have x0 : w8.cell? ⟨w4.heap.size, 0, none⟩ = some (.slice (some ⟨g4, 0, none⟩) l.length l.length) := blkc HY8.out 0
  have hbd : Below w8.heap.size w8 w8.drew := below_drewN (Below.refl _ _) 1
  have HBd := hidd hbd
  have HSd := hidd ((HS.out.below HB8.out).below hbd)
  have HHd := hidd (HH8.out.below hbd)
  have HYd := hidd (blko HY8.out hbd)
  clear hbd
  go_upto_region 14 with fail
  go_cut [39] (fun cv wy => cv = .bool false ∧ Below w8.heap.size w8 wy)
  case first =>
    go_region_with (first
      | (go_at_call 9; refine (HTo.out _ HSd.out).mono ?_; rintro e' wq ⟨gq, rfl, hgq, hhq, hbq⟩; have e0 : wq.cell? ⟨w4.heap.size, 0, none⟩ = some (.slice (some ⟨g4, 0, none⟩) l.length l.length) := blkc (blko HYd.out hbq) 0)
      | (go_at_call 12; refine (eqSchema_any _ _ _ _ l _ hn2 HA2.out (HHd.out.below hbq) hhq).mono ?_; rintro e'' wp ⟨rfl, hbp⟩))
    all_goals
      go_wp2_with fail
      go_meet
      exact ⟨rfl, HBd.out.trans ((hbq.trans (hbp.mono hbq.size)).mono HBd.out.size)⟩
  case rest =>
  obtain ⟨rfl, hb9⟩ := hcut
  have HB9 := hidd (HB8.out.trans (hb9.mono HB8.out.size))
  have HX9 := hidd (blko HX8.out.2 hb9)
  have HZ9 := hidd (blko HZ8.out hb9)
  have HD9 := hidd (HD8.out.below hb9)
  clear hb9 s0 x0 HX8 HH8 HD8 HB8 HY8 HZ8 HBd HSd HHd HYd
  have d0 : wc.cell? ⟨w.heap.size + 1, 0, none⟩ = some (.string ⟨id.toArray⟩) := blkc HX9.out 0
  have d1 : wc.cell? ⟨w.heap.size + 1, 1, none⟩ = some (.slice av V.length cv) := blkc HX9.out 1
  have y0 : wc.cell? ⟨w6.heap.size, 0, none⟩ = some (.string ⟨id.toArray⟩) := blkc HZ9.out 0
  have y1 : wc.cell? ⟨w6.heap.size, 1, none⟩ = some (.slice (some ⟨g6, 0, none⟩) V.length V.length) := blkc HZ9.out 1
  have hbd : Below wc.heap.size wc wc.drew := below_drewN (Below.refl _ _) 1
  have HBd := hidd hbd
  have HVd := hidd ((HH.out.below HB9.out).below hbd)
  have HDd := hidd (HD9.out.below hbd)
  have HZd := hidd (blko HZ9.out hbd)
  clear hbd
  go_upto_region 16 with fail
  obtain ⟨w9, hw9⟩ : ∃ w9, w9 = wc := ⟨_, rfl⟩
  go_cut [44] (fun cv wy => cv = .bool false ∧ Below w9.heap.size w9 wy)
  case first =>
    subst hw9
    go_region_with (first
      | (go_at_call 10; refine (HTd.out _ HVd.out).mono ?_; rintro e' wq ⟨gq, rfl, hgq, hhq, hbq⟩; have e0 : wq.cell? ⟨w6.heap.size, 0, none⟩ = some (.string ⟨id.toArray⟩) := blkc (blko HZd.out hbq) 0; have e1 : wq.cell? ⟨w6.heap.size, 1, none⟩ = some (.slice (some ⟨g6, 0, none⟩) V.length V.length) := blkc (blko HZd.out hbq) 1)
      | (go_at_call 13; refine (eqDoc_any id _ _ _ _ V _ hv2 HBs.out (HDd.out.below hbq).hold hhq.hold).mono ?_; rintro e'' wp ⟨rfl, hbp⟩))
    all_goals
      go_wp2_with fail
      go_meet
      exact ⟨rfl, HBd.out.trans ((hbq.trans (hbp.mono hbq.size)).mono HBd.out.size)⟩
  case rest =>
  obtain ⟨rfl, hbx⟩ := hcut
  subst hw9
  go_wp2_with fail
  go_ret
  exact ⟨rfl, HB9.out.trans (hbx.mono HB9.out.size)⟩
end Go.Proofs.YtgoklapafidpkaaGreatDoor

namespace Go.Proofs.YtgoklapafidpkaaGreatDoor
open Go Go.RowKit Go.ChangeShapes Go.WideShapes Go.ChangeAt
set_option linter.unusedVariables false

theorem str_list (s : ByteArray) : s = ⟨s.data.toList.toArray⟩ := by simp
set_option maxRecDepth 100000 in
theorem openTx {H : Type} {enc : TypeId × Value → H} {W : World} {n : Nat} {v : Value} {x : DataW H × List MemPlace} (h : DataW.trod enc Tryz.prog W 0 (fun _ => true) true n 57 [v] = some x) :
    ∃ (a : Option Addr) (cap : Nat) (l : List (List UInt8)), v = .slice a l.length cap ∧ l.length ≤ 9223372036854775807 ∧ HoldTx W a l ∧ ∀ i, (l.getD i []).length ≤ 9223372036854775807 := by
  rcases Deep.open_slice Tryz.underlying57 h with ⟨hcs, _⟩ | ⟨a, len, cap, m, k, D, Pl, hcs, _, hl, hm, hmm, _, hx⟩
  · simp only [List.cons.injEq, and_true] at hcs
    subst hcs
    exact ⟨none, 0, [], rfl, by simp, Or.inl rfl, fun i => by simp⟩
  · simp only [List.cons.injEq, and_true] at hcs
    subst hcs
    have hmc : m = cap := by simpa using hmm
    have hce : Tryz.prog.cellsOf 9 = 1 := by kernel_rfl
    have each : ∀ i, i < m → ∃ q : (List UInt8), W.cell? (a.add i) = some (.string ⟨q.toArray⟩) ∧ q.length ≤ 9223372036854775807 := fun i hi => by
      obtain ⟨cs', h1, h2⟩ := hx i hi
      rw [hce] at h1
      obtain ⟨_, hlen, hcell⟩ := World.cells?_some h1
      match cs', hlen with
      | [v0], _ =>
        have c0 := hcell 0 (by omega)
        rw [Deep.add_add] at c0
        obtain ⟨s, e0, _, hs⟩ := DataW.trod_string Tryz.underlying9 h2
        simp only [List.cons.injEq, and_true] at e0
        subst e0
        exact ⟨s.data.toList, by rw [← str_list]; simpa using c0, by unfold maxLen at hs; have : s.size = s.data.toList.length := by rw [Array.length_toList]; rfl
                                                                     omega⟩
    obtain ⟨q, hq⟩ := Deep.choose_lt each
    have hg : ∀ t, t < len → ((List.range len).map q).getD t [] = q t := fun t ht => by simp [ht]
    refine ⟨some a, cap, (List.range len).map q, by simp, by simp; unfold maxLen at hm; omega, ?_, ?_⟩
    · by_cases h0 : len = 0
      · exact Or.inl (by simp [h0])
      · have ha : ∃ b off, a = ⟨b, off, none⟩ := by
          obtain ⟨b', off', spot⟩ := a
          have hspot : spot = none := by simpa [Addr.add] using World.cell?_spot (hq 0 (by omega)).1
          subst hspot
          exact ⟨b', off', rfl⟩
        obtain ⟨b, off, rfl⟩ := ha
        have hc : ∀ j, j < m → W.cell? ⟨b, off + j, none⟩ = some (.string ⟨(q j).toArray⟩) := fun j hj => by
          have c0 := (hq j hj).1
          rw [Go.WideShapes.add_plain] at c0
          exact c0
        refine Or.inr ⟨b, off, rfl, cell_lt (hc 0 (by omega)), fun t ht => ?_⟩
        have ht' : t < len := by simpa using ht
        rw [hg t ht']
        exact hc t (by omega)
    · intro i
      by_cases hi : i < len
      · rw [hg i hi]; exact (hq i (by omega)).2
      · simp [hi]
set_option maxRecDepth 100000 in
theorem openNz {H : Type} {enc : TypeId × Value → H} {W : World} {n : Nat} {v : Value} {x : DataW H × List MemPlace} (h : DataW.trod enc Tryz.prog W 0 (fun _ => true) true n 58 [v] = some x) :
    ∃ (a : Option Addr) (cap : Nat) (l : List Int), v = .slice a l.length cap ∧ l.length ≤ 9223372036854775807 ∧ HoldZ W a l := by
  rcases Deep.open_slice Tryz.underlying58 h with ⟨hcs, _⟩ | ⟨a, len, cap, m, k, D, Pl, hcs, _, hl, hm, hmm, _, hx⟩
  · simp only [List.cons.injEq, and_true] at hcs
    subst hcs
    exact ⟨none, 0, [], rfl, by simp, Or.inl rfl⟩
  · simp only [List.cons.injEq, and_true] at hcs
    subst hcs
    have hmc : m = cap := by simpa using hmm
    have hce : Tryz.prog.cellsOf 3 = 1 := by kernel_rfl
    have each : ∀ i, i < m → ∃ q : Int, W.cell? (a.add i) = some (.int .i64 q) := fun i hi => by
      obtain ⟨cs', h1, h2⟩ := hx i hi
      rw [hce] at h1
      obtain ⟨_, hlen, hcell⟩ := World.cells?_some h1
      match cs', hlen with
      | [v0], _ =>
        have c0 := hcell 0 (by omega)
        rw [Deep.add_add] at c0
        obtain ⟨z, e0, _, _⟩ := DataW.trod_int Tryz.underlying3 h2
        simp only [List.cons.injEq, and_true] at e0
        subst e0
        exact ⟨z, by simpa using c0⟩
    obtain ⟨q, hq⟩ := Deep.choose_lt each
    have hg : ∀ t, t < len → ((List.range len).map q).getD t 0 = q t := fun t ht => by simp [ht]
    refine ⟨some a, cap, (List.range len).map q, by simp, by simp; unfold maxLen at hm; omega, ?_⟩
    · by_cases h0 : len = 0
      · exact Or.inl (by simp [h0])
      · have ha : ∃ b off, a = ⟨b, off, none⟩ := by
          obtain ⟨b', off', spot⟩ := a
          have hspot : spot = none := by simpa [Addr.add] using World.cell?_spot (hq 0 (by omega))
          subst hspot
          exact ⟨b', off', rfl⟩
        obtain ⟨b, off, rfl⟩ := ha
        have hc : ∀ j, j < m → W.cell? ⟨b, off + j, none⟩ = some (.int .i64 (q j)) := fun j hj => by
          have c0 := (hq j hj)
          rw [Go.WideShapes.add_plain] at c0
          exact c0
        refine Or.inr ⟨b, off, rfl, cell_lt (hc 0 (by omega)), fun t ht => ?_⟩
        have ht' : t < len := by simpa using ht
        rw [hg t ht']
        exact hc t (by omega)
set_option maxRecDepth 100000 in
theorem openVals {H : Type} {enc : TypeId × Value → H} {W : World} {n : Nat} {v : Value} {x : DataW H × List MemPlace} (h : DataW.trod enc Tryz.prog W 0 (fun _ => true) true n 25 [v] = some x) :
    ∃ (a : Option Addr) (cap : Nat) (V : List Vl), v = .slice a V.length cap ∧ V.length ≤ 9223372036854775807 ∧ (∀ i, VlLen (V.getD i vl0)) ∧ HoldV W a V := by
  rcases Deep.open_slice Tryz.underlying25 h with ⟨hcs, _⟩ | ⟨a, len, cap, m, k, D, Pl, hcs, _, hl, hm, hmm, _, hx⟩
  · simp only [List.cons.injEq, and_true] at hcs
    subst hcs
    exact ⟨none, 0, [], rfl, by simp, fun i => by simp [VlLen, vl0], Or.inl rfl⟩
  · simp only [List.cons.injEq, and_true] at hcs
    subst hcs
    have hmc : m = cap := by simpa using hmm
    have hce : Tryz.prog.cellsOf 115 = 3 := by kernel_rfl
    have hc1 : Tryz.prog.cellsOf 9 = 1 := by kernel_rfl
    have hc2 : Tryz.prog.cellsOf 57 = 1 := by kernel_rfl
    have hc3 : Tryz.prog.cellsOf 58 = 1 := by kernel_rfl
    have each : ∀ i, i < m → ∃ q : Vl, W.cell? (a.add (i * 3)) = some (.string ⟨q.1.toArray⟩) ∧ (∃ at_ ct, W.cell? (a.add (i * 3 + 1)) = some (.slice at_ q.2.1.length ct) ∧ HoldTx W at_ q.2.1) ∧ (∃ an cn, W.cell? (a.add (i * 3 + 2)) = some (.slice an q.2.2.length cn) ∧ HoldZ W an q.2.2) ∧ VlLen q := fun i hi => by
      obtain ⟨cs', h1, h2⟩ := hx i hi
      rw [hce] at h1
      obtain ⟨_, hlen, hcell⟩ := World.cells?_some h1
      obtain ⟨xs, k', hk, hxy, _, hxl, hf⟩ := DataW.trod_struct Tryz.underlying115 h2
      match xs, hxl, cs', hlen with
      | [y0, y1, y2], _, [v0, v1, v2], _ =>
        have g0 := hf 0 _ rfl
        have g1 := hf 1 _ rfl
        have g2 := hf 2 _ rfl
        simp [hc1, hc2, hc3] at g0 g1 g2
        obtain ⟨s, e0, _, hs⟩ := DataW.trod_string Tryz.underlying9 g0
        obtain ⟨at_, ct, tx, e1, b1, b2, b3⟩ := openTx g1
        obtain ⟨an, cn, nz, e2, b4, b5⟩ := openNz g2
        simp only [List.cons.injEq, and_true] at e0
        subst e0 e1 e2
        have c0 := hcell 0 (by omega)
        have c1 := hcell 1 (by omega)
        have c2 := hcell 2 (by omega)
        rw [Deep.add_add] at c0 c1 c2
        have hz : s.size = s.data.toList.length := by rw [Array.length_toList]; rfl
        exact ⟨(s.data.toList, tx, nz), by rw [← str_list]; simpa using c0, ⟨at_, ct, by simpa using c1, b2⟩, ⟨an, cn, by simpa using c2, b5⟩, by unfold maxLen at hs; show s.data.toList.length ≤ _; omega, b1, b4, b3⟩
    obtain ⟨q, hq⟩ := Deep.choose_lt each
    have hg : ∀ t, t < len → ((List.range len).map q).getD t vl0 = q t := fun t ht => by simp [ht]
    refine ⟨some a, cap, (List.range len).map q, by simp, by simp; unfold maxLen at hm; omega, fun i => ?_, ?_⟩
    · by_cases hi : i < len
      · rw [hg i hi]; exact (hq i (by omega)).2.2.2
      · simp [hi, VlLen, vl0]
    by_cases h0 : len = 0
    · exact Or.inl (by simp [h0])
    · have ha : ∃ b off, a = ⟨b, off, none⟩ := by
        obtain ⟨b', off', spot⟩ := a
        have hspot : spot = none := by simpa [Addr.add] using World.cell?_spot (hq 0 (by omega)).1
        subst hspot
        exact ⟨b', off', rfl⟩
      obtain ⟨b, off, rfl⟩ := ha
      have hc : ∀ j u i, W.cell? ((⟨b, off, none⟩ : Addr).add (j * 3 + i)) = some u → W.cell? ⟨b, off + j * 3 + i, none⟩ = some u := fun j u i c0 => by
        rw [Go.WideShapes.add_plain] at c0
        rw [Nat.add_assoc]
        exact c0
      refine Or.inr ⟨b, off, rfl, cell_lt (hc 0 _ 0 (hq 0 (by omega)).1), fun t ht => ?_⟩
      have ht' : t < len := by simpa using ht
      rw [hg t ht']
      obtain ⟨q1, ⟨at_, ct, q2, q3⟩, ⟨an, cn, q4, q5⟩, _⟩ := hq t (by omega)
      exact ⟨hc t _ 0 q1, ⟨at_, ct, hc t _ 1 q2, q3⟩, an, cn, hc t _ 2 q4, q5⟩
set_option maxRecDepth 100000 in
theorem openDoc {H : Type} {enc : TypeId × Value → H} {W : World} {base : Nat} {v : Value} {d : DataW H} {p : List MemPlace} (hv : Value.okWide Tryz.prog W .any base 27 v) (h : DataW.Trod enc Tryz.prog W 0 (fun _ => true) true 27 v d p) :
    ∃ (id : List UInt8) (a : Option Addr) (cap : Nat) (V : List Vl), v = .agg #[.string ⟨id.toArray⟩, .slice a V.length cap] ∧ id.length ≤ 9223372036854775807 ∧ V.length ≤ 9223372036854775807 ∧ (∀ i, VlLen (V.getD i vl0)) ∧ HoldV W a V := by
  obtain ⟨cs, rfl, hsz⟩ := okWide_struct Tryz.underlying27 hv
  have hsz2 : cs.size = 2 := hsz.trans (by kernel_rfl)
  obtain ⟨l⟩ := cs
  match l, hsz2 with
  | [c0, c1], _ =>
    obtain ⟨fuel, hf⟩ := h
    obtain ⟨xs, n, _, _, _, hlen, hfl⟩ := DataW.trod_struct Tryz.underlying27 hf
    have o1 : Tryz.prog.cellsOf 9 = 1 := by kernel_rfl
    have o2 : Tryz.prog.cellsOf 25 = 1 := by kernel_rfl
    have r0 : DataW.trod enc Tryz.prog W 0 (fun _ => true) true n 9 [c0] = xs[0]? := by
      have h : DataW.trod enc Tryz.prog W 0 (fun _ => true) true n 9 (([c0, c1].drop 0).take (Tryz.prog.cellsOf 9)) = xs[0]? := hfl 0 _ rfl
      rw [o1] at h
      exact h
    have r1 : DataW.trod enc Tryz.prog W 0 (fun _ => true) true n 25 [c1] = xs[1]? := by
      have h : DataW.trod enc Tryz.prog W 0 (fun _ => true) true n 25 (([c0, c1].drop 1).take (Tryz.prog.cellsOf 25)) = xs[1]? := hfl 1 _ rfl
      rw [o2] at h
      exact h
    have s2 : ∀ i, i < 2 → ∃ y, xs[i]? = some y := fun i hi => ⟨_, List.getElem?_eq_getElem (by rw [hlen]; exact hi)⟩
    obtain ⟨y0, hy0⟩ := s2 0 (by omega)
    obtain ⟨y1, hy1⟩ := s2 1 (by omega)
    rw [hy0] at r0
    rw [hy1] at r1
    obtain ⟨s, e0, _, hs⟩ := DataW.trod_string Tryz.underlying9 r0
    obtain ⟨a, cap, S, e1, h1, h2, h3⟩ := openVals r1
    simp only [List.cons.injEq, and_true] at e0
    subst e0 e1
    have hz : s.size = s.data.toList.length := by rw [Array.length_toList]; rfl
    exact ⟨s.data.toList, a, cap, S, by rw [← str_list], by unfold maxLen at hs; omega, h1, h2, h3⟩
end Go.Proofs.YtgoklapafidpkaaGreatDoor
