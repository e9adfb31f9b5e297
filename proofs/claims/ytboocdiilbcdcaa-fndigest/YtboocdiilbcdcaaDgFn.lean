import Derived.Test.YtboocdiilbcdcaaDgH
import Derived.Deep.CutBlock
namespace Go.Proofs.Ytboocdiilbcdcaa
open Go Go.RowKit
set_option linter.unusedVariables false
set_option linter.unusedSimpArgs false
set_option maxRecDepth 100000

theorem rankQ {zs : List Int} {s : Nat} (h : OkL zs s) (u : Value) (v : Int) (w : World) (hv : SzI w u (ptsZ zs s)) :
    Calls Try.prog 13 #[.agg #[.int .i64 (s : Int), .int .i64 1, .int .i64 (zs.length : Int), u], .int .i64 v] w fun e w' => ∃ lo hi : Int, e = .returned (.tuple #[.int .i64 lo, .int .i64 hi, .int .i64 0]) ∧ (lo ≤ ((cntLe zs v : Nat) : Int) ∧ ((cntLe zs v : Nat) : Int) ≤ hi ∧ (hi - lo < (s : Int) ∨ hi ≤ 0) ∧ 0 ≤ lo ∧ hi ≤ 4096) ∧ Below w.heap.size w w' := by
  have hk := h.few
  have hl := ptsZ_len zs s
  obtain ⟨lo, hi, h1, h2⟩ := h.rank v
  refine (implRank_any (s : Int) 1 (zs.length : Int) u (ptsZ zs s) v w (by omega) hv.hold).mono fun e w' ⟨he, hb⟩ => ⟨lo, hi, ?_, h2, hb⟩
  rw [he, h1]
theorem rankJ {za zb : List Int} {s na nb : Nat} {js jp jc : Int} {jz : List Int} {code : Int} (h : Joined za zb s na nb js jp jc jz code) (u : Value) (v : Int) (w : World) (hv : SzI w u jz) :
    Calls Try.prog 13 #[.agg #[.int .i64 js, .int .i64 jp, .int .i64 jc, u], .int .i64 v] w fun e w' => ∃ lo hi k : Int, e = .returned (.tuple #[.int .i64 lo, .int .i64 hi, .int .i64 k]) ∧ (code = 0 → k = 0 ∧ lo ≤ ((cntLe (za ++ zb) v : Nat) : Int) ∧ ((cntLe (za ++ zb) v : Nat) : Int) ≤ hi) ∧ Below w.heap.size w w' := by
  refine (implRank_any js jp jc u jz v w h.few hv.hold).mono fun e w' ⟨he, hb⟩ => ⟨_, _, _, he, fun hc => ?_, hb⟩
  obtain ⟨lo, hi, h1, h2, h3⟩ := h.rank hc v
  rw [h1]
  exact ⟨rfl, h2, h3⟩
theorem atQ0 {zs : List Int} {s : Nat} (h : OkL zs s) (h0 : zs.length = 0) (u : Value) (t : Nat) (ht : t ≤ 100) (w : World) (hv : SzI w u (ptsZ zs s)) :
    Calls Try.prog 14 #[.agg #[.int .i64 (s : Int), .int .i64 1, .int .i64 (zs.length : Int), u], .int .i64 (t : Int)] w fun e w' => (∃ x c : Int, e = .returned (.tuple #[.int .i64 x, .int .i64 c]) ∧ (zs.length = 0 → c = 8) ∧ (zs.length ≠ 0 → c = 0 ∧ x ∈ zs)) ∧ Below w.heap.size w w' := by
  have hk := h.few
  have hl := ptsZ_len zs s
  refine (implAt_any (s : Int) 1 (zs.length : Int) u (ptsZ zs s) (t : Int) w (by omega) hv.hold).mono fun e w' ⟨he, hb⟩ => ⟨⟨_, _, he, ?_, ?_⟩, hb⟩
  · intro _; rw [h.at0 h0 t ht]
  · intro hc; exact absurd h0 hc
theorem atQ {zs : List Int} {s : Nat} (h : OkL zs s) (u : Value) (t : Nat) (ht : t ≤ 100) (w : World) (hv : SzI w u (ptsZ zs s)) :
    Calls Try.prog 14 #[.agg #[.int .i64 (s : Int), .int .i64 1, .int .i64 (zs.length : Int), u], .int .i64 (t : Int)] w fun e w' => (∃ x c : Int, e = .returned (.tuple #[.int .i64 x, .int .i64 c]) ∧ (zs.length = 0 → c = 8) ∧ (zs.length ≠ 0 → c = 0 ∧ x ∈ zs)) ∧ Below w.heap.size w w' := by
  by_cases h0 : zs.length = 0
  · exact atQ0 h h0 u t ht w hv
  · have hk := h.few
    have hl := ptsZ_len zs s
    obtain ⟨x, hx, e⟩ := h.at1 h0 t ht
    refine (implAt_any (s : Int) 1 (zs.length : Int) u (ptsZ zs s) (t : Int) w (by omega) hv.hold).mono fun e' w' ⟨he, hb⟩ => ⟨⟨x, 0, ?_, fun hc => absurd hc h0, fun _ => ⟨rfl, hx⟩⟩, hb⟩
    rw [he, e]

set_option maxHeartbeats 32000000 in
theorem digFn_any (ao : Option Addr) (n cap : Nat) (bo : Option Addr) (m cab : Nat) (w : World) (hn : n ≤ 9223372036854775807) (hc : CodeIn w ao n) (hm : m ≤ 9223372036854775807) (hcb : CodeIn w bo m) :
    Calls Try.prog 3 #[.slice ao n cap, .slice bo m cab] w fun e w' => e = .returned (.bool true) ∧ Below w.heap.size w w' := by
  by_cases hlong : (1048576 : Int) < (n : Int)
  · go_enter Try.func3, Try.ntmps3
    go_wp2_with fail
    go_ret
    exact ⟨rfl, Below.refl _ _⟩
  by_cases hlong2 : (1048576 : Int) < (m : Int)
  · go_enter Try.func3, Try.ntmps3
    go_wp2_with fail
    go_ret
    exact ⟨rfl, Below.refl _ _⟩
  have HC := hidd hc
  have HCb := hidd hcb
  clear hc hcb
  go_enter Try.func3, Try.ntmps3
  go_wp2_with fail
  refine (drawDigest_any ao n cap _ (by omega) HC.out).mono ?_
  rintro e w1 ⟨zs, g, cp, t, rfl, hzl, ho1, hb1⟩
  have HB1 := hidd hb1
  have HZ1 := hidd (SzI.own ho1)
  clear ho1 hb1 HC
  by_cases hcode : (ofZ zs t).2 = 0
  · obtain ⟨s, rfl, hok⟩ := okL_of hcode
    have HOK := hidd hok
    have hs1 := hok.s1
    have hs2 := hok.s2
    clear hcode hok
    obtain ⟨N, hN⟩ : ∃ N, zs.length = N := ⟨_, rfl⟩
    have HN := hidd hN
    rw [hN] at HZ1 hzl
    have HSp : Hid (∀ V, Below w1.heap.size w1 V → Calls Try.prog 8 #[.slice (some ⟨g, 0, none⟩) N cp, .int .i64 (s : Int)] V (DgQ V (s : Int) 1 (N : Int) (ptsZ zs s) 0)) := fun V hV => by
      have h := specOkQ HOK.out (.slice (some ⟨g, 0, none⟩) N cp) V (HZ1.out.below hV)
      rw [hN] at h; exact h
    have HIm : Hid (∀ V, Below w1.heap.size w1 V → Calls Try.prog 9 #[.slice (some ⟨g, 0, none⟩) N cp, .int .i64 (s : Int)] V (DgQ V (s : Int) 1 (N : Int) (ptsZ zs s) 0)) := fun V hV => by
      have h := implOkQ HOK.out (.slice (some ⟨g, 0, none⟩) N cp) V (HZ1.out.below hV)
      rw [hN] at h; exact h
    rw [hN]
    have HSok : Hid (∀ V ad k cq, SzI V (.slice ad k cq) (ptsZ zs s) → Calls Try.prog 12 #[.agg #[.int .i64 (s : Int), .int .i64 1, .int .i64 (N : Int), .slice ad k cq]] V fun e w' => e = .returned (.bool true) ∧ Below V.heap.size V w') := fun V ad k cq hv => by
      have hf := HOK.out.few
      have hl := ptsZ_len zs s
      have h := specOK_any (s : Int) 1 (zs.length : Int) (.slice ad k cq) (ptsZ zs s) V (by omega) hv.hold
      rw [dgB_t HOK.out.dg, hN] at h
      exact h
    have HRk : Hid (∀ V ad k cq (v : Int), SzI V (.slice ad k cq) (ptsZ zs s) → Calls Try.prog 13 #[.agg #[.int .i64 (s : Int), .int .i64 1, .int .i64 (N : Int), .slice ad k cq], .int .i64 v] V fun e w' => ∃ lo hi : Int, e = .returned (.tuple #[.int .i64 lo, .int .i64 hi, .int .i64 0]) ∧ (lo ≤ ((cntLe zs v : Nat) : Int) ∧ ((cntLe zs v : Nat) : Int) ≤ hi ∧ (hi - lo < (s : Int) ∨ hi ≤ 0) ∧ 0 ≤ lo ∧ hi ≤ 4096) ∧ Below V.heap.size V w') := fun V ad k cq v hv => by
      have h := rankQ HOK.out (.slice ad k cq) v V hv
      rw [hN] at h; exact h
    have HAt : Hid (∀ V ad k cq (t : Nat), t ≤ 100 → SzI V (.slice ad k cq) (ptsZ zs s) → Calls Try.prog 14 #[.agg #[.int .i64 (s : Int), .int .i64 1, .int .i64 (N : Int), .slice ad k cq], .int .i64 (t : Int)] V fun e w' => (∃ x c : Int, e = .returned (.tuple #[.int .i64 x, .int .i64 c]) ∧ (N = 0 → c = 8) ∧ (N ≠ 0 → c = 0 ∧ x ∈ zs)) ∧ Below V.heap.size V w') := fun V ad k cq t ht hv => by
      have h := atQ HOK.out (.slice ad k cq) t ht V hv
      rw [hN] at h; exact h
    clear hN
    go_wp2_with fail
    refine (HSp.out _ (Below.refl _ _)).mono ?_
    rintro e w2 ⟨ad2, n2, c2, rfl, -, hz2, hb2⟩
    have HB2 := hidd (HB1.out.trans (hb2.mono HB1.out.size))
    have HW2 := hidd hb2
    clear hz2 hb2 HSp
    go_upto_region 5 with fail
    have HBn : Hid (Below w2.heap.size w2 (w2.alloc (.cells #[.int .i64 (s : Int), .int .i64 1, .int .i64 (N : Int), .slice ad2 n2 c2] 27))) := (Below.refl _ _).alloc (Nat.le_refl _) _
    obtain ⟨w3, hwn⟩ : ∃ V, w2.alloc (.cells #[.int .i64 (s : Int), .int .i64 1, .int .i64 (N : Int), .slice ad2 n2 c2] 27) = V := ⟨_, rfl⟩
    rw [hwn] at HBn
    try rw [hwn]
    clear hwn
    have HB3 := hidd (HB2.out.trans (HBn.out.mono HB2.out.size))
    have HW3 := hidd (HW2.out.trans (HBn.out.mono HW2.out.size))
    clear HBn HB2 HW2
    go_wp2_with fail
    refine (HIm.out _ HW3.out).mono ?_
    rintro e w4 ⟨ad4, n4, c4, rfl, hn4, hz4, hb4⟩
    have HB4 := hidd (HB3.out.trans (hb4.mono HB3.out.size))
    have HW4 := hidd (HW3.out.trans (hb4.mono HW3.out.size))
    have HZ4 := hidd hz4
    clear hz4 hb4 HIm HB3 HW3
    go_upto_region 6 with fail
    have HBn : Hid (Below w4.heap.size w4 (w4.alloc (.cells #[.int .i64 (s : Int), .int .i64 1, .int .i64 (N : Int), .slice ad4 n4 c4] 27))) := (Below.refl _ _).alloc (Nat.le_refl _) _
    have HKn := hidd (heap_alloc_new w4 (.cells #[.int .i64 (s : Int), .int .i64 1, .int .i64 (N : Int), .slice ad4 n4 c4] 27))
    obtain ⟨w5, hwn⟩ : ∃ V, w4.alloc (.cells #[.int .i64 (s : Int), .int .i64 1, .int .i64 (N : Int), .slice ad4 n4 c4] 27) = V := ⟨_, rfl⟩
    rw [hwn] at HBn HKn
    try rw [hwn]
    clear hwn
    obtain ⟨bd, hbd⟩ : ∃ b, w4.heap.size = b := ⟨_, rfl⟩
    rw [hbd] at HKn
    try rw [hbd]
    have HD : Hid (DBx w5 bd (s : Int) 1 (N : Int) ad4 n4 c4 (ptsZ zs s)) := ⟨HKn.out, HZ4.out.below HBn.out⟩
    have HB5 := hidd (HB4.out.trans (HBn.out.mono HB4.out.size))
    have HW5 := hidd (HW4.out.trans (HBn.out.mono HW4.out.size))
    clear HBn HKn HB4 HW4 HZ4 hbd
    have HCB5 : Hid (CodeIn w5 bo m) := HCb.out.below HB5.out
    have hNz : (N : Int) ≤ 4096 := by omega
    go_wp2_with fail
    refine (half_any bo m cab N _ (by omega) hzl HCB5.out).mono ?_
    rintro e w6 ⟨H, rfl, hH, hb6⟩
    have HB6 := hidd (HB5.out.trans (hb6.mono HB5.out.size))
    have HW6 := hidd (HW5.out.trans (hb6.mono HW5.out.size))
    replace HD := hidd (HD.out.below hb6)
    clear hb6 HB5 HW5 HCB5
    have hHz : (H : Int) ≤ (N : Int) := by omega
    have HZ6 := hidd (HZ1.out.below HW6.out)
    obtain ⟨vz, hvz⟩ : ∃ v, v = Value.slice (some ⟨g, 0, none⟩) N cp := ⟨_, rfl⟩
    rw [← hvz] at HZ6
    rw [← hvz]
    have HVZ := hidd hvz
    clear hvz
    have Hzl : Hid (H ≤ zs.length ∧ zs.length ≤ 1048576) := ⟨by rw [HN.out]; exact hH, by rw [HN.out]; omega⟩
    go_wp2_with (refine wpSz_to rfl _ _ rfl vz zs H rfl rfl HZ6.out Hzl.out.1 Hzl.out.2 ?_; intro va hva; have HVA := hidd hva; clear hva)
    refine (implOkQ (HOK.out.take H) va _ HVA.out).mono ?_
    rintro e w7 ⟨ad7, n7, c7, rfl, hn7, hz7, hb7⟩
    have HLa : Hid ((zs.take H).length = H) := by show _ = _; rw [List.length_take]; have := Hzl.out.1; omega
    have HB7 := hidd (HB6.out.trans (hb7.mono HB6.out.size))
    have HW7 := hidd (HW6.out.trans (hb7.mono HW6.out.size))
    replace HD := hidd (HD.out.below hb7)
    have HZ7 := hidd hz7
    replace HZ6 := hidd (HZ6.out.below hb7)
    clear hz7 hb7 HB6 HW6 HVA
    rw [HLa.out]
    go_upto_region 12 with fail
    have HBn : Hid (Below w7.heap.size w7 (w7.alloc (.cells #[.int .i64 (s : Int), .int .i64 1, .int .i64 (H : Int), .slice ad7 n7 c7] 27))) := (Below.refl _ _).alloc (Nat.le_refl _) _
    have HKn := hidd (heap_alloc_new w7 (.cells #[.int .i64 (s : Int), .int .i64 1, .int .i64 (H : Int), .slice ad7 n7 c7] 27))
    obtain ⟨w8, hwn⟩ : ∃ V, w7.alloc (.cells #[.int .i64 (s : Int), .int .i64 1, .int .i64 (H : Int), .slice ad7 n7 c7] 27) = V := ⟨_, rfl⟩
    rw [hwn] at HBn HKn
    try rw [hwn]
    clear hwn
    obtain ⟨ba, hba⟩ : ∃ b, w7.heap.size = b := ⟨_, rfl⟩
    rw [hba] at HKn
    try rw [hba]
    have HDa : Hid (DBx w8 ba (s : Int) 1 (H : Int) ad7 n7 c7 (ptsZ (zs.take H) s)) := ⟨HKn.out, HZ7.out.below HBn.out⟩
    have HB8 := hidd (HB7.out.trans (HBn.out.mono HB7.out.size))
    have HW8 := hidd (HW7.out.trans (HBn.out.mono HW7.out.size))
    replace HD := hidd (HD.out.below HBn.out)
    replace HZ6 := hidd (HZ6.out.below HBn.out)
    clear HBn HKn HB7 HW7 HZ7 hba
    go_wp2_with (refine wpSz_from0 rfl _ _ rfl vz zs H rfl rfl HZ6.out Hzl.out.1 Hzl.out.2 ?_; intro vb hvb; have HVB := hidd hvb; clear hvb)
    refine (implOkQ (HOK.out.drop H) vb _ HVB.out).mono ?_
    rintro e w9 ⟨ad9, n9, c9, rfl, hn9, hz9, hb9⟩
    have HLb : Hid ((zs.drop H).length = N - H) := by show _ = _; rw [List.length_drop, HN.out]
    have HB9 := hidd (HB8.out.trans (hb9.mono HB8.out.size))
    have HW9 := hidd (HW8.out.trans (hb9.mono HW8.out.size))
    replace HD := hidd (HD.out.below hb9)
    replace HDa := hidd (HDa.out.below hb9)
    have HZ9 := hidd hz9
    clear hz9 hb9 HB8 HW8 HVB HZ6
    rw [HLb.out]
    obtain ⟨R, hR⟩ : ∃ R, N - H = R := ⟨_, rfl⟩
    rw [hR] at HLb
    rw [hR]
    have HR := hidd hR
    clear hR
    have hvz := HVZ.out
    subst hvz
    clear HVZ
    go_upto_region 13 with fail
    have HBn : Hid (Below w9.heap.size w9 (w9.alloc (.cells #[.int .i64 (s : Int), .int .i64 1, .int .i64 (R : Int), .slice ad9 n9 c9] 27))) := (Below.refl _ _).alloc (Nat.le_refl _) _
    have HKn := hidd (heap_alloc_new w9 (.cells #[.int .i64 (s : Int), .int .i64 1, .int .i64 (R : Int), .slice ad9 n9 c9] 27))
    obtain ⟨w10, hwn⟩ : ∃ V, w9.alloc (.cells #[.int .i64 (s : Int), .int .i64 1, .int .i64 (R : Int), .slice ad9 n9 c9] 27) = V := ⟨_, rfl⟩
    rw [hwn] at HBn HKn
    try rw [hwn]
    clear hwn
    obtain ⟨bb, hbb⟩ : ∃ b, w9.heap.size = b := ⟨_, rfl⟩
    rw [hbb] at HKn
    try rw [hbb]
    have HDb : Hid (DBx w10 bb (s : Int) 1 (R : Int) ad9 n9 c9 (ptsZ (zs.drop H) s)) := ⟨HKn.out, HZ9.out.below HBn.out⟩
    have HB10 := hidd (HB9.out.trans (HBn.out.mono HB9.out.size))
    have HW10 := hidd (HW9.out.trans (HBn.out.mono HW9.out.size))
    replace HD := hidd (HD.out.below HBn.out)
    replace HDa := hidd (HDa.out.below HBn.out)
    clear HBn HKn HB9 HW9 HZ9 hbb
    have HJ : Hid (Calls Try.prog 11 #[.agg #[.int .i64 (s : Int), .int .i64 1, .int .i64 (H : Int), .slice ad7 n7 c7], .agg #[.int .i64 (s : Int), .int .i64 1, .int .i64 (R : Int), .slice ad9 n9 c9]] w10 fun e w' => ∃ js jp jc jz code, Joined (zs.take H) (zs.drop H) s n7 n9 js jp jc jz code ∧ DgQ w10 js jp jc jz code e w') := by
      have h := joinQ (HOK.out.take H) (HOK.out.drop H) _ _ w10 n7 n9 hn7.out hn9.out HDa.out.row HDb.out.row
      rw [HLa.out, HLb.out] at h
      exact h
    have x0 : w10.cell? ⟨ba, 0, none⟩ = some (.int .i64 (s : Int)) := blkc HDa.out.box 0
    have x1 : w10.cell? ⟨ba, 1, none⟩ = some (.int .i64 1) := blkc HDa.out.box 1
    have x2 : w10.cell? ⟨ba, 2, none⟩ = some (.int .i64 (H : Int)) := blkc HDa.out.box 2
    have x3 : w10.cell? ⟨ba, 3, none⟩ = some (.slice ad7 n7 c7) := blkc HDa.out.box 3
    have y0 : w10.cell? ⟨bb, 0, none⟩ = some (.int .i64 (s : Int)) := blkc HDb.out.box 0
    have y1 : w10.cell? ⟨bb, 1, none⟩ = some (.int .i64 1) := blkc HDb.out.box 1
    have y2 : w10.cell? ⟨bb, 2, none⟩ = some (.int .i64 (R : Int)) := blkc HDb.out.box 2
    have y3 : w10.cell? ⟨bb, 3, none⟩ = some (.slice ad9 n9 c9) := blkc HDb.out.box 3
    go_wp2_with fail
    refine HJ.out.mono ?_
    rintro e w11 ⟨js, jp, jc, jz, code, hjo, ad11, n11, c11, rfl, hn11, hz11, hb11⟩
    have HJO := hidd hjo
    have HB11 := hidd (HB10.out.trans (hb11.mono HB10.out.size))
    have HW11 := hidd (HW10.out.trans (hb11.mono HW10.out.size))
    replace HD := hidd (HD.out.below hb11)
    replace HDa := hidd (HDa.out.below hb11)
    replace HDb := hidd (HDb.out.below hb11)
    have HZ11 := hidd hz11
    clear hz11 hb11 HB10 HW10 HJ hjo x0 x1 x2 x3 y0 y1 y2 y3 hn11
    go_upto_region 14 with fail
    have HBn : Hid (Below w11.heap.size w11 (w11.alloc (.cells #[.int .i64 js, .int .i64 jp, .int .i64 jc, .slice ad11 n11 c11] 27))) := (Below.refl _ _).alloc (Nat.le_refl _) _
    have HKn := hidd (heap_alloc_new w11 (.cells #[.int .i64 js, .int .i64 jp, .int .i64 jc, .slice ad11 n11 c11] 27))
    obtain ⟨w12, hwn⟩ : ∃ V, w11.alloc (.cells #[.int .i64 js, .int .i64 jp, .int .i64 jc, .slice ad11 n11 c11] 27) = V := ⟨_, rfl⟩
    rw [hwn] at HBn HKn
    try rw [hwn]
    clear hwn
    obtain ⟨bj, hbj⟩ : ∃ b, w11.heap.size = b := ⟨_, rfl⟩
    rw [hbj] at HKn
    try rw [hbj]
    have HDj : Hid (DBx w12 bj js jp jc ad11 n11 c11 jz) := ⟨HKn.out, HZ11.out.below HBn.out⟩
    have HB12 := hidd (HB11.out.trans (HBn.out.mono HB11.out.size))
    have HW12 := hidd (HW11.out.trans (HBn.out.mono HW11.out.size))
    replace HD := hidd (HD.out.below HBn.out)
    replace HDa := hidd (HDa.out.below HBn.out)
    replace HDb := hidd (HDb.out.below HBn.out)
    clear HBn HKn HB11 HW11 HZ11 hbj
    have x3 : w12.cell? ⟨ba, 3, none⟩ = some (.slice ad7 n7 c7) := blkc HDa.out.box 3
    have y3 : w12.cell? ⟨bb, 3, none⟩ = some (.slice ad9 n9 c9) := blkc HDb.out.box 3
    have z0 : w12.cell? ⟨bd, 0, none⟩ = some (.int .i64 (s : Int)) := blkc HD.out.box 0
    have z1 : w12.cell? ⟨bd, 1, none⟩ = some (.int .i64 1) := blkc HD.out.box 1
    have z2 : w12.cell? ⟨bd, 2, none⟩ = some (.int .i64 (N : Int)) := blkc HD.out.box 2
    have z3 : w12.cell? ⟨bd, 3, none⟩ = some (.slice ad4 n4 c4) := blkc HD.out.box 3
    have HSo : Hid (Calls Try.prog 12 #[.agg #[.int .i64 (s : Int), .int .i64 1, .int .i64 (N : Int), .slice ad4 n4 c4]] w12 fun e w' => e = .returned (.bool true) ∧ Below w12.heap.size w12 w') := HSok.out _ _ _ _ HD.out.row
    have Hb7 : Hid (n7 ≤ 512) := by show n7 ≤ 512; rw [← hn7.out, ptsZ_len]; exact (HOK.out.take H).few
    have Hb9 : Hid (n9 ≤ 512) := by show n9 ≤ 512; rw [← hn9.out, ptsZ_len]; exact (HOK.out.drop H).few
    have hq7 := Hb7.out
    have hq9 := Hb9.out
    clear HSok HDa HDb
    have hNN : ((N : Int) != (N : Int)) = false := by simp
    have HRJ : Hid (∀ V (v : Int) (c : Nat), Hid (cntLe zs v = c) → SzI V (.slice ad11 n11 c11) jz → Calls Try.prog 13 #[.agg #[.int .i64 js, .int .i64 jp, .int .i64 jc, .slice ad11 n11 c11], .int .i64 v] V fun e w' => ∃ lo hi k : Int, e = .returned (.tuple #[.int .i64 lo, .int .i64 hi, .int .i64 k]) ∧ ((k = 0 ∧ lo ≤ (c : Int) ∧ (c : Int) ≤ hi) ∨ Hid (code ≠ 0)) ∧ Below V.heap.size V w') := fun V v c hc hv => by
      have h := rankJ HJO.out (.slice ad11 n11 c11) v V hv
      rw [List.take_append_drop, hc.out] at h
      refine h.mono fun e w' ⟨lo, hi, k, h1, h2, h3⟩ => ⟨lo, hi, k, h1, ?_, h3⟩
      by_cases h0 : code = 0
      · exact Or.inl (h2 h0)
      · exact Or.inr (hidd h0)
    rcases HJO.out.or with rfl | ⟨rfl, hmany⟩
    all_goals
      go_wp2_with fail
      refine HSo.out.mono ?_
      rintro e w13 ⟨rfl, hb13⟩
      have HB13 := hidd (HB12.out.trans (hb13.mono HB12.out.size))
      have HW13 := hidd (HW12.out.trans (hb13.mono HW12.out.size))
      replace HD := hidd (HD.out.below hb13)
      replace HDj := hidd (HDj.out.below hb13)
      clear hb13 HB12 HW12 HSo x3 y3 z0 z1 z2 z3 hq7 hq9
      go_wp2
      go_loopw [18] (fun vv wr => ∃ k : Nat, vv = .int .i64 ((k : Int) - 25) ∧ k ≤ 71 ∧ Below w13.heap.size w13 wr) (fun vv _ => (46 - intOf vv).toNat)
      case atStart => exact ⟨0, rfl, by omega, Below.refl _ _⟩
      case round =>
        obtain ⟨k, rfl, hk, hbr⟩ := hrel
        have HBr := hidd hbr
        have HDr := hidd (HD.out.below hbr)
        have HDjr := hidd (HDj.out.below hbr)
        have HZr := hidd (HZ1.out.below (HW13.out.trans (hbr.mono HW13.out.size)))
        clear hbr
        by_cases hk2 : k < 71
        · have hk2z : ((k : Int) - 25) ≤ 45 := by omega
          obtain ⟨v, hv⟩ : ∃ v : Int, (k : Int) - 25 = v := ⟨_, rfl⟩
          have hvl : -25 ≤ v := by omega
          rw [hv] at hk2z
          rw [hv]
          have HV := hidd hv
          clear hv
          go_wp2
          go_loopw [19, 20] (fun cv iv wq => ∃ i c : Nat, iv = .int .i64 (i : Int) ∧ cv = .int .i64 (c : Int) ∧ i ≤ N ∧ Hid (cntLe (zs.take i) v = c) ∧ Below wr.heap.size wr wq) (fun _ iv _ => (N - intOf iv).toNat)
          case atStart => exact ⟨0, 0, rfl, rfl, by omega, hidd (cntLe_zero zs v), Below.refl _ _⟩
          case round =>
            obtain ⟨i, c, rfl, rfl, hiN, hic, hbq⟩ := hrel
            have HBq := hidd hbq
            have HZq := hidd (HZr.out.below hbq)
            clear hbq
            by_cases hi2 : i < N
            · have hi2z : (i : Int) < (N : Int) := by omega
              have hcl := sz_cell HZq.out i (by rw [HN.out]; exact hi2)
              have Hst := hidd (cntLe_step zs v i (by rw [HN.out]; exact hi2))
              have hcb : c ≤ N := by rw [← hic.out, ← HN.out]; exact cntLe_k zs v i
              by_cases hle : zs.getD i 0 ≤ v
              · have Hc1 : Hid (cntLe (zs.take (i + 1)) v = c + 1) := by show _ = _; rw [Hst.out, if_pos hle, hic.out]
                clear Hst
                generalize zs.getD i 0 = x at *
                go_wp2
                go_roundw
                · exact ⟨i + 1, c + 1, by go_num, by go_num, by omega, Hc1, HBq.out⟩
                · simp [intOf]; omega
              · have Hc1 : Hid (cntLe (zs.take (i + 1)) v = c) := by show _ = _; rw [Hst.out, if_neg hle, hic.out]; rfl
                clear Hst
                generalize zs.getD i 0 = x at *
                go_wp2
                go_roundw
                · exact ⟨i + 1, c, by go_num, rfl, by omega, Hc1, HBq.out⟩
                · simp [intOf]; omega
            · obtain rfl : i = N := by omega
              have Hcc : Hid (cntLe zs v = c) := by have := hic.out; rw [cntLe_all zs v i HN.out] at this; exact this
              clear hic
              have HDq := hidd (HDr.out.below HBq.out)
              have HDjq := hidd (HDjr.out.below HBq.out)
              have z0 : wr.cell? ⟨bd, 0, none⟩ = some (.int .i64 (s : Int)) := blkc HDq.out.box 0
              have z1 : wr.cell? ⟨bd, 1, none⟩ = some (.int .i64 1) := blkc HDq.out.box 1
              have z2 : wr.cell? ⟨bd, 2, none⟩ = some (.int .i64 (i : Int)) := blkc HDq.out.box 2
              have z3 : wr.cell? ⟨bd, 3, none⟩ = some (.slice ad4 n4 c4) := blkc HDq.out.box 3
              go_wp2_with fail
              refine (HRk.out _ _ _ _ v HDq.out.row).mono ?_
              rintro e w14 ⟨lo, hi, rfl, ⟨hr1, hr2, hr3, hr4, hr5⟩, hb14⟩
              rw [Hcc.out] at hr1 hr2
              have HB14 := hidd (HBq.out.trans (hb14.mono HBq.out.size))
              replace HDjq := hidd (HDjq.out.below hb14)
              clear hb14 z0 z1 z2 z3 HDq HBq
              have y0 : w14.cell? ⟨bj, 0, none⟩ = some (.int .i64 js) := blkc HDjq.out.box 0
              have y1 : w14.cell? ⟨bj, 1, none⟩ = some (.int .i64 jp) := blkc HDjq.out.box 1
              have y2 : w14.cell? ⟨bj, 2, none⟩ = some (.int .i64 jc) := blkc HDjq.out.box 2
              have y3 : w14.cell? ⟨bj, 3, none⟩ = some (.slice ad11 n11 c11) := blkc HDjq.out.box 3
              have HRj := hidd (HRJ.out w14 v c Hcc HDjq.out.row)
              have hp1 : decide ((c : Int) < lo) = false := by simp; omega
              have hp2 : decide (hi < (c : Int)) = false := by simp; omega
              have hcz : (c : Int) ≤ 4096 := by omega
              by_cases hdif : (s : Int) ≤ hi - lo
              · have hhi : decide (0 < hi) = false := by simp; omega
                have hd1 : decide ((s : Int) ≤ hi - lo) = true := by simpa using hdif
                clear hr3
                go_wp2_with fail
                refine HRj.out.mono ?_
                rintro e w15 ⟨lo2, hi2, k2, rfl, hj2, hb15⟩
                have HB15 := hidd (HB14.out.trans (hb15.mono HB14.out.size))
                clear hb15 y0 y1 y2 y3 HRj HDjq HB14
                rcases hj2 with ⟨rfl, hj3, hj4⟩ | hne
                · have hp3 : decide ((c : Int) < lo2) = false := by simp; omega
                  have hp4 : decide (hi2 < (c : Int)) = false := by simp; omega
                  go_wp2
                  go_roundw
                  · exact ⟨k + 1, by rw [← HV.out]; go_num, by omega, HBr.out.trans (HB15.out.mono HBr.out.size)⟩
                  · simp [intOf]; have := HV.out; omega
                · first
                  | exact absurd rfl hne.out
                  | (go_wp2
                     go_roundw
                     · exact ⟨k + 1, by rw [← HV.out]; go_num, by omega, HBr.out.trans (HB15.out.mono HBr.out.size)⟩
                     · simp [intOf]; have := HV.out; omega)
              · have hd1 : decide ((s : Int) ≤ hi - lo) = false := by simp; omega
                clear hr3
                go_wp2_with fail
                refine HRj.out.mono ?_
                rintro e w15 ⟨lo2, hi2, k2, rfl, hj2, hb15⟩
                have HB15 := hidd (HB14.out.trans (hb15.mono HB14.out.size))
                clear hb15 y0 y1 y2 y3 HRj HDjq HB14
                rcases hj2 with ⟨rfl, hj3, hj4⟩ | hne
                · have hp3 : decide ((c : Int) < lo2) = false := by simp; omega
                  have hp4 : decide (hi2 < (c : Int)) = false := by simp; omega
                  go_wp2
                  go_roundw
                  · exact ⟨k + 1, by rw [← HV.out]; go_num, by omega, HBr.out.trans (HB15.out.mono HBr.out.size)⟩
                  · simp [intOf]; have := HV.out; omega
                · first
                  | exact absurd rfl hne.out
                  | (go_wp2
                     go_roundw
                     · exact ⟨k + 1, by rw [← HV.out]; go_num, by omega, HBr.out.trans (HB15.out.mono HBr.out.size)⟩
                     · simp [intOf]; have := HV.out; omega)
        · have hk2z : ¬ ((k : Int) - 25) ≤ 45 := by omega
          obtain ⟨v, hv⟩ : ∃ v : Int, (k : Int) - 25 = v := ⟨_, rfl⟩
          rw [hv] at hk2z
          rw [hv]
          clear hv
          clear HDjr HDj HJO HRJ
          go_wp2
          refine wp_region_held (S := fun W => W.heap[bd]? = some (.cells #[.int .i64 (s : Int), .int .i64 1, .int .i64 (N : Int), .slice ad4 n4 c4] 27)) (by kernel_rfl) ?_
          have hbd : Below wr.heap.size wr ({ heap := wr.heap, tape := wr.tape, drawn := wr.drawn + 1, os := wr.os, output := wr.output } : World) := (Below.refl _ _).drew
          generalize ({ heap := wr.heap, tape := wr.tape, drawn := wr.drawn + 1, os := wr.os, output := wr.output } : World) = Wd at *
          have hSd : (fun (W : World) => W.heap[bd]? = some (.cells #[.int .i64 (s : Int), .int .i64 1, .int .i64 (N : Int), .slice ad4 n4 c4] 27)) Wd := blko HDr.out.box hbd
          try simp only [Act.put, List.getElem_toArray, List.getElem_cons_succ, List.getElem_cons_zero, List.setIfInBounds_toArray, List.set_cons_zero, List.set_cons_succ]
          refine wpAnyH_take (i := 0) (v := .agg #[.int .i64 (s : Int), .int .i64 1, .int .i64 (N : Int), .slice ad4 n4 c4]) rfl (by kernel_rfl) (by kernel_rfl) (by kernel_rfl) (fun _ _ _ h => h) (Or.inl ⟨by kernel_rfl, fun W hW => exec_loadD W _ _ _ rfl bd (s : Int) 1 (N : Int) ad4 n4 c4 (by kernel_rfl) hW⟩) hSd ?_
          try simp only [Act.put, List.getElem_toArray, List.getElem_cons_succ, List.getElem_cons_zero, List.setIfInBounds_toArray, List.set_cons_zero, List.set_cons_succ]
          refine tkX 1 (v := .slice bo m cab) (hS := hSd) (h := ?_)
          try simp only [Act.put, List.getElem_toArray, List.getElem_cons_succ, List.getElem_cons_zero, List.setIfInBounds_toArray, List.set_cons_zero, List.set_cons_succ]
          refine wpAnyH_one 2 (by kernel_rfl) ?_
          refine wpOp_call 10 #[.slice bo m cab, .int .i64 1, .int .i64 101] rfl (by kernel_rfl) (rbx_call3 _ _ _ _ _ _ _ _ _ _ rfl _ _ _ (by kernel_rfl) (by kernel_rfl) (by kernel_rfl) (Try.call10 _ _)) ?_
          have hB13 := HB13.out.trans (HBr.out.mono HB13.out.size)
          refine (lawAt_any bo m cab 1 101 Wd (by omega) (by omega) (by omega) (by omega) (HCb.out.below (hB13.trans (hbd.mono hB13.size)))).mono ?_
          rintro e w14 ⟨tt, rfl, htt, hg14⟩
          have hb14 := hbd.trans ((below_none hg14).mono hbd.size)
          refine ⟨blko HDr.out.box hb14, ?_⟩
          try simp only [Act.put, List.getElem_toArray, List.getElem_cons_succ, List.getElem_cons_zero, List.setIfInBounds_toArray, List.set_cons_zero, List.set_cons_succ]
          refine wpAnyH_one 3 (by kernel_rfl) ?_
          refine wpOp_call 14 #[.agg #[.int .i64 (s : Int), .int .i64 1, .int .i64 (N : Int), .slice ad4 n4 c4], .int .i64 (tt : Int)] rfl (by kernel_rfl) (rbx_call2 _ _ _ _ _ _ _ _ rfl _ _ (by kernel_rfl) (by kernel_rfl) (Try.call14 _ _)) ?_
          refine (HAt.out w14 _ _ _ tt (by omega) (HDr.out.below hb14).row).mono ?_
          rintro e w15 ⟨⟨x, cd, rfl, hx0, hx1⟩, hb15⟩
          have hb16 := hb14.trans (hb15.mono hb14.size)
          have hSe : (fun (W : World) => W.heap[bd]? = some (.cells #[.int .i64 (s : Int), .int .i64 1, .int .i64 (N : Int), .slice ad4 n4 c4] 27)) w15 := blko HDr.out.box hb16
          refine ⟨hSe, ?_⟩
          try simp only [Act.put, List.getElem_toArray, List.getElem_cons_succ, List.getElem_cons_zero, List.setIfInBounds_toArray, List.set_cons_zero, List.set_cons_succ]
          refine tkX 4 (v := .tuple #[.int .i64 x, .int .i64 cd]) (hS := hSe) (h := ?_)
          try simp only [Act.put, List.getElem_toArray, List.getElem_cons_succ, List.getElem_cons_zero, List.setIfInBounds_toArray, List.set_cons_zero, List.set_cons_succ]
          refine tkX 5 (v := .int .i64 x) (hS := hSe) (h := ?_)
          try simp only [Act.put, List.getElem_toArray, List.getElem_cons_succ, List.getElem_cons_zero, List.setIfInBounds_toArray, List.set_cons_zero, List.set_cons_succ]
          refine tkX 6 (v := .int .i64 cd) (hS := hSe) (h := ?_)
          try simp only [Act.put, List.getElem_toArray, List.getElem_cons_succ, List.getElem_cons_zero, List.setIfInBounds_toArray, List.set_cons_zero, List.set_cons_succ]
          refine tkX 7 (v := .int .i64 x) (hS := hSe) (h := ?_)
          try simp only [Act.put, List.getElem_toArray, List.getElem_cons_succ, List.getElem_cons_zero, List.setIfInBounds_toArray, List.set_cons_zero, List.set_cons_succ]
          refine tkX 8 (v := .int .i64 cd) (hS := hSe) (h := ?_)
          try simp only [Act.put, List.getElem_toArray, List.getElem_cons_succ, List.getElem_cons_zero, List.setIfInBounds_toArray, List.set_cons_zero, List.set_cons_succ]
          refine wpAnyH_done (by kernel_rfl) ?_ _
          have HZ15 := hidd (HZr.out.below hb16)
          have HB15 := hidd (hB13.trans (hb16.mono hB13.size))
          have HX0 := hidd hx0
          have HX1 := hidd hx1
          clear hSd hSe hbd hb14 hb15 hb16 hg14 hB13 hx0 hx1 HDr HBr HZr HD
          by_cases hN0 : N = 0
          · obtain rfl := HX0.out hN0
            subst hN0
            go_wp2
            go_ret
            exact ⟨rfl, HB15.out⟩
          · obtain ⟨rfl, hxm⟩ := HX1.out hN0
            have HXM := hidd hxm
            clear hxm HX0 HX1
            have hN0z : ((N : Int) == 0) = false := by simp; omega
            go_wp2
            go_loopw [26, 27] (fun sv iv wq => ∃ (i : Nat) (bq : Bool), iv = .int .i64 (i : Int) ∧ sv = .bool bq ∧ i ≤ N ∧ Hid (someB zs x i = bq) ∧ Below w15.heap.size w15 wq) (fun _ iv _ => (N - intOf iv).toNat)
            case atStart => exact ⟨0, false, rfl, rfl, by omega, hidd rfl, Below.refl _ _⟩
            case round =>
              obtain ⟨i, bq, rfl, rfl, hiN, hib, hbq⟩ := hrel
              have HBq := hidd hbq
              have HZq := hidd (HZ15.out.below hbq)
              clear hbq
              by_cases hi2 : i < N
              · have hi2z : (i : Int) < (N : Int) := by omega
                have hcl := sz_cell HZq.out i (by rw [HN.out]; exact hi2)
                have Hst := hidd (someB_succ zs x i (by rw [HN.out]; exact hi2))
                rw [hib.out] at Hst
                cases bq with
                | true =>
                  go_wp2
                  go_roundw
                  · exact ⟨i + 1, true, by go_num, rfl, by omega, by rw [Bool.true_or] at Hst; exact Hst, HBq.out⟩
                  · simp [intOf]; omega
                | false =>
                  rw [Bool.false_or] at Hst
                  generalize zs.getD i 0 = y at *
                  go_wp2
                  go_roundw
                  · exact ⟨i + 1, _, by go_num, rfl, by omega, Hst, HBq.out⟩
                  · simp [intOf]; omega
              · obtain rfl : i = N := by omega
                have hbt : bq = true := by
                  have h1 := someB_in HXM.out
                  rw [HN.out, hib.out] at h1
                  exact h1
                subst hbt
                go_wp2
                go_ret
                exact ⟨rfl, HB15.out.trans (HBq.out.mono HB15.out.size)⟩
  · have hlz : zs.length ≤ 1048576 := by omega
    have HSp : Hid (∀ V, Below w1.heap.size w1 V → Calls Try.prog 8 #[.slice (some ⟨g, 0, none⟩) zs.length cp, .int .i64 t] V (DgQ V (ofZ zs t).1.1 (ofZ zs t).1.2.1 (ofZ zs t).1.2.2.1 (ofZ zs t).1.2.2.2 (ofZ zs t).2)) := fun V hV => specQ zs t _ V hlz (HZ1.out.below hV)
    have HIm : Hid (∀ V, Below w1.heap.size w1 V → Calls Try.prog 9 #[.slice (some ⟨g, 0, none⟩) zs.length cp, .int .i64 t] V (DgQ V (ofZ zs t).1.1 (ofZ zs t).1.2.1 (ofZ zs t).1.2.2.1 (ofZ zs t).1.2.2.2 (ofZ zs t).2)) := fun V hV => implQ zs t _ V hlz (HZ1.out.below hV)
    generalize ofZ zs t = J at *
    obtain ⟨⟨js, jp, jc, jz⟩, code⟩ := J
    dsimp only at HSp HIm hcode
    have hcc : (code != code) = false := by simp
    have hc0 : (code != 0) = true := by simpa using hcode
    generalize zs.length = N at *
    go_wp2_with fail
    refine (HSp.out _ (Below.refl _ _)).mono ?_
    rintro e w2 ⟨ad2, n2, c2, rfl, -, hz2, hb2⟩
    have HB2 := hidd (HB1.out.trans (hb2.mono HB1.out.size))
    have HW2 := hidd hb2
    clear hz2 hb2 HSp
    go_upto_region 5 with fail
    have HBn : Hid (Below w2.heap.size w2 (w2.alloc (.cells #[.int .i64 js, .int .i64 jp, .int .i64 jc, .slice ad2 n2 c2] 27))) := (Below.refl _ _).alloc (Nat.le_refl _) _
    obtain ⟨w3, hwn⟩ : ∃ V, w2.alloc (.cells #[.int .i64 js, .int .i64 jp, .int .i64 jc, .slice ad2 n2 c2] 27) = V := ⟨_, rfl⟩
    rw [hwn] at HBn
    try rw [hwn]
    clear hwn
    have HB3 := hidd (HB2.out.trans (HBn.out.mono HB2.out.size))
    have HW3 := hidd (HW2.out.trans (HBn.out.mono HW2.out.size))
    clear HBn HB2 HW2
    go_wp2_with fail
    refine (HIm.out _ HW3.out).mono ?_
    rintro e w4 ⟨ad4, n4, c4, rfl, hn4, hz4, hb4⟩
    have HB4 := hidd (HB3.out.trans (hb4.mono HB3.out.size))
    clear hz4 hb4 HIm HB3 HW3
    go_upto_region 6 with fail
    have HBn : Hid (Below w4.heap.size w4 (w4.alloc (.cells #[.int .i64 js, .int .i64 jp, .int .i64 jc, .slice ad4 n4 c4] 27))) := (Below.refl _ _).alloc (Nat.le_refl _) _
    obtain ⟨w5, hwn⟩ : ∃ V, w4.alloc (.cells #[.int .i64 js, .int .i64 jp, .int .i64 jc, .slice ad4 n4 c4] 27) = V := ⟨_, rfl⟩
    rw [hwn] at HBn
    try rw [hwn]
    clear hwn
    go_wp2
    go_ret
    exact ⟨rfl, HB4.out.trans (HBn.out.mono HB4.out.size)⟩
end Go.Proofs.Ytboocdiilbcdcaa
