import Derived.Test.YtboocdiilbcdcaaDgR
namespace Go.Proofs.Ytboocdiilbcdcaa
open Go Go.RowKit
set_option linter.unusedVariables false
set_option linter.unusedSimpArgs false
set_option maxRecDepth 100000

/-! impl.DigestRank. -/
set_option maxHeartbeats 1000000 in
theorem rank1_any (bd bv g off n cap i : Nat) (v x : Int) (w : World) (h0 : w.cell? ⟨bd, 3, none⟩ = some (.slice (some ⟨g, off, none⟩) n cap)) (h1 : w.cell? ⟨bv, 0, none⟩ = some (.int .i64 v)) (hi : i < n) (h2 : w.cell? ⟨g, off + i, none⟩ = some (.int .i64 x)) :
    Calls Try.prog 40 #[.int .i64 (i : Int), .pointer (some ⟨bd, 0, none⟩), .pointer (some ⟨bv, 0, none⟩)] w fun e w' => e = .returned (.bool (decide (v < x))) ∧ Below w.heap.size w w' := by
  have hiz : (i : Int) < (n : Int) := by omega
  go_enter Try.func40, Try.ntmps40
  go_wp2_with fail
  go_quiet (fail)
  go_wp2_with fail
  go_ret
  exact ⟨rfl, below_drewN (Below.refl _ _) _⟩
set_option maxHeartbeats 2000000 in
theorem search_any (bd bv n cap : Nat) (ad : Option Addr) (v : Int) (zs : List Int) (w : World) (hl : n ≤ 1048576) (HN : Hid (zs.length = n)) (hs : PtS zs) (h0 : w.cell? ⟨bd, 3, none⟩ = some (.slice ad n cap)) (h1 : w.cell? ⟨bv, 0, none⟩ = some (.int .i64 v))
    (HZ : Hid (zs = [] ∨ ∃ g off, ad = some ⟨g, off, none⟩ ∧ g < w.heap.size ∧ ∀ t, t < zs.length → w.cell? ⟨g, off + t, none⟩ = some (.int .i64 (zs.getD t 0)))) :
    Calls Try.prog 39 #[.int .i64 (n : Int), .func (.func 40) #[] #[.pointer (some ⟨bd, 0, none⟩), .pointer (some ⟨bv, 0, none⟩)]] w fun e w' => e = .returned (.int .i64 (cntLe zs v : Nat)) ∧ Below w.heap.size w w' := by
  have H0 := hidd h0
  have H1 := hidd h1
  have HS := hidd (pts_mono hs)
  clear h0 h1 hs
  obtain ⟨R, hR⟩ : ∃ R, cntLe zs v = R := ⟨_, rfl⟩
  rw [hR]
  have HR := hidd hR
  clear hR
  go_enter Try.func39, Try.ntmps39
  go_wp2_with fail
  go_loopw [5, 6] (fun iv jv wr => ∃ i j : Nat, i ≤ j ∧ j ≤ n ∧ iv = .int .i64 (i : Int) ∧ jv = .int .i64 (j : Int) ∧ (∀ t, t < i → zs.getD t 0 ≤ v) ∧ (∀ t, j ≤ t → t < zs.length → v < zs.getD t 0) ∧ Below w.heap.size w wr) (fun iv jv _ => (intOf jv).toNat - (intOf iv).toNat)
  case atStart => exact ⟨0, n, Nat.zero_le _, Nat.le_refl _, rfl, rfl, fun t h => by omega, fun t h1 h2 => by have := HN.out; omega, Below.refl _ _⟩
  case round =>
    obtain ⟨i, j, hij, hj, rfl, rfl, hlo, hhi, hb⟩ := hrel
    have HLo := hidd hlo
    have HHi := hidd hhi
    have HB := hidd hb
    clear hlo hhi hb
    by_cases hlt : i < j
    · have hltz : (i : Int) < (j : Int) := by omega
      obtain ⟨g, off, rfl, hbl, hc⟩ := HZ.out.resolve_left (fun h => by have := HN.out; rw [h] at this; simp at this; omega)
      go_upto_region 4 with fail
      obtain ⟨h, hh⟩ : ∃ h : Nat, ((i : Int) + (j : Int)) / 2 = (h : Int) := ⟨(i + j) / 2, by omega⟩
      simp only [hh]
      have hi1 : i ≤ h := by omega
      have hj1 : h < j := by omega
      clear hh
      have hhn : h < n := by omega
      have hhz : h < zs.length := by have := HN.out; omega
      have z1 := (HB.out.cell (p := ⟨g, off + h, none⟩) hbl).trans (hc h hhz)
      obtain ⟨x, hx⟩ : ∃ x, zs.getD h 0 = x := ⟨_, rfl⟩
      rw [hx] at z1
      have HX := hidd hx
      have HCx := hidd (rank1_any bd bv g off n cap h v x wr ((HB.out.cell (p := ⟨bd, 3, none⟩) (cell_lt H0.out)).trans H0.out) ((HB.out.cell (p := ⟨bv, 0, none⟩) (cell_lt H1.out)).trans H1.out) hhn z1)
      clear hx hc z1
      go_wp2_with fail
      refine HCx.out.mono ?_
      rintro e w1 ⟨rfl, hb1⟩
      have HB1 := hidd (HB.out.trans (hb1.mono HB.out.size))
      clear hb1 HCx
      by_cases hk : v < x
      · have hkb : decide (v < x) = true := decide_eq_true hk
        have HHi2 : Hid (∀ t, h ≤ t → t < zs.length → v < zs.getD t 0) := fun t ht1 ht2 => by
          have h1 := HS.out (t - h) h (by omega)
          have e : h + (t - h) = t := by omega
          rw [e, HX.out] at h1
          omega
        go_wp2_with fail
        go_roundw
        case rel => exact ⟨i, h, hi1, by omega, rfl, rfl, HLo.out, HHi2.out, HB1.out⟩
        case measure => simp [intOf]; omega
      · have hkb : decide (v < x) = false := decide_eq_false hk
        have HLo2 : Hid (∀ t, t < h + 1 → zs.getD t 0 ≤ v) := fun t ht => by
          have h1 := HS.out (h - t) t (by omega)
          have e : t + (h - t) = h := by omega
          rw [e, HX.out] at h1
          omega
        go_wp2_with fail
        go_roundw
        case rel => exact ⟨h + 1, j, by omega, hj, by go_num, rfl, HLo2.out, HHi.out, HB1.out⟩
        case measure => simp [intOf]; omega
    · have hltz : ¬ (i : Int) < (j : Int) := by omega
      obtain rfl : i = j := by omega
      have HE : Hid (i = R) := by show _ = _; rw [← HR.out]; exact (cntLe_edge zs v i (by have := HN.out; omega) HLo.out (fun t a b => by have := HHi.out t a b; omega)).symm
      go_wp2_with fail
      go_ret
      rw [HE.out]
      exact ⟨rfl, HB.out⟩
set_option maxHeartbeats 4000000 in
theorem implRank_any (s p c : Int) (u : Value) (zs : List Int) (v : Int) (w : World) (hl : zs.length ≤ 1048576) (hv : HoldI w u zs) :
    Calls Try.prog 13 #[.agg #[.int .i64 s, .int .i64 p, .int .i64 c, u], .int .i64 v] w fun e w' => e = .returned (.tuple #[.int .i64 (rkZ s p c zs v).1, .int .i64 (rkZ s p c zs v).2.1, .int .i64 (rkZ s p c zs v).2.2]) ∧ Below w.heap.size w w' := by
  have HOk : Hid (∀ (V : World), Below w.heap.size w V → Calls Try.prog 36 #[.agg #[.int .i64 s, .int .i64 p, .int .i64 c, u]] V fun e w' => e = .returned (.bool (dgB s p c zs)) ∧ Below V.heap.size V w') := fun V hV => implOK_any s p c u zs V hl (hv.below hV)
  obtain ⟨ad, cap, rfl, hz⟩ := hv
  have HZ := hidd hz
  clear hz
  obtain ⟨n, hn⟩ : ∃ n, zs.length = n := ⟨_, rfl⟩
  rw [hn] at hl HOk ⊢
  have HN := hidd hn
  clear hn
  have HBa : Hid (Below w.heap.size w ((w.alloc (.cells #[.int .i64 s, .int .i64 p, .int .i64 c, .slice ad n cap] 27)).alloc (.cells #[.int .i64 v] 3))) := ((Below.refl _ _).alloc (Nat.le_refl _) _).alloc (by simp) _
  have HK := hidd (box_two w (.cells #[.int .i64 s, .int .i64 p, .int .i64 c, .slice ad n cap] 27) (.cells #[.int .i64 v] 3))
  cases hB : dgB s p c zs with
  | false =>
    have HR : Hid (rkZ s p c zs v = (0, 0, 1)) := by show _ = _; unfold rkZ; rw [hB]; rfl
    rw [HR.out]
    have HC : Hid (∀ (V : World), Below w.heap.size w V → Calls Try.prog 36 #[.agg #[.int .i64 s, .int .i64 p, .int .i64 c, .slice ad n cap]] V fun e w' => e = .returned (.bool false) ∧ Below V.heap.size V w') := fun V hV => (HOk.out V hV).mono (fun e w' h => ⟨by rw [h.1, hB], h.2⟩)
    clear hB HOk
    go_enter Try.func13, Try.ntmps13
    go_wp2_with fail
    refine (HC.out _ HBa.out).mono ?_
    rintro e w1 ⟨rfl, hb1⟩
    have HB1 := hidd (HBa.out.trans (hb1.mono HBa.out.size))
    clear hb1
    go_wp2_with fail
    go_ret3
    exact ⟨rfl, HB1.out⟩
  | true =>
    have hd := dgB_ok hB
    have HDT0 := hidd hB
    have HPS := hidd hd.2.2
    have hh := hd.1
    rw [HN.out] at hh
    obtain ⟨q1, q2, q3, q4, q5, q6, q7, q8, q9, q10⟩ := hh
    clear q9 q10
    obtain ⟨s, rfl⟩ : ∃ a : Nat, s = (a : Int) := ⟨s.toNat, by omega⟩
    obtain ⟨p, rfl⟩ : ∃ a : Nat, p = (a : Int) := ⟨p.toNat, by omega⟩
    obtain ⟨c, rfl⟩ : ∃ a : Nat, c = (a : Int) := ⟨c.toNat, by omega⟩
    have HDT : Hid (dgB (s : Int) (p : Int) (c : Int) zs = true) := HDT0.out
    have hs1 : 1 ≤ s := by omega
    have hs2 : s ≤ 4096 := by omega
    have hp2 : p ≤ 4096 := by omega
    have hc2 : c ≤ 4611686018427387903 := by omega
    have HC : Hid (∀ (V : World), Below w.heap.size w V → Calls Try.prog 36 #[.agg #[.int .i64 (s : Int), .int .i64 (p : Int), .int .i64 (c : Int), .slice ad n cap]] V fun e w' => e = .returned (.bool true) ∧ Below V.heap.size V w') := fun V hV => (HOk.out V hV).mono (fun e w' h => ⟨by rw [h.1, HDT.out], h.2⟩)
    clear hB HOk hd HDT0 q1 q2 q3 q4 q5 q6 q8
    obtain ⟨R, hR⟩ : ∃ R, rkZ (s : Int) (p : Int) (c : Int) zs v = R := ⟨_, rfl⟩
    rw [hR]
    have HRR := hidd hR
    clear hR
    go_enter Try.func13, Try.ntmps13
    go_wp2_with fail
    refine (HC.out _ HBa.out).mono ?_
    rintro e w1 ⟨rfl, hb1⟩
    have HB1 := hidd (HBa.out.trans (hb1.mono HBa.out.size))
    have HK1 := hidd (blko HK.out.1 hb1)
    have HK2 := hidd (blko HK.out.2 hb1)
    clear hb1 HK HBa HC
    have x0 : w1.cell? ⟨w.heap.size, 0, none⟩ = some (.int .i64 (s : Int)) := blkc HK1.out 0
    have x1 : w1.cell? ⟨w.heap.size, 1, none⟩ = some (.int .i64 (p : Int)) := blkc HK1.out 1
    have x2 : w1.cell? ⟨w.heap.size, 2, none⟩ = some (.int .i64 (c : Int)) := blkc HK1.out 2
    have x3 : w1.cell? ⟨w.heap.size, 3, none⟩ = some (.slice ad n cap) := blkc HK1.out 3
    have x4 : w1.cell? ⟨w.heap.size + 1, 0, none⟩ = some (.int .i64 v) := blkc HK2.out 0
    have HSe := hidd (search_any w.heap.size (w.heap.size + 1) n cap ad v zs w1 hl HN HPS.out x3 x4 (HZ.out.imp (fun h => h) (fun ⟨g, off, e1, e2, e3⟩ => ⟨g, off, e1, Nat.lt_of_lt_of_le e2 HB1.out.size, fun t ht => (HB1.out.cell (p := ⟨g, off + t, none⟩) e2).trans (e3 t ht)⟩)))
    have hK5 : cntLe zs v ≤ 512 := by have := cntLe_le zs v; have := HN.out; omega
    obtain ⟨K, hKK⟩ : ∃ K, cntLe zs v = K := ⟨_, rfl⟩
    rw [hKK] at hK5 HSe
    have HKK := hidd hKK
    clear hKK x4 HPS
    go_wp2_with fail
    refine HSe.out.mono ?_
    rintro e w2 ⟨rfl, hb2⟩
    have HB2 := hidd (HB1.out.trans (hb2.mono HB1.out.size))
    replace x0 := (hb2.cell (cell_lt x0)).trans x0
    replace x1 := (hb2.cell (cell_lt x1)).trans x1
    replace x2 := (hb2.cell (cell_lt x2)).trans x2
    clear hb2 HSe x3
    obtain ⟨m1, m2, hm1, hm2, hm1b, hm2b⟩ := rk_nums s p K hs1 hs2 hK5
    obtain ⟨mo, hmo'⟩ : ∃ mo, min p K = mo := ⟨_, rfl⟩
    have hmo : min (p : Int) (K : Int) = (mo : Int) := by omega
    obtain ⟨hi, hhi⟩ : ∃ hi, min (m1 : Int) (c : Int) = hi := ⟨_, rfl⟩
    rw [hmo'] at hm2
    have HR : Hid (rkZ (s : Int) (p : Int) (c : Int) zs v = ((m1 : Int) - (m2 : Int), hi, 0)) := by
      show _ = _
      unfold rkZ rkLo rkHi
      rw [if_pos HDT.out]
      simp only [Int.toNat_natCast]
      rw [HKK.out, hm1, hmo', hm2, hhi]
    have hw1 : IntKind.i64.wrap (m1 : Int) = (m1 : Int) := by rw [IntKind.wrap_i64]; omega
    have hw2 : IntKind.i64.wrap (m2 : Int) = (m2 : Int) := by rw [IntKind.wrap_i64]; omega
    have hw3 : IntKind.i64.wrap ((m1 : Int) - (m2 : Int)) = (m1 : Int) - (m2 : Int) := by rw [IntKind.wrap_i64]; omega
    have hw4 : IntKind.i64.wrap ((s : Int) - 1) = (s : Int) - 1 := by rw [IntKind.wrap_i64]; omega
    have hmo9 := hidd hmo'
    clear hmo'
    have hmo2 : (if (K : Int) < (p : Int) then (K : Int) else (p : Int)) = (mo : Int) := by split <;> omega
    have hmo3 : (if K < p then (K : Int) else (p : Int)) = (mo : Int) := by split <;> omega
    clear hmo
    go_upto_region 5 with fail
    clear hmo2 hmo3
    refine wp_region_held (S := fun u => u.cell? ⟨w.heap.size, 0, none⟩ = some (.int .i64 (s : Int)) ∧ u.cell? ⟨w.heap.size, 1, none⟩ = some (.int .i64 (p : Int)) ∧ u.cell? ⟨w.heap.size, 2, none⟩ = some (.int .i64 (c : Int))) (by kernel_rfl) ?_
    have hbd : Below w2.heap.size w2 ({ heap := w2.heap, tape := w2.tape, drawn := w2.drawn + 1, os := w2.os, output := w2.output } : World) := (Below.refl _ _).drew
    generalize ({ heap := w2.heap, tape := w2.tape, drawn := w2.drawn + 1, os := w2.os, output := w2.output } : World) = Wd at *
    have hSd : (fun u => u.cell? ⟨w.heap.size, 0, none⟩ = some (.int .i64 (s : Int)) ∧ u.cell? ⟨w.heap.size, 1, none⟩ = some (.int .i64 (p : Int)) ∧ u.cell? ⟨w.heap.size, 2, none⟩ = some (.int .i64 (c : Int))) Wd := ⟨(hbd.cell (cell_lt x0)).trans x0, (hbd.cell (cell_lt x1)).trans x1, (hbd.cell (cell_lt x2)).trans x2⟩
    try simp only [Act.put, List.getElem_toArray, List.getElem_cons_succ, List.getElem_cons_zero, List.setIfInBounds_toArray, List.set_cons_zero, List.set_cons_succ]
    refine tkX 0 (hS := hSd) (h := ?_)
    try simp only [Act.put, List.getElem_toArray, List.getElem_cons_succ, List.getElem_cons_zero, List.setIfInBounds_toArray, List.set_cons_zero, List.set_cons_succ]
    refine tkX 1 (hS := hSd) (h := ?_)
    try simp only [Act.put, List.getElem_toArray, List.getElem_cons_succ, List.getElem_cons_zero, List.setIfInBounds_toArray, List.set_cons_zero, List.set_cons_succ]
    refine tkX 2 (v := .int .i64 (s : Int)) (hS := hSd) (h := ?_)
    try simp only [Act.put, List.getElem_toArray, List.getElem_cons_succ, List.getElem_cons_zero, List.setIfInBounds_toArray, List.set_cons_zero, List.set_cons_succ]
    refine tkX 3 (v := .int .i64 (m1 : Int)) (hS := hSd) (h := ?_)
    try simp only [Act.put, List.getElem_toArray, List.getElem_cons_succ, List.getElem_cons_zero, List.setIfInBounds_toArray, List.set_cons_zero, List.set_cons_succ]
    refine tkX 4 (hS := hSd) (h := ?_)
    try simp only [Act.put, List.getElem_toArray, List.getElem_cons_succ, List.getElem_cons_zero, List.setIfInBounds_toArray, List.set_cons_zero, List.set_cons_succ]
    refine tkX 5 (v := .int .i64 (s : Int)) (hS := hSd) (h := ?_)
    try simp only [Act.put, List.getElem_toArray, List.getElem_cons_succ, List.getElem_cons_zero, List.setIfInBounds_toArray, List.set_cons_zero, List.set_cons_succ]
    refine tkX 6 (v := .int .i64 ((s : Int) - 1)) (hS := hSd) (h := ?_)
    try simp only [Act.put, List.getElem_toArray, List.getElem_cons_succ, List.getElem_cons_zero, List.setIfInBounds_toArray, List.set_cons_zero, List.set_cons_succ]
    refine tkX 7 (hS := hSd) (h := ?_)
    try simp only [Act.put, List.getElem_toArray, List.getElem_cons_succ, List.getElem_cons_zero, List.setIfInBounds_toArray, List.set_cons_zero, List.set_cons_succ]
    refine tkX 8 (v := .int .i64 (m2 : Int)) (hS := hSd) (h := ?_)
    try simp only [Act.put, List.getElem_toArray, List.getElem_cons_succ, List.getElem_cons_zero, List.setIfInBounds_toArray, List.set_cons_zero, List.set_cons_succ]
    refine tkX 9 (v := .int .i64 ((m1 : Int) - (m2 : Int))) (hS := hSd) (h := ?_)
    try simp only [Act.put, List.getElem_toArray, List.getElem_cons_succ, List.getElem_cons_zero, List.setIfInBounds_toArray, List.set_cons_zero, List.set_cons_succ]
    refine tkX 10 (hS := hSd) (h := ?_)
    try simp only [Act.put, List.getElem_toArray, List.getElem_cons_succ, List.getElem_cons_zero, List.setIfInBounds_toArray, List.set_cons_zero, List.set_cons_succ]
    refine tkX 11 (hS := hSd) (h := ?_)
    try simp only [Act.put, List.getElem_toArray, List.getElem_cons_succ, List.getElem_cons_zero, List.setIfInBounds_toArray, List.set_cons_zero, List.set_cons_succ]
    refine tkX 12 (v := .int .i64 (s : Int)) (hS := hSd) (h := ?_)
    try simp only [Act.put, List.getElem_toArray, List.getElem_cons_succ, List.getElem_cons_zero, List.setIfInBounds_toArray, List.set_cons_zero, List.set_cons_succ]
    refine tkX 13 (v := .int .i64 (m1 : Int)) (hS := hSd) (h := ?_)
    try simp only [Act.put, List.getElem_toArray, List.getElem_cons_succ, List.getElem_cons_zero, List.setIfInBounds_toArray, List.set_cons_zero, List.set_cons_succ]
    refine tkX 14 (hS := hSd) (h := ?_)
    try simp only [Act.put, List.getElem_toArray, List.getElem_cons_succ, List.getElem_cons_zero, List.setIfInBounds_toArray, List.set_cons_zero, List.set_cons_succ]
    refine tkX 15 (v := .int .i64 (c : Int)) (hS := hSd) (h := ?_)
    try simp only [Act.put, List.getElem_toArray, List.getElem_cons_succ, List.getElem_cons_zero, List.setIfInBounds_toArray, List.set_cons_zero, List.set_cons_succ]
    refine wpAnyH_take (i := 16) (v := .int .i64 (hi : Int)) rfl (by kernel_rfl) (by kernel_rfl) (by kernel_rfl) (fun _ _ _ h => h) (Or.inl ⟨by kernel_rfl, fun W hW => exec_min2 W _ _ _ _ rfl _ _ _ (by kernel_rfl) (by kernel_rfl) hhi⟩) hSd ?_
    try simp only [Act.put, List.getElem_toArray, List.getElem_cons_succ, List.getElem_cons_zero, List.setIfInBounds_toArray, List.set_cons_zero, List.set_cons_succ]
    refine tkX 17 (hS := hSd) (h := ?_)
    try simp only [Act.put, List.getElem_toArray, List.getElem_cons_succ, List.getElem_cons_zero, List.setIfInBounds_toArray, List.set_cons_zero, List.set_cons_succ]
    refine tkX 18 (hS := hSd) (h := ?_)
    try simp only [Act.put, List.getElem_toArray, List.getElem_cons_succ, List.getElem_cons_zero, List.setIfInBounds_toArray, List.set_cons_zero, List.set_cons_succ]
    refine tkX 19 (hS := hSd) (h := ?_)
    try simp only [Act.put, List.getElem_toArray, List.getElem_cons_succ, List.getElem_cons_zero, List.setIfInBounds_toArray, List.set_cons_zero, List.set_cons_succ]
    refine wpAnyH_done (by kernel_rfl) ?_ _
    clear hSd hm1 hm2 hhi hw1 hw2 hw3 hw4
    have HR2 := hidd (HRR.out.symm.trans HR.out)
    go_wp2_with fail
    go_ret3
    rw [HR2.out]
    exact ⟨rfl, HB2.out.trans (hbd.mono HB2.out.size)⟩
end Go.Proofs.Ytboocdiilbcdcaa
