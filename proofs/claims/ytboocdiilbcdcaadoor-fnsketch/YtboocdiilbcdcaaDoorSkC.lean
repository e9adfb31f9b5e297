import Derived.Test.YtboocdiilbcdcaaDoorSkR
import Derived.Test.YtboocdiilbcdcaaDoorLgI
import Derived.Deep.DeepCutAuto
namespace Go.Proofs.YtboocdiilbcdcaaDoor
open Go Go.RowKit
set_option linter.unusedVariables false
set_option linter.unusedSimpArgs false
set_option maxRecDepth 100000

/-! How many different texts: both sides. -/
def zc (zs : List Int) (k : Nat) : Nat := ((zs.take k).filter fun x => decide (x = 0)).length
def ps (zs : List Int) (k : Nat) : Nat := ((zs.take k).map fun x => 2 ^ (25 - x.toNat)).sum
theorem zc_step (zs : List Int) (k : Nat) (h : k < zs.length) : zc zs (k + 1) = zc zs k + (if zs.getD k 0 = 0 then 1 else 0) := by
  unfold zc
  rw [List.take_succ_eq_append_getElem h, List.filter_append, List.length_append]
  have e : zs.getD k 0 = zs[k] := by simp [List.getD_eq_getElem?_getD, List.getElem?_eq_getElem h]
  rw [e]
  by_cases hx : zs[k] = 0 <;> simp [hx]
theorem ps_step (zs : List Int) (k : Nat) (h : k < zs.length) : ps zs (k + 1) = ps zs k + 2 ^ (25 - (zs.getD k 0).toNat) := by
  unfold ps
  rw [List.take_succ_eq_append_getElem h, List.map_append, List.sum_append]
  have e : zs.getD k 0 = zs[k] := by simp [List.getD_eq_getElem?_getD, List.getElem?_eq_getElem h]
  rw [e]
  simp
theorem pow_le25 (x : Nat) : 1 ≤ 2 ^ (25 - x) ∧ 2 ^ (25 - x) ≤ 33554432 := by
  refine ⟨Nat.one_le_two_pow, ?_⟩
  have : 2 ^ (25 - x) ≤ 2 ^ 25 := Nat.pow_le_pow_right (by omega) (by omega)
  exact Nat.le_trans this (by decide)
theorem zc_le (zs : List Int) : ∀ k, k ≤ zs.length → zc zs k ≤ k
  | 0, _ => by simp [zc]
  | k + 1, h => by
    rw [zc_step zs k (by omega)]
    have := zc_le zs k (by omega)
    split <;> omega
theorem ps_le (zs : List Int) : ∀ k, k ≤ zs.length → k ≤ ps zs k ∧ ps zs k ≤ k * 33554432
  | 0, _ => by simp [ps]
  | k + 1, h => by
    rw [ps_step zs k (by omega)]
    have := ps_le zs k (by omega)
    have := pow_le25 (zs.getD k 0).toNat
    omega
def cntR (zs : List Int) : Int := if 0 < zc zs 256 then 256 * (8192 - log2Z (zc zs 256 : Nat)) * 710 / 1048576 else 1580547964928 / ((ps zs 256 : Nat) : Int)
noncomputable def skC (zs : List Int) : Int × Int := if bOf (SkOK zs) = true then (cntR zs, 0) else (0, 1)
theorem log2_256 : log2L 256 = 8192 := by decide
theorem cnt_nums (z : Nat) (h1 : 0 < z) (h2 : z ≤ 256) : ∃ L D R : Nat, log2Z (z : Int) = (L : Int) ∧ L ≤ 8192 ∧ (8192 : Int) - (L : Int) = (D : Int) ∧ D ≤ 8192 ∧ 256 * (D : Int) * 710 / 1048576 = (R : Int) ∧ R ≤ 1048576 := by
  have hl : log2Z (z : Int) = (log2L z : Int) := by unfold log2Z logOK; rw [if_pos (by simp; omega)]; rfl
  have hm := log2L_mono h1 h2
  rw [log2_256] at hm
  refine ⟨log2L z, 8192 - log2L z, 256 * (8192 - log2L z) * 710 / 1048576, hl, hm, by omega, by omega, ?_, ?_⟩
  · generalize 8192 - log2L z = D
    have : (256 : Int) * (D : Int) * 710 = ((256 * D * 710 : Nat) : Int) := by omega
    rw [this]; simp
  · omega
set_option maxHeartbeats 4000000 in
theorem count_any (HLn : LenC) (zs : List Int) (w : World) (hs : SkOK zs) :
    Calls Tryd.prog 30 #[.agg (ruArr zs)] w fun e w' => e = .returned (.int .i64 (cntR zs)) ∧ Below w.heap.size w w' := by
  have HL := hidd hs.1
  have HS := hidd hs.2
  have HLn := hidd HLn
  obtain ⟨R, hR⟩ : ∃ R, cntR zs = R := ⟨_, rfl⟩
  rw [hR]
  have HR := hidd hR
  clear hs hR
  have HBa : Hid (Below w.heap.size w (w.alloc (.cells (ruArr zs) 50))) := (Below.refl _ _).alloc (Nat.le_refl _) _
  go_enter Tryd.func30, Tryd.ntmps30
  go_wp2_with (first | (refine rwpB_box rfl _ rfl zs rfl ?_) | (refine rwpB_load rfl _ rfl w.heap.size w.heap.size zs rfl (rBlk.new (Nat.le_refl _) HL.out) ?_))
  go_loop [3, 4, 6, 8] (fun ev sv _ iv => ∃ k Z P : Nat, k ≤ 256 ∧ iv = .int .i64 (k : Int) ∧ ev = .int .i64 (Z : Int) ∧ sv = .int .i64 (P : Int) ∧ zc zs k = Z ∧ ps zs k = P ∧ Z ≤ 256 ∧ P ≤ 8589934592 ∧ k ≤ P) (fun _ _ _ iv => 256 - (intOf iv).toNat)
  case atStart => exact ⟨0, 0, 0, by omega, rfl, rfl, rfl, by simp [zc], by simp [ps], by omega, by omega, by omega⟩
  case round =>
    obtain ⟨k, Z, P, hk, rfl, rfl, rfl, hz, hp, hZ, hP, hkP⟩ := hrel
    have HZ := hidd hz
    have HP := hidd hp
    clear hz hp
    by_cases hlt : k < 256
    · have hklt : (k : Int) < 256 := by omega
      have hkl : k < zs.length := by rw [HL.out]; exact hlt
      have hz1 := zc_step zs k hkl
      have hp1 := ps_step zs k hkl
      have hzl := zc_le zs (k + 1) (by omega)
      have hpl := ps_le zs (k + 1) (by omega)
      obtain ⟨x, hx⟩ : ∃ x, zs.getD k 0 = x := ⟨_, rfl⟩
      have hb := HS.out k hlt
      rw [hx] at hb hz1 hp1
      have Hx := hidd hx
      obtain ⟨r, rfl⟩ : ∃ r : Nat, x = (r : Int) := ⟨x.toNat, by have := hb.1; omega⟩
      have hr25 : r ≤ 25 := by have := hb.2; omega
      obtain ⟨d, hd⟩ : ∃ d : Nat, 25 - r = d := ⟨_, rfl⟩
      have hdz : (25 : Int) - (r : Int) = (d : Int) := by omega
      rw [Int.toNat_natCast, hd] at hp1
      have hpw := pow_le25 r
      rw [hd] at hpw
      obtain ⟨q, hq⟩ : ∃ q : Nat, 2 ^ d = q := ⟨_, rfl⟩
      rw [hq] at hp1 hpw
      have hqz : (1 : Int) * 2 ^ d = (q : Int) := by rw [← hq, Int.one_mul, Int.natCast_pow]; rfl
      have hqz2 : (2 : Int) ^ d = (q : Int) := by rw [← hq, Int.natCast_pow]; rfl
      have hd25 : d ≤ 25 := by omega
      have hwq : IntKind.i64.wrap (q : Int) = (q : Int) := by rw [IntKind.wrap_i64]; omega
      have hwq2 : wrap64 (q : Int) = (q : Int) := by unfold wrap64; omega
      rw [HP.out] at hp1
      rw [HZ.out] at hz1
      have HP1 := hidd hp1
      have hPl : P + q ≤ 8589934592 := by omega
      have hq1 := hpw.1
      have hZl : zc zs (k + 1) ≤ 256 := by omega
      clear hx hp1 hb hd hq hzl hpl
      by_cases hr0 : r = 0
      · have hrb : ((r : Int) == 0) = true := by simp [hr0]
        have HZ1 : Hid (zc zs (k + 1) = Z + 1) := by show _ = _; rw [hz1, if_pos (by omega)]
        have hZ1 : Z + 1 ≤ 256 := by rw [← HZ1.out]; exact hZl
        clear hr0 hz1 hZl
        go_wp2_with (refine rwpB_index rfl _ _ rfl zs k (r : Int) HL.out hlt Hx.out rfl rfl ?_)
        go_round
        case rel => exact ⟨k + 1, Z + 1, P + q, by omega, by go_num, by go_num, by go_num, HZ1.out, HP1.out, hZ1, hPl, by omega⟩
        case measure => simp [intOf]; omega
      · have hrb : ((r : Int) == 0) = false := by simp [hr0]
        have HZ1 : Hid (zc zs (k + 1) = Z) := by show _ = _; rw [hz1, if_neg (by omega)]; rfl
        clear hr0 hz1 hZl
        go_wp2_with (refine rwpB_index rfl _ _ rfl zs k (r : Int) HL.out hlt Hx.out rfl rfl ?_)
        go_round
        case rel => exact ⟨k + 1, Z, P + q, by omega, by go_num, rfl, by go_num, HZ1.out, HP1.out, hZ, hPl, by omega⟩
        case measure => simp [intOf]; omega
    · have hklt : ¬ (k : Int) < 256 := by omega
      obtain rfl : k = 256 := by omega
      by_cases hZ0 : 0 < Z
      · have hZz : (0 : Int) < (Z : Int) := by omega
        obtain ⟨L, D, Q, e1, e2, e3, e4, e5, e6⟩ := cnt_nums Z hZ0 hZ
        have HE : Hid (R = (Q : Int)) := by show _ = _; rw [← HR.out]; unfold cntR; rw [HZ.out, if_pos hZ0, e1, e3, e5]
        have HL2 : Hid (∀ V, Calls Tryd.prog 46 #[.int .i64 (Z : Int)] V fun e w' => e = .returned (.int .i64 (L : Int)) ∧ w' = V) := fun V => by rw [← e1]; exact implLog2_any HLn.out (Z : Int) V
        have HQ5 := hidd e5
        clear e1 e5 hk hlt
        go_wp2_with fail
        refine (HL2.out _).mono ?_
        rintro e w1 ⟨rfl, hw1⟩
        obtain rfl := hw1.symm
        clear hw1
        go_wp2_with fail
        go_ret
        rw [HE.out]
        refine ⟨?_, HBa.out⟩
        show Ending.returned (Value.int .i64 (256 * (D : Int) * 710 / 1048576)) = _
        rw [HQ5.out]
      · have hZz : ¬ (0 : Int) < (Z : Int) := by omega
        obtain ⟨Q, hQ⟩ : ∃ Q : Nat, (1580547964928 : Int) / (P : Int) = (Q : Int) := ⟨1580547964928 / P, by simp⟩
        have hQb : Q ≤ 1580547964928 := by have := Int.ediv_le_self (a := 1580547964928) (P : Int) (by omega); omega
        have HE : Hid (R = (Q : Int)) := by show _ = _; rw [← HR.out]; unfold cntR; rw [HZ.out, if_neg hZ0, HP.out, hQ]
        have hPn : (P : Int) ≠ 0 := by omega
        clear hk hlt
        go_wp2_with fail
        go_ret
        rw [HE.out]
        exact ⟨rfl, HBa.out⟩
set_option maxHeartbeats 2000000 in
theorem implCount_any (HLn : LenC) (v : Value) (zs : List Int) (w : World) (hl : zs.length ≤ 1048576) (hv : HoldI w v zs) :
    Calls Tryd.prog 10 #[.agg #[v]] w fun e w' => e = .returned (.tuple #[.int .i64 (skC zs).1, .int .i64 (skC zs).2]) ∧ Below w.heap.size w w' := by
  have HV := hidd hv
  have HLn := hidd HLn
  obtain ⟨J, hJ⟩ : ∃ J, skC zs = J := ⟨_, rfl⟩
  rw [hJ]
  have HJJ := hidd hJ
  clear hJ
  obtain ⟨ad, cap, rfl, -⟩ := hv
  have HBa : Hid (Below w.heap.size w (w.alloc (.cells #[.slice ad zs.length cap] 27))) := (Below.refl _ _).alloc (Nat.le_refl _) _
  go_enter Tryd.func10, Tryd.ntmps10
  go_wp2_with fail
  refine (ranks_any (.slice ad zs.length cap) zs _ hl (HV.out.below HBa.out)).mono ?_
  rintro e w1 ⟨rs, rfl, hrl, hrs, hb1⟩
  have HB1 := hidd (HBa.out.trans (hb1.mono HBa.out.size))
  have HRl := hidd hrl
  have HRs := hidd hrs
  clear hrl hb1 hrs
  cases hB : bOf (SkOK zs) with
  | false =>
    have HC : Hid (J = (0, 1)) := by show _ = _; rw [← HJJ.out]; unfold skC; rw [hB]; rfl
    clear hB
    go_wp2_with (first | (refine rwpB_alloc rfl rfl ?_) | (refine rwpB_store rfl _ _ rfl w1.heap.size w1.heap.size rzeros rs rfl rfl HRl.out (rBlk.new (Nat.le_refl _) rzeros_length) ?_; intro W2 hR2 hg2; have HG2 := hidd hg2; clear hR2 hg2))
    have HB2 : Hid (Below w.heap.size w W2) := grown_b1 (HB1.out.alloc HB1.out.size _) (by have := HB1.out.size; simp; omega) HG2.out HB1.out.size
    go_ret2
    rw [HC.out]
    exact ⟨rfl, HB2.out⟩
  | true =>
    have hok := bOf_ok hB
    have HC : Hid (J = (cntR zs, 0)) := by show _ = _; rw [← HJJ.out]; unfold skC; rw [hB]; rfl
    obtain rfl := HRs.out hok
    have HOk := hidd hok
    have HCn : Hid (∀ V, Calls Tryd.prog 30 #[.agg (ruArr rs)] V fun e w' => e = .returned (.int .i64 (cntR rs)) ∧ Below V.heap.size V w') := fun V => count_any HLn.out rs V HOk.out
    generalize cntR rs = C at *
    clear hB hok HRs
    go_wp2_with (first | (refine rwpB_alloc rfl rfl ?_) | (refine rwpB_store rfl _ _ rfl w1.heap.size w1.heap.size rzeros rs rfl rfl HRl.out (rBlk.new (Nat.le_refl _) rzeros_length) ?_; intro W2 hR2 hg2; have HG2 := hidd hg2; have HR2 := hidd hR2; clear hR2 hg2) | (refine rwpB_load rfl _ rfl w1.heap.size w1.heap.size rs rfl HR2.out ?_))
    refine (HCn.out _).mono ?_
    rintro e w3 ⟨rfl, hb3⟩
    have HB2 : Hid (Below w.heap.size w W2) := grown_b1 (HB1.out.alloc HB1.out.size _) (by have := HB1.out.size; simp; omega) HG2.out HB1.out.size
    have HB3 := hidd (HB2.out.trans (hb3.mono HB2.out.size))
    clear hb3
    go_wp2_with fail
    go_ret2
    rw [HC.out]
    exact ⟨rfl, HB3.out⟩
set_option maxHeartbeats 4000000 in
theorem specCount_any (v : Value) (zs : List Int) (w : World) (hl : zs.length ≤ 1048576) (hv : HoldI w v zs) :
    Calls Tryd.prog 11 #[.agg #[v]] w fun e w' => e = .returned (.tuple #[.int .i64 (skC zs).1, .int .i64 (skC zs).2]) ∧ Below w.heap.size w w' := by
  have HOk : Hid (∀ (V : World), Below w.heap.size w V → Calls Tryd.prog 31 #[.agg #[v]] V fun e w' => e = .returned (.bool (bOf (SkOK zs))) ∧ Below V.heap.size V w') := fun V hV => specSkOK_any v zs V hl (hv.below hV)
  obtain ⟨J, hJ⟩ : ∃ J, skC zs = J := ⟨_, rfl⟩
  rw [hJ]
  have HJJ := hidd hJ
  clear hJ
  obtain ⟨ad, cap, rfl, hz⟩ := hv
  have HZz := hidd hz
  have HBa : Hid (Below w.heap.size w (w.alloc (.cells #[.slice ad zs.length cap] 27))) := (Below.refl _ _).alloc (Nat.le_refl _) _
  have HK := hidd (heap_alloc_new w (.cells #[.slice ad zs.length cap] 27))
  clear hz
  cases hB : bOf (SkOK zs) with
  | false =>
    have HC : Hid (J = (0, 1)) := by show _ = _; rw [← HJJ.out]; unfold skC; rw [hB]; rfl
    rw [hB] at HOk
    go_enter Tryd.func11, Tryd.ntmps11
    go_wp2_with fail
    refine (HOk.out _ HBa.out).mono ?_
    rintro e w1 ⟨rfl, hb1⟩
    have HB1 := hidd (HBa.out.trans (hb1.mono HBa.out.size))
    clear hb1
    go_wp2_with fail
    go_ret2
    rw [HC.out]
    exact ⟨rfl, HB1.out⟩
  | true =>
    have hok := bOf_ok hB
    have HC : Hid (J = (cntR zs, 0)) := by show _ = _; rw [← HJJ.out]; unfold skC; rw [hB]; rfl
    rw [hB] at HOk
    obtain ⟨R, hR⟩ : ∃ R, cntR zs = R := ⟨_, rfl⟩
    rw [hR] at HC
    have HR := hidd hR
    have HL := hidd hok.1
    have HS := hidd hok.2
    have hl256 : zs.length = 256 := hok.1
    rw [hl256] at HOk HK HBa
    rw [hl256]
    have hlt0 : 0 < zs.length := by omega
    obtain ⟨gz, off, rfl, hgz, hcz⟩ := HZz.out.resolve_left (fun h => by rw [h] at hlt0; simp at hlt0)
    have HCz := hidd hcz
    clear hB hok hR hcz HZz hlt0 hl256 hl
    go_enter Tryd.func11, Tryd.ntmps11
    go_wp2_with fail
    refine (HOk.out _ HBa.out).mono ?_
    rintro e w1 ⟨rfl, hb1⟩
    have HB1 := hidd (HBa.out.trans (hb1.mono HBa.out.size))
    have x0 : w1.cell? ⟨w.heap.size, 0, none⟩ = some (.slice (some ⟨gz, off, none⟩) 256 cap) := blkc (blko HK.out hb1) 0
    clear hb1 HOk HK HBa
    go_wp2_with fail
    go_loop [4, 5, 6, 7, 8] (fun ev sv iv _ _ => ∃ k Z P : Nat, k ≤ 256 ∧ iv = .int .i64 (k : Int) ∧ ev = .int .i64 (Z : Int) ∧ sv = .int .i64 (P : Int) ∧ zc zs k = Z ∧ ps zs k = P ∧ Z ≤ 256 ∧ P ≤ 8589934592 ∧ k ≤ P) (fun _ _ iv _ _ => 256 - (intOf iv).toNat)
    case atStart => exact ⟨0, 0, 0, by omega, rfl, rfl, rfl, by simp [zc], by simp [ps], by omega, by omega, by omega⟩
    case round =>
      obtain ⟨k, Z, P, hk, rfl, rfl, rfl, hz, hp, hZ, hP, hkP⟩ := hrel
      have HZ := hidd hz
      have HP := hidd hp
      clear hz hp
      by_cases hlt : k < 256
      · have hklt : (k : Int) < 256 := by omega
        have hkl : k < zs.length := by rw [HL.out]; exact hlt
        have hz1 := zc_step zs k hkl
        have hp1 := ps_step zs k hkl
        have hzl := zc_le zs (k + 1) (by omega)
        have hpl := ps_le zs (k + 1) (by omega)
        have z1 := (HB1.out.cell (p := ⟨gz, off + k, none⟩) hgz).trans (HCz.out k hkl)
        obtain ⟨x, hx⟩ : ∃ x, zs.getD k 0 = x := ⟨_, rfl⟩
        have hb := HS.out k hlt
        rw [hx] at hb hz1 hp1 z1
        obtain ⟨r, rfl⟩ : ∃ r : Nat, x = (r : Int) := ⟨x.toNat, by have := hb.1; omega⟩
        have hr25 : r ≤ 25 := by have := hb.2; omega
        have hpw := pow_le25 r
        rw [Int.toNat_natCast] at hp1
        obtain ⟨q, hq⟩ : ∃ q : Nat, 2 ^ (25 - r) = q := ⟨_, rfl⟩
        rw [hq] at hp1 hpw
        have HQ := hidd hq
        rw [HP.out] at hp1
        rw [HZ.out] at hz1
        have HP1 := hidd hp1
        have hPl : P + q ≤ 8589934592 := by omega
        have hq1 := hpw.1
        have hZl : zc zs (k + 1) ≤ 256 := by omega
        have hzb : ∃ Z1 : Nat, zc zs (k + 1) = Z1 ∧ (r = 0 → Z1 = Z + 1) ∧ (r ≠ 0 → Z1 = Z) := ⟨_, rfl, fun h => by rw [hz1, if_pos (by omega)], fun h => by rw [hz1, if_neg (by omega)]; rfl⟩
        obtain ⟨Z1, hZ1, hZa, hZb⟩ := hzb
        have HZ1 := hidd hZ1
        rw [hZ1] at hZl
        clear hx hp1 hb hq hzl hpl hz1 hZ1
        go_upto_if 21 with fail
        go_cut [4] from 12 to 37 (fun ev wy => ev = .int .i64 (Z1 : Int) ∧ wy = w1)
        case first =>
          by_cases hr0 : r = 0
          · have hrb : ((r : Int) == 0) = true := by simp [hr0]
            have hZe : (Z : Int) + 1 = (Z1 : Int) := by have := hZa hr0; omega
            clear hr0 hZa hZb
            go_wp2_with fail
            go_meet
            case rel => exact ⟨by first | rfl | (go_num), rfl⟩
          · have hrb : ((r : Int) == 0) = false := by simp [hr0]
            have HZe := hidd (hZb hr0)
            clear hr0 hZa hZb
            go_wp2_with fail
            go_meet
            case rel => exact ⟨by rw [HZe.out], rfl⟩
        case rest =>
          obtain ⟨rfl, hww⟩ := hcut
          obtain rfl := hww.symm
          clear hww hZa hZb
          go_wp2_with fail
          go_loop [7, 8] (fun pv nv => ∃ m p : Nat, m ≤ 25 ∧ nv = .int .i64 (m : Int) ∧ pv = .int .i64 (p : Int) ∧ r ≤ m ∧ p * 2 ^ (25 - m) = q ∧ p ≤ q) (fun _ nv => 25 - (intOf nv).toNat)
          case atStart => exact ⟨r, 1, hr25, rfl, rfl, Nat.le_refl _, by rw [Nat.one_mul]; exact HQ.out, hq1⟩
          case round =>
            obtain ⟨m, p, hm, rfl, rfl, hrm, hpq, hple⟩ := hrel
            have HPQ := hidd hpq
            clear hpq
            by_cases hm25 : m < 25
            · have hmz : (m : Int) < 25 := by omega
              have HPn : Hid (2 * p * 2 ^ (25 - (m + 1)) = q) := by
                show _ = _
                have e : 25 - m = (25 - (m + 1)) + 1 := by omega
                rw [← HPQ.out, e, Nat.pow_succ, Nat.mul_comm 2 p, Nat.mul_assoc, Nat.mul_comm 2]
              have hpl2 : 2 * p ≤ q := by
                have h1 : 1 ≤ 2 ^ (25 - (m + 1)) := Nat.one_le_two_pow
                have h2 : 2 * p * 1 ≤ 2 * p * 2 ^ (25 - (m + 1)) := Nat.mul_le_mul_left _ h1
                have := HPn.out
                omega
              have hq2 := hpw.2
              go_wp2_with fail
              go_round
              case rel => exact ⟨m + 1, 2 * p, by omega, by go_num, by go_num, by omega, HPn.out, hpl2⟩
              case measure => simp [intOf]; omega
            · have hmz : ¬ (m : Int) < 25 := by omega
              have HPq : Hid (p = q) := by
                show _ = _
                have h := HPQ.out
                have e : 25 - m = 0 := by omega
                rw [e] at h
                simpa using h
              clear hple
              rw [HPq.out]
              go_wp2_with fail
              go_round
              case rel => exact ⟨k + 1, Z1, P + q, by omega, by go_num, rfl, by go_num, HZ1.out, HP1.out, hZl, hPl, by omega⟩
              case measure => simp [intOf]; omega
      · have hklt : ¬ (k : Int) < 256 := by omega
        obtain rfl : k = 256 := by omega
        by_cases hZ0 : 0 < Z
        · have hZz : (0 : Int) < (Z : Int) := by omega
          obtain ⟨L, D, Q, e1, e2, e3, e4, e5, e6⟩ := cnt_nums Z hZ0 hZ
          have HE : Hid (R = (Q : Int)) := by show _ = _; rw [← HR.out]; unfold cntR; rw [HZ.out, if_pos hZ0, e1, e3, e5]
          have HL2 : Hid (∀ V, Calls Tryd.prog 32 #[.int .i64 (Z : Int)] V fun e w' => e = .returned (.int .i64 (L : Int)) ∧ w' = V) := fun V => by rw [← e1]; exact specLog2_any (Z : Int) V
          have HQ5 := hidd e5
          clear e1 e5 hk hlt
          go_wp2_with fail
          refine (HL2.out _).mono ?_
          rintro e w2 ⟨rfl, hw1⟩
          obtain rfl := hw1.symm
          clear hw1
          go_wp2_with fail
          go_ret2
          rw [HC.out, HE.out]
          refine ⟨?_, HB1.out⟩
          show Ending.returned (Value.tuple #[Value.int .i64 (256 * (D : Int) * 710 / 1048576), Value.int .i64 0]) = _
          rw [HQ5.out]
        · have hZz : ¬ (0 : Int) < (Z : Int) := by omega
          obtain ⟨Q, hQ⟩ : ∃ Q : Nat, (1580547964928 : Int) / (P : Int) = (Q : Int) := ⟨1580547964928 / P, by simp⟩
          have hQb : Q ≤ 1580547964928 := by have := Int.ediv_le_self (a := 1580547964928) (P : Int) (by omega); omega
          have HE : Hid (R = (Q : Int)) := by show _ = _; rw [← HR.out]; unfold cntR; rw [HZ.out, if_neg hZ0, HP.out, hQ]
          have hPn : (P : Int) ≠ 0 := by omega
          clear hk hlt
          go_wp2_with fail
          go_ret2
          rw [HC.out, HE.out]
          exact ⟨rfl, HB1.out⟩
end Go.Proofs.YtboocdiilbcdcaaDoor
