import Derived.Test.YtgoklapafidpkaaGreatDoorDocOKJ07
import Derived.Test.YtgoklapafidpkaaGreatDoorDocOKJ05
import Derived.WalkLawsBesides
import Derived.BigQuiet
import Derived.Deep.QuietTactic
import Derived.Deep.RegionWith
import Derived.Deep.CutBlock
namespace Go.Proofs.YtgoklapafidpkaaGreatDoor
open Go Go.RowKit
set_option linter.unusedVariables false
set_option maxRecDepth 100000

theorem szAzL_ok {left : Int} (hl0 : 0 ≤ left) (hl1 : left ≤ 1048576) {s : List (List UInt8)} {y : List (List UInt8 × List UInt8)} (h : 0 ≤ szAz left s y) : szAz left s y ≤ left ∧ s.length ≤ 1048576 ∧ y.length ≤ 1048576 ∧ szS s ∧ szY y := by
  unfold szAz at h
  by_cases h1 : szStr left s < 0
  · rw [if_pos h1] at h; omega
  rw [if_neg h1] at h
  by_cases h2 : szSyn (szStr left s) y < 0
  · rw [if_pos h2] at h; omega
  have a1 : ¬ left - (s.length : Int) < 0 := by
    intro hh; rw [szStr, if_pos hh] at h1; omega
  have e1 : szStr left s = szGo (left - (s.length : Int)) s := by rw [szStr, if_neg a1]
  have k1 := szGo_ok s _ (by rw [← e1]; omega)
  rw [← e1] at k1
  have a2 : ¬ szStr left s - (y.length : Int) < 0 := by
    intro hh; rw [szSyn, if_pos hh] at h2; omega
  have e2 : szSyn (szStr left s) y = syGo (szStr left s - (y.length : Int)) y := by rw [szSyn, if_neg a2]
  have k2 := syGo_ok y _ (by rw [← e2]; omega)
  refine ⟨by unfold szAz; rw [if_neg h1, if_neg h2]; omega, by omega, by omega, fun t ht => ?_, fun t ht => ?_⟩
  · have := k1.2 _ (getD_memS s t ht); rw [bs_size]; omega
  · have := k2.2 _ (getD_memY y t ht); rw [bs_size, bs_size]; omega
set_option maxHeartbeats 2000000 in
theorem szAzL_any (bf bsm bp : Bool) (aS aY : Option Addr) (cS cY : Nat) (stops : List (List UInt8)) (syns : List (List UInt8 × List UInt8)) (lo hi left : Int) (w : World) (hl0 : 0 ≤ left) (hl1 : left ≤ 1048576) (hnS : stops.length ≤ 9223372036854775807) (hnY : syns.length ≤ 9223372036854775807) (hS : HoldS w aS stops) (hY : HoldY w aY syns)
    (zS : ∀ t, t < stops.length → (bs (stops.getD t [])).size ≤ 9223372036854775807) (zY : ∀ t, t < syns.length → (bs (syns.getD t ([], [])).1).size ≤ 9223372036854775807 ∧ (bs (syns.getD t ([], [])).2).size ≤ 9223372036854775807) :
    Calls Tryz.prog 99 #[.agg #[.bool bf, .bool bsm, .bool bp, .slice aS stops.length cS, .slice aY syns.length cY, .int .i64 lo, .int .i64 hi], .int .i64 left] w fun e w' => e = .returned (.int .i64 (szAz left stops syns)) ∧ Below w.heap.size w w' := by
  have HBa : Hid (Below w.heap.size w (w.alloc (.cells #[.bool bf, .bool bsm, .bool bp, .slice aS stops.length cS, .slice aY syns.length cY, .int .i64 lo, .int .i64 hi] 111))) := (Below.refl _ _).alloc (Nat.le_refl _) _
  have Hb : Hid ((w.alloc (.cells #[.bool bf, .bool bsm, .bool bp, .slice aS stops.length cS, .slice aY syns.length cY, .int .i64 lo, .int .i64 hi] 111)).heap[w.heap.size]? = some (.cells #[.bool bf, .bool bsm, .bool bp, .slice aS stops.length cS, .slice aY syns.length cY, .int .i64 lo, .int .i64 hi] 111)) := heap_alloc_new _ _
  have hlt : w.heap.size < (w.alloc (.cells #[.bool bf, .bool bsm, .bool bp, .slice aS stops.length cS, .slice aY syns.length cY, .int .i64 lo, .int .i64 hi] 111)).heap.size := by simp
  have HSa := hidd (hS.below HBa.out)
  have HYa := hidd (hY.below HBa.out)
  have ZS := hidd zS
  have ZY := hidd zY
  clear hS hY zS zY
  have HD : Hid (szAz left stops syns = if szStr left stops < 0 then -1 else if szSyn (szStr left stops) syns < 0 then -1 else szSyn (szStr left stops) syns) := rfl
  have HLE : Hid (¬ szStr left stops < 0 → 0 ≤ szStr left stops ∧ szStr left stops ≤ 1048576) := by
    intro h
    refine ⟨by omega, ?_⟩
    rw [szStr] at h ⊢
    by_cases h1 : left - (stops.length : Int) < 0
    · rw [if_pos h1]; omega
    · rw [if_neg h1] at h ⊢
      have := (szGo_ok stops (left - (stops.length : Int)) (by omega)).1
      omega
  go_enter Tryz.func99, Tryz.ntmps99
  go_wp2_with fail
  generalize w.alloc (.cells #[.bool bf, .bool bsm, .bool bp, .slice aS stops.length cS, .slice aY syns.length cY, .int .i64 lo, .int .i64 hi] 111) = wa at *
  refine (szStrs_any aS cS stops left _ (by omega) (by omega) hnS HSa.out ZS.out).mono ?_
  rintro e w' ⟨rfl, hw⟩
  obtain rfl := hw.symm
  clear hw
  have q4 : wa.cell? ⟨w.heap.size, 4, none⟩ = some (.slice aY syns.length cY) := by simp [World.cell?, Hb.out]
  by_cases c1 : szStr left stops < 0
  · have HR : Hid (szAz left stops syns = -1) := by show _ = _; rw [HD.out, if_pos c1]
    generalize szStr left stops = z at *
    go_wp2_with fail
    go_ret
    rw [HR.out]
    exact ⟨rfl, HBa.out⟩
  · have hz := HLE.out (by omega)
    generalize szStr left stops = z at *
    obtain ⟨hz0, hz1⟩ := hz
    rw [if_neg c1] at HD
    go_wp2_with fail
    refine (szSyns_any aY cY syns z _ hz0 hz1 hnY HYa.out ZY.out).mono ?_
    rintro e w2 ⟨rfl, hb2⟩
    have HB2 := hidd (HBa.out.trans (hb2.mono (by omega)))
    clear hb2
    by_cases c2 : szSyn z syns < 0
    · rw [if_pos c2] at HD
      generalize szSyn z syns = y at *
      go_wp2_with fail
      go_ret
      rw [HD.out]
      exact ⟨rfl, HB2.out⟩
    · rw [if_neg c2] at HD
      generalize szSyn z syns = y at *
      go_wp2_with fail
      go_ret
      rw [HD.out]
      exact ⟨rfl, HB2.out⟩
theorem szAzL_ge (left : Int) (hl0 : 0 ≤ left) (s : List (List UInt8)) (y : List (List UInt8 × List UInt8)) : -1 ≤ szAz left s y := by
  unfold szAz
  split
  · omega
  · split <;> omega
def szFd (left : Int) (f : Fd) : Int := if left - (f.name.length : Int) < 0 then -1 else if szAz (left - (f.name.length : Int)) f.stops f.syns < 0 then -1 else szAz (left - (f.name.length : Int)) f.stops f.syns
def szFdGo (left : Int) : List Fd → Int
  | [] => left
  | f :: t => if szFd left f < 0 then -1 else szFdGo (szFd left f) t
def szFds (left : Int) (l : List Fd) : Int := if left - (l.length : Int) < 0 then -1 else szFdGo (left - (l.length : Int)) l
theorem szFd_ge (left : Int) (f : Fd) (h : 0 ≤ left) : -1 ≤ szFd left f := by
  unfold szFd
  split
  · omega
  · rename_i h1
    have := szAzL_ge (left - (f.name.length : Int)) (by omega) f.stops f.syns
    split <;> omega
theorem szFd_ok {left : Int} {f : Fd} (h0 : 0 ≤ left) (h1 : left ≤ 1048576) (h : 0 ≤ szFd left f) : szFd left f ≤ left ∧ FdSz f := by
  unfold szFd at h ⊢
  split at h
  · omega
  · rename_i h2
    rw [if_neg h2]
    split at h
    · omega
    · rename_i h3
      rw [if_neg h3]
      obtain ⟨a1, a2, a3, a4, a5⟩ := szAzL_ok (by omega) (by omega) h
      exact ⟨by omega, by omega, a2, a3, a4, a5⟩
theorem szFdGo_ge : ∀ (l : List Fd) (left : Int), 0 ≤ left → -1 ≤ szFdGo left l
  | [], left, h => by simp only [szFdGo]; omega
  | f :: t, left, h => by
    simp only [szFdGo]
    split
    · omega
    · exact szFdGo_ge t _ (by omega)
theorem szFdGo_ok : ∀ (l : List Fd) (left : Int), 0 ≤ left → left ≤ 1048576 → 0 ≤ szFdGo left l → ∀ f ∈ l, FdSz f
  | [], left, h, h1, h2, f, hf => by simp at hf
  | g :: t, left, h, h1, h2, f, hf => by
    simp only [szFdGo] at h2
    split at h2
    · omega
    · rename_i hn
      have a := szFd_ok (f := g) h h1 (by omega)
      rcases List.mem_cons.1 hf with rfl | hf
      · exact a.2
      · exact szFdGo_ok t _ (by omega) (by omega) h2 f hf
theorem szFdGo_step (l : List Fd) (k : Nat) (left : Int) (h : k < l.length) : szFdGo left (l.drop k) = if szFd left (l.getD k fd0) < 0 then -1 else szFdGo (szFd left (l.getD k fd0)) (l.drop (k + 1)) := by
  rw [List.drop_eq_getElem_cons h, szFdGo]; simp [h]
theorem fd0_sz : FdSz fd0 := ⟨by simp [fd0], by simp [fd0], by simp [fd0], fun t ht => absurd ht (by simp [fd0]), fun t ht => absurd ht (by simp [fd0])⟩
theorem szFds_ok {l : List Fd} (h : 0 ≤ szFds 1048576 l) : l.length ≤ 1048576 ∧ ∀ i, FdSz (l.getD i fd0) := by
  unfold szFds at h
  split at h
  · omega
  · rename_i h1
    refine ⟨by omega, fun i => ?_⟩
    by_cases hi : i < l.length
    · refine szFdGo_ok l _ (by omega) (by omega) h _ ?_
      rw [List.getD_eq_getElem?_getD, List.getElem?_eq_getElem hi]
      exact List.getElem_mem hi
    · rw [List.getD_eq_getElem?_getD, List.getElem?_eq_none (by omega)]; exact fd0_sz
theorem szFds_ge (l : List Fd) : -1 ≤ szFds 1048576 l := by
  unfold szFds
  split
  · omega
  · exact szFdGo_ge l _ (by omega)
/-- Lengths as the machine bounds them. -/
def FdLen (f : Fd) : Prop := f.name.length ≤ 9223372036854775807 ∧ f.stops.length ≤ 9223372036854775807 ∧ f.syns.length ≤ 9223372036854775807 ∧ (∀ t, t < f.stops.length → (bs (f.stops.getD t [])).size ≤ 9223372036854775807) ∧ (∀ t, t < f.syns.length → (bs (f.syns.getD t ([], [])).1).size ≤ 9223372036854775807 ∧ (bs (f.syns.getD t ([], [])).2).size ≤ 9223372036854775807)
set_option maxHeartbeats 2000000 in
theorem szFieldDef_any (f : Fd) (aS aY : Option Addr) (cS cY : Nat) (left : Int) (w : World) (h0 : 0 ≤ left) (h1 : left ≤ 1048576) (hL : FdLen f) (hS : HoldS w aS f.stops) (hY : HoldY w aY f.syns) :
    Calls Tryz.prog 60 #[.agg #[.string (bs f.name), .int .i64 f.kind, .bool f.bf, .bool f.bsm, .bool f.bp, .slice aS f.stops.length cS, .slice aY f.syns.length cY, .int .i64 f.lo, .int .i64 f.hi], .int .i64 left] w fun e w' => e = .returned (.int .i64 (szFd left f)) ∧ Below w.heap.size w w' := by
  obtain ⟨hL1, hL2, hL3, hL4, hL5⟩ := hL
  have hfl := bs_size f.name
  have HSz := hidd (fun W l (h0 : 0 ≤ l) (h1 : l ≤ 1048576) (h2 : HoldS W aS f.stops) (h3 : HoldY W aY f.syns) => szAzL_any f.bf f.bsm f.bp aS aY cS cY f.stops f.syns f.lo f.hi l W h0 h1 hL2 hL3 h2 h3 hL4 hL5)
  have HS := hidd hS
  have HY := hidd hY
  have HGe := hidd (fun l h => szAzL_ge l h f.stops f.syns)
  obtain ⟨R, hR⟩ : ∃ R, szFd left f = R := ⟨_, rfl⟩
  rw [hR]
  rw [szFd] at hR
  have HR := hidd hR
  clear hR hS hY hL4 hL5
  go_enter Tryz.func60, Tryz.ntmps60
  by_cases hf : left - (f.name.length : Int) < 0
  · rw [if_pos hf] at HR
    go_wp2_with fail
    go_ret
    rw [← HR.out]
    exact ⟨rfl, (Below.refl _ _).alloc (Nat.le_refl _) _⟩
  · rw [if_neg hf] at HR
    have HBa := hidd ((Below.refl w.heap.size w).alloc (Nat.le_refl _) (.cells #[.string (bs f.name), .int .i64 f.kind, .bool f.bf, .bool f.bsm, .bool f.bp, .slice aS f.stops.length cS, .slice aY f.syns.length cY, .int .i64 f.lo, .int .i64 f.hi] 113))
    have hge := HGe.out (left - (f.name.length : Int)) (by omega)
    go_wp2_with fail
    refine (HSz.out _ _ (by omega) (by omega) (HS.out.below HBa.out) (HY.out.below HBa.out)).mono ?_
    rintro e w3 ⟨rfl, hb3⟩
    have HB3 := hidd (HBa.out.trans (hb3.mono HBa.out.size))
    clear hb3
    generalize szAz (left - (f.name.length : Int)) f.stops f.syns = Y at *
    dsimp only
    by_cases hY : Y < 0
    · rw [if_pos hY] at HR
      go_wp2_with fail
      go_ret
      rw [← HR.out]
      exact ⟨rfl, HB3.out⟩
    · rw [if_neg hY] at HR
      go_wp2_with fail
      go_ret
      rw [← HR.out]
      exact ⟨rfl, HB3.out⟩
set_option maxHeartbeats 2000000 in
theorem szFieldDefs_any (a : Option Addr) (c : Nat) (l : List Fd) (left : Int) (w : World) (h0 : 0 ≤ left) (h1 : left ≤ 1048576) (hn : l.length ≤ 9223372036854775807) (hA : ∀ i, FdLen (l.getD i fd0)) (hS : HoldF w a l) :
    Calls Tryz.prog 28 #[.slice a l.length c, .int .i64 left] w fun e w' => e = .returned (.int .i64 (szFds left l)) ∧ Below w.heap.size w w' := by
  have HS := hidd hS
  have HA := hidd hA
  clear hS hA
  by_cases h : left - (l.length : Int) < 0
  · have HE : Hid (szFds left l = -1) := by show _ = _; rw [szFds, if_pos h]
    go_enter Tryz.func28, Tryz.ntmps28
    go_wp2_with fail
    go_ret
    rw [HE.out]
    exact ⟨rfl, Below.refl _ _⟩
  · obtain ⟨R, hR⟩ : ∃ R, szFds left l = R := ⟨_, rfl⟩
    rw [hR]
    have HE : Hid (szFdGo (left - (l.length : Int)) l = R) := by show _ = _; rw [← hR, szFds, if_neg h]
    clear hR
    go_enter Tryz.func28, Tryz.ntmps28
    go_wp2_with fail
    go_loopw [1, 5] (fun lv iv wr => ∃ (k : Nat) (x : Int), k ≤ l.length ∧ iv = .int .i64 (k : Int) ∧ lv = .int .i64 x ∧ 0 ≤ x ∧ x ≤ 1048576 ∧ szFdGo x (l.drop k) = R ∧ Below w.heap.size w wr) (fun _ iv _ => l.length - (intOf iv).toNat)
    case atStart => exact ⟨0, _, Nat.zero_le _, rfl, rfl, by omega, by omega, by rw [List.drop_zero]; exact HE.out, Below.refl _ _⟩
    case round =>
      clear HE
      obtain ⟨k, x, hk, rfl, rfl, hx0, hx1, hgo, hbel⟩ := hrel
      have HG := hidd hgo
      have HB := hidd hbel
      clear hgo hbel
      by_cases hlt : k < l.length
      · have hkz : (k : Int) < (l.length : Int) := by omega
        obtain ⟨b, off, rfl, hbl, hc⟩ := (HS.out.below HB.out).resolve_left (fun h => by rw [h] at hlt; simp at hlt)
        obtain ⟨x0, x1, x2, x3, x4, ⟨aS, cS, x5, hSt⟩, ⟨aY, cY, x6, hYt⟩, x7, x8⟩ := hc k hlt
        clear hc
        rw [szFdGo_step l k x hlt] at HG
        have hal := HA.out k
        generalize l.getD k fd0 = f at *
        have hs := szFd_ge x f hx0
        have hs2 : 0 ≤ szFd x f → szFd x f ≤ x := fun h => (szFd_ok hx0 hx1 h).1
        have HV := hidd (szFieldDef_any f aS aY cS cY x wr hx0 hx1 hal hSt hYt)
        clear hSt hYt hal
        generalize szFd x f = X at *
        go_wp2_with fail
        refine HV.out.mono ?_
        rintro e w3 ⟨rfl, hb3⟩
        have HB3 := hidd (HB.out.trans (hb3.mono HB.out.size))
        clear hb3 HV x0 x1 x2 x3 x4 x5 x6 x7 x8
        dsimp only
        by_cases hX : X < 0
        · obtain rfl : X = -1 := by omega
          rw [if_pos hX] at HG
          go_wp2_with fail
          go_ret
          rw [← HG.out]
          exact ⟨rfl, HB3.out⟩
        · rw [if_neg hX] at HG
          have hX0 : 0 ≤ X := by omega
          have hX1 := hs2 hX0
          go_wp2_with fail
          go_roundw
          case rel => exact ⟨k + 1, X, by omega, by go_num, rfl, by omega, by omega, HG.out, HB3.out⟩
          case measure => simp [intOf]; omega
      · have hkz : ¬ (k : Int) < (l.length : Int) := by omega
        rw [List.drop_of_length_le (by omega), szFdGo] at HG
        go_wp2_with fail
        go_ret
        rw [← HG.out]
        exact ⟨rfl, HB.out⟩
set_option maxHeartbeats 1000000 in
theorem szSchema_any (a : Option Addr) (cap : Nat) (l : List Fd) (w : World) (hn : l.length ≤ 9223372036854775807) (hA : ∀ i, FdLen (l.getD i fd0)) (hS : HoldF w a l) :
    Calls Tryz.prog 6 #[.agg #[.slice a l.length cap], .int .i64 1048576] w fun e w' => e = .returned (.int .i64 (szFds 1048576 l)) ∧ Below w.heap.size w w' := by
  have HBa := hidd ((Below.refl w.heap.size w).alloc (Nat.le_refl _) (.cells #[.slice a l.length cap] 24))
  have HS := hidd hS
  have HC := hidd (fun W (h : HoldF W a l) => szFieldDefs_any a cap l 1048576 W (by omega) (by omega) hn hA h)
  clear hS hA
  have hge := szFds_ge l
  generalize szFds 1048576 l = R at *
  go_enter Tryz.func6, Tryz.ntmps6
  go_wp2_with fail
  refine (HC.out _ (HS.out.below HBa.out)).mono ?_
  rintro e w3 ⟨rfl, hb3⟩
  have HB3 := hidd (HBa.out.trans (hb3.mono HBa.out.size))
  clear hb3
  dsimp only
  by_cases hX : R < 0
  · obtain rfl : R = -1 := by omega
    go_wp2_with fail
    go_ret
    exact ⟨rfl, HB3.out⟩
  · go_wp2_with fail
    go_ret
    exact ⟨rfl, HB3.out⟩
end Go.Proofs.YtgoklapafidpkaaGreatDoor

namespace Go.Proofs.YtgoklapafidpkaaGreatDoor
open Go Go.RowKit
set_option linter.unusedVariables false
set_option maxRecDepth 100000

theorem Tryz.infoFd : (Tryz.prog.info? 79).map (fun i => (i.zero, i.size, i.bytes)) = some (some (.agg #[.string ⟨#[]⟩, .int .i64 0, .bool false, .bool false, .bool false, .slice none 0 0, .slice none 0 0, .int .i64 0, .int .i64 0]), 9, 96) := by kernel_rfl
set_option maxHeartbeats 1000000 in
theorem setNine (zs xs : List Value) (k n : Nat) (v0 v1 v2 v3 v4 v5 v6 v7 v8 : Value) (hz : zs.length = k * 9) (hx : xs.length = n * 9) (hk : k < n) : (((((((((zs ++ xs.drop (k * 9)).set (k * 9) v0).set (k * 9 + 1) v1).set (k * 9 + 2) v2).set (k * 9 + 3) v3).set (k * 9 + 4) v4).set (k * 9 + 5) v5).set (k * 9 + 6) v6).set (k * 9 + 7) v7).set (k * 9 + 8) v8 = (zs ++ [v0, v1, v2, v3, v4, v5, v6, v7, v8]) ++ xs.drop ((k + 1) * 9) := by
  have hd : xs.drop (k * 9) = xs[k * 9] :: xs[k * 9 + 1] :: xs[k * 9 + 2] :: xs[k * 9 + 3] :: xs[k * 9 + 4] :: xs[k * 9 + 5] :: xs[k * 9 + 6] :: xs[k * 9 + 7] :: xs[k * 9 + 8] :: xs.drop ((k + 1) * 9) := by
    iterate 9 rw [List.drop_eq_getElem_cons (by omega)]
    congr 9
    congr 1
    omega
  rw [hd]
  have e : ∀ (j : Nat) (ys : List Value) (u : Value), (zs ++ ys).set (k * 9 + j) u = zs ++ ys.set j u := fun j ys u => by rw [List.set_append_right _ _ (by omega), hz, Nat.add_sub_cancel_left]
  have e0 : ∀ (ys : List Value) (u : Value), (zs ++ ys).set (k * 9) u = zs ++ ys.set 0 u := fun ys u => e 0 ys u
  rw [e0]
  iterate 8 rw [e]
  simp
theorem HoldS.keep {w w' : World} {g : Nat} {l : List (List UInt8)} (h : HoldS w (some ⟨g, 0, none⟩) l) (hk : g < w.heap.size → w'.heap[g]? = w.heap[g]?) : HoldS w' (some ⟨g, 0, none⟩) l := by
  rcases h with h | ⟨b, off, h1, h2, h3⟩
  · exact Or.inl h
  · simp only [Option.some.injEq, Addr.mk.injEq, and_true] at h1
    obtain ⟨rfl, rfl⟩ := h1
    have hh := hk h2
    refine Or.inr ⟨g, 0, rfl, ?_, fun t ht => ?_⟩
    · have := (Array.getElem?_eq_some_iff.1 (hh.trans (Array.getElem?_eq_getElem h2))).1
      exact this
    · rw [← h3 t ht]; simp [World.cell?, hh]
theorem HoldY.keep {w w' : World} {g : Nat} {l : List (List UInt8 × List UInt8)} (h : HoldY w (some ⟨g, 0, none⟩) l) (hk : g < w.heap.size → w'.heap[g]? = w.heap[g]?) : HoldY w' (some ⟨g, 0, none⟩) l := by
  rcases h with h | ⟨b, off, h1, h2, h3⟩
  · exact Or.inl h
  · simp only [Option.some.injEq, Addr.mk.injEq, and_true] at h1
    obtain ⟨rfl, rfl⟩ := h1
    have hh := hk h2
    refine Or.inr ⟨g, 0, rfl, ?_, fun t ht => ?_⟩
    · have := (Array.getElem?_eq_some_iff.1 (hh.trans (Array.getElem?_eq_getElem h2))).1
      exact this
    · rw [← (h3 t ht).1, ← (h3 t ht).2]; simp [World.cell?, hh]
theorem own_base {w : World} {base e sz g n cap : Nat} {xs : List Value} (h : w.ownsRow base e sz (.slice (some ⟨g, 0, none⟩) n cap) n xs) : base ≤ g := by
  rcases h.2 with ⟨h', _⟩ | ⟨g', cap', cur, h1, h2, h3⟩
  · simp at h'
  · cases h1; exact h2
theorem heap_set_oth (w : World) (b j : Nat) (u : Value) (g : Nat) (h : g ≠ b) : (w.setCell ⟨b, j, none⟩ u).heap[g]? = w.heap[g]? := Deep.blk_setCell_other w ⟨b, j, none⟩ u g h
set_option maxHeartbeats 4000000 in
theorem toFieldDef_any (f : Fd) (aS aY : Option Addr) (cS cY : Nat) (w : World) (hnS : f.stops.length ≤ 1048576) (hnY : f.syns.length ≤ 1048576) (hS : HoldS w aS f.stops) (hY : HoldY w aY f.syns) :
    Calls Tryz.prog 68 #[.agg #[.string (bs f.name), .int .i64 f.kind, .bool f.bf, .bool f.bsm, .bool f.bp, .slice aS f.stops.length cS, .slice aY f.syns.length cY, .int .i64 f.lo, .int .i64 f.hi]] w fun e w' => ∃ gS gY, e = .returned (.agg #[.string (bs f.name), .int .i64 f.kind, .bool f.bf, .bool f.bsm, .bool f.bp, .slice (some ⟨gS, 0, none⟩) f.stops.length f.stops.length, .slice (some ⟨gY, 0, none⟩) f.syns.length f.syns.length, .int .i64 f.lo, .int .i64 f.hi]) ∧ w.heap.size ≤ gS ∧ w.heap.size ≤ gY ∧ HoldS w' (some ⟨gS, 0, none⟩) f.stops ∧ HoldY w' (some ⟨gY, 0, none⟩) f.syns ∧ Below w.heap.size w w' := by
  have HS := hidd hS
  have HY := hidd hY
  have HT := hidd (fun W (h2 : HoldS W aS f.stops) (h3 : HoldY W aY f.syns) => toAz_any f.bf f.bsm f.bp aS aY cS cY f.stops f.syns f.lo f.hi W hnS hnY h2 h3)
  clear hS hY
  go_enter Tryz.func68, Tryz.ntmps68
  go_wp2_with fail
  have hk := alloc3 w (.cells #[.string (bs f.name), .int .i64 f.kind, .bool f.bf, .bool f.bsm, .bool f.bp, .slice aS f.stops.length cS, .slice aY f.syns.length cY, .int .i64 f.lo, .int .i64 f.hi] 113) (.cells #[.string ⟨#[]⟩, .int .i64 0, .bool false, .bool false, .bool false, .slice none 0 0, .slice none 0 0, .int .i64 0, .int .i64 0] 79) (.cells #[.string (bs f.name), .int .i64 f.kind, .bool false, .bool false, .bool false, .slice none 0 0, .slice none 0 0, .int .i64 0, .int .i64 0] 79)
  have HB3 : Hid (Below w.heap.size w (((w.alloc (.cells #[.string (bs f.name), .int .i64 f.kind, .bool f.bf, .bool f.bsm, .bool f.bp, .slice aS f.stops.length cS, .slice aY f.syns.length cY, .int .i64 f.lo, .int .i64 f.hi] 113)).alloc (.cells #[.string ⟨#[]⟩, .int .i64 0, .bool false, .bool false, .bool false, .slice none 0 0, .slice none 0 0, .int .i64 0, .int .i64 0] 79)).alloc (.cells #[.string (bs f.name), .int .i64 f.kind, .bool false, .bool false, .bool false, .slice none 0 0, .slice none 0 0, .int .i64 0, .int .i64 0] 79))) := (((Below.refl _ _).alloc (Nat.le_refl _) _).alloc (by simp) _).alloc (by simp; omega) _
  have hsz3 : w.heap.size + 1 + 1 < (((w.alloc (.cells #[.string (bs f.name), .int .i64 f.kind, .bool f.bf, .bool f.bsm, .bool f.bp, .slice aS f.stops.length cS, .slice aY f.syns.length cY, .int .i64 f.lo, .int .i64 f.hi] 113)).alloc (.cells #[.string ⟨#[]⟩, .int .i64 0, .bool false, .bool false, .bool false, .slice none 0 0, .slice none 0 0, .int .i64 0, .int .i64 0] 79)).alloc (.cells #[.string (bs f.name), .int .i64 f.kind, .bool false, .bool false, .bool false, .slice none 0 0, .slice none 0 0, .int .i64 0, .int .i64 0] 79)).heap.size := by simp
  simp only [] at hk
  generalize ((w.alloc (.cells #[.string (bs f.name), .int .i64 f.kind, .bool f.bf, .bool f.bsm, .bool f.bp, .slice aS f.stops.length cS, .slice aY f.syns.length cY, .int .i64 f.lo, .int .i64 f.hi] 113)).alloc (.cells #[.string ⟨#[]⟩, .int .i64 0, .bool false, .bool false, .bool false, .slice none 0 0, .slice none 0 0, .int .i64 0, .int .i64 0] 79)).alloc (.cells #[.string (bs f.name), .int .i64 f.kind, .bool false, .bool false, .bool false, .slice none 0 0, .slice none 0 0, .int .i64 0, .int .i64 0] 79) = W3 at *
  have HK := hidd hk
  clear hk
  refine (HT.out W3 (HS.out.below HB3.out) (HY.out.below HB3.out)).mono ?_
  rintro e w4 ⟨g1, g2, rfl, hown1, hown2, hne, hb4⟩
  have q1 : W3.heap.size ≤ g1 := own_base hown1
  have q2 : W3.heap.size ≤ g2 := own_base hown2
  have HS4 := hidd (holdS_own hown1)
  have HY4 := hidd (holdY_own hown2)
  have HB4 : Hid (Below w.heap.size w w4) := HB3.out.trans (hb4.mono (by omega))
  have k1 := blk_old HK.out.2.1 hb4
  have k2 := blk_old HK.out.2.2 hb4
  have c0 := blk_cell k2 0
  have y0 := blk_fz k2 0
  have d0 := blk_cell k1 0
  have x0 := blk_fz k1 0
  have c1 := blk_cell k2 1
  have y1 := blk_fz k2 1
  have d1 := blk_cell k1 1
  have x1 := blk_fz k1 1
  have c2 := blk_cell k2 2
  have y2 := blk_fz k2 2
  have d2 := blk_cell k1 2
  have x2 := blk_fz k1 2
  have c3 := blk_cell k2 3
  have y3 := blk_fz k2 3
  have d3 := blk_cell k1 3
  have x3 := blk_fz k1 3
  have c4 := blk_cell k2 4
  have y4 := blk_fz k2 4
  have d4 := blk_cell k1 4
  have x4 := blk_fz k1 4
  have c5 := blk_cell k2 5
  have y5 := blk_fz k2 5
  have d5 := blk_cell k1 5
  have x5 := blk_fz k1 5
  have c6 := blk_cell k2 6
  have y6 := blk_fz k2 6
  have d6 := blk_cell k1 6
  have x6 := blk_fz k1 6
  have c7 := blk_cell k2 7
  have y7 := blk_fz k2 7
  have d7 := blk_cell k1 7
  have x7 := blk_fz k1 7
  have c8 := blk_cell k2 8
  have y8 := blk_fz k2 8
  have d8 := blk_cell k1 8
  have x8 := blk_fz k1 8
  simp only [List.getElem?_toArray, List.getElem?_cons_zero, List.getElem?_cons_succ] at c0 c1 c2 c3 c4 c5 c6 c7 c8 d0 d1 d2 d3 d4 d5 d6 d7 d8
  have K1 := hidd k1
  have K2 := hidd k2
  clear hown1 hown2 hb4 HK HB3 HS HY HT k1 k2
  dsimp only
  go_upto_region 5 with fail
  clear c0 d0 x0 y0 c1 d1 x1 y1 c2 d2 x2 y2 c3 d3 x3 y3 c4 d4 x4 y4 c5 d5 x5 y5 c6 d6 x6 y6 c7 d7 x7 y7 c8 d8 x8 y8
  have m2 : (((((((w4.setCell ⟨w.heap.size + 1 + 1, 2, none⟩ (.bool f.bf)).setCell ⟨w.heap.size + 1 + 1, 3, none⟩ (.bool f.bsm)).setCell ⟨w.heap.size + 1 + 1, 4, none⟩ (.bool f.bp)).setCell ⟨w.heap.size + 1 + 1, 5, none⟩ (.slice (some ⟨g1, 0, none⟩) f.stops.length f.stops.length)).setCell ⟨w.heap.size + 1 + 1, 6, none⟩ (.slice (some ⟨g2, 0, none⟩) f.syns.length f.syns.length)).setCell ⟨w.heap.size + 1 + 1, 7, none⟩ (.int .i64 f.lo)).setCell ⟨w.heap.size + 1 + 1, 8, none⟩ (.int .i64 f.hi)).heap[w.heap.size + 1 + 1]? = some (.cells #[.string (bs f.name), .int .i64 f.kind, .bool f.bf, .bool f.bsm, .bool f.bp, .slice (some ⟨g1, 0, none⟩) f.stops.length f.stops.length, .slice (some ⟨g2, 0, none⟩) f.syns.length f.syns.length, .int .i64 f.lo, .int .i64 f.hi] 79) := (blk_set (blk_set (blk_set (blk_set (blk_set (blk_set (blk_set K2.out 2 (.bool f.bf)) 3 (.bool f.bsm)) 4 (.bool f.bp)) 5 (.slice (some ⟨g1, 0, none⟩) f.stops.length f.stops.length)) 6 (.slice (some ⟨g2, 0, none⟩) f.syns.length f.syns.length)) 7 (.int .i64 f.lo)) 8 (.int .i64 f.hi))
  have m1 : (((((((w4.setCell ⟨w.heap.size + 1 + 1, 2, none⟩ (.bool f.bf)).setCell ⟨w.heap.size + 1 + 1, 3, none⟩ (.bool f.bsm)).setCell ⟨w.heap.size + 1 + 1, 4, none⟩ (.bool f.bp)).setCell ⟨w.heap.size + 1 + 1, 5, none⟩ (.slice (some ⟨g1, 0, none⟩) f.stops.length f.stops.length)).setCell ⟨w.heap.size + 1 + 1, 6, none⟩ (.slice (some ⟨g2, 0, none⟩) f.syns.length f.syns.length)).setCell ⟨w.heap.size + 1 + 1, 7, none⟩ (.int .i64 f.lo)).setCell ⟨w.heap.size + 1 + 1, 8, none⟩ (.int .i64 f.hi)).heap[w.heap.size + 1]? = w4.heap[w.heap.size + 1]? := by
    iterate 7 rw [heap_set_oth _ _ _ _ _ (by omega)]
  have hkeep : ∀ g, w.heap.size + 1 + 1 < g → (((((((w4.setCell ⟨w.heap.size + 1 + 1, 2, none⟩ (.bool f.bf)).setCell ⟨w.heap.size + 1 + 1, 3, none⟩ (.bool f.bsm)).setCell ⟨w.heap.size + 1 + 1, 4, none⟩ (.bool f.bp)).setCell ⟨w.heap.size + 1 + 1, 5, none⟩ (.slice (some ⟨g1, 0, none⟩) f.stops.length f.stops.length)).setCell ⟨w.heap.size + 1 + 1, 6, none⟩ (.slice (some ⟨g2, 0, none⟩) f.syns.length f.syns.length)).setCell ⟨w.heap.size + 1 + 1, 7, none⟩ (.int .i64 f.lo)).setCell ⟨w.heap.size + 1 + 1, 8, none⟩ (.int .i64 f.hi)).heap[g]? = w4.heap[g]? := fun g hg => by
    iterate 7 rw [heap_set_oth _ _ _ _ _ (by omega)]
  have HB5 : Hid (Below w.heap.size w (((((((w4.setCell ⟨w.heap.size + 1 + 1, 2, none⟩ (.bool f.bf)).setCell ⟨w.heap.size + 1 + 1, 3, none⟩ (.bool f.bsm)).setCell ⟨w.heap.size + 1 + 1, 4, none⟩ (.bool f.bp)).setCell ⟨w.heap.size + 1 + 1, 5, none⟩ (.slice (some ⟨g1, 0, none⟩) f.stops.length f.stops.length)).setCell ⟨w.heap.size + 1 + 1, 6, none⟩ (.slice (some ⟨g2, 0, none⟩) f.syns.length f.syns.length)).setCell ⟨w.heap.size + 1 + 1, 7, none⟩ (.int .i64 f.lo)).setCell ⟨w.heap.size + 1 + 1, 8, none⟩ (.int .i64 f.hi))) := by
    show Below _ _ _
    iterate 7 refine Below.setCell ?_ (by dsimp only; omega) _
    exact HB4.out
  generalize (((((((w4.setCell ⟨w.heap.size + 1 + 1, 2, none⟩ (.bool f.bf)).setCell ⟨w.heap.size + 1 + 1, 3, none⟩ (.bool f.bsm)).setCell ⟨w.heap.size + 1 + 1, 4, none⟩ (.bool f.bp)).setCell ⟨w.heap.size + 1 + 1, 5, none⟩ (.slice (some ⟨g1, 0, none⟩) f.stops.length f.stops.length)).setCell ⟨w.heap.size + 1 + 1, 6, none⟩ (.slice (some ⟨g2, 0, none⟩) f.syns.length f.syns.length)).setCell ⟨w.heap.size + 1 + 1, 7, none⟩ (.int .i64 f.lo)).setCell ⟨w.heap.size + 1 + 1, 8, none⟩ (.int .i64 f.hi)) = w5 at *
  rw [K1.out] at m1
  have HS5 := hidd (HS4.out.keep fun _ => hkeep g1 (by omega))
  have HY5 := hidd (HY4.out.keep fun _ => hkeep g2 (by omega))
  have c0 := blk_cell m2 0
  have d0 := blk_cell m1 0
  have x0 := blk_fz m1 0
  have c1 := blk_cell m2 1
  have d1 := blk_cell m1 1
  have x1 := blk_fz m1 1
  have c2 := blk_cell m2 2
  have d2 := blk_cell m1 2
  have x2 := blk_fz m1 2
  have c3 := blk_cell m2 3
  have d3 := blk_cell m1 3
  have x3 := blk_fz m1 3
  have c4 := blk_cell m2 4
  have d4 := blk_cell m1 4
  have x4 := blk_fz m1 4
  have c5 := blk_cell m2 5
  have d5 := blk_cell m1 5
  have x5 := blk_fz m1 5
  have c6 := blk_cell m2 6
  have d6 := blk_cell m1 6
  have x6 := blk_fz m1 6
  have c7 := blk_cell m2 7
  have d7 := blk_cell m1 7
  have x7 := blk_fz m1 7
  have c8 := blk_cell m2 8
  have d8 := blk_cell m1 8
  have x8 := blk_fz m1 8
  simp only [List.getElem?_toArray, List.getElem?_cons_zero, List.getElem?_cons_succ] at c0 c1 c2 c3 c4 c5 c6 c7 c8 d0 d1 d2 d3 d4 d5 d6 d7 d8
  clear m1 m2 hkeep HS4 HY4 HB4 K1 K2
  go_wp2_with fail
  refine bodyPost_ret (v := .agg #[.string (bs f.name), .int .i64 f.kind, .bool f.bf, .bool f.bsm, .bool f.bp, .slice (some ⟨g1, 0, none⟩) f.stops.length f.stops.length, .slice (some ⟨g2, 0, none⟩) f.syns.length f.syns.length, .int .i64 f.lo, .int .i64 f.hi]) (by simp [results, Tryz.results68, go_sem, *]) rfl ?_
  refine ⟨g1, g2, rfl, by omega, by omega, ?_, ?_, ?_⟩
  · refine HS5.out.keep fun _ => ?_
    iterate 9 rw [heap_set_oth _ _ _ _ _ (by omega)]
  · refine HY5.out.keep fun _ => ?_
    iterate 9 rw [heap_set_oth _ _ _ _ _ (by omega)]
  · iterate 9 refine Below.setCell ?_ (by dsimp only; omega) _
    exact HB5.out
end Go.Proofs.YtgoklapafidpkaaGreatDoor
