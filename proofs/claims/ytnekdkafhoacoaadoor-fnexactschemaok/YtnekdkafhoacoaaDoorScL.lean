import Derived.Test.YtnekdkafhoacoaaDoorAzO
import Derived.Test.YtnekdkafhoacoaaDoorScZ
namespace Go.Proofs.YtnekdkafhoacoaaDoor
open Go Go.RowKit
set_option linter.unusedVariables false
set_option maxRecDepth 100000

theorem szAzL_ok {left : Int} (hl0 : 0 ≤ left) (hl1 : left ≤ 1048576) {s : List (List UInt8)} {y : List (List UInt8 × List UInt8)} (h : 0 ≤ szAz left s y) : szAz left s y ≤ left ∧ s.length ≤ 1048576 ∧ y.length ≤ 1048576 ∧ szS s ∧ szY y := by
  unfold szAz at h
  by_cases h1 : szStr left s < 0
  · rw [if_pos h1] at h; omega
  rw [if_neg h1] at h
  by_cases h2 : szSyn (szStr left s) y < 0
  · rw [if_pos h2] at h; omega
  have a1 : ¬ left - (s.length : Int) < 0 := by
    intro hh; rw [szStr, if_pos hh] at h1; omega
  have e1 : szStr left s = szGo (left - (s.length : Int)) s := by rw [szStr, if_neg a1]
  have k1 := szGo_ok s _ (by rw [← e1]; omega)
  rw [← e1] at k1
  have a2 : ¬ szStr left s - (y.length : Int) < 0 := by
    intro hh; rw [szSyn, if_pos hh] at h2; omega
  have e2 : szSyn (szStr left s) y = syGo (szStr left s - (y.length : Int)) y := by rw [szSyn, if_neg a2]
  have k2 := syGo_ok y _ (by rw [← e2]; omega)
  refine ⟨by unfold szAz; rw [if_neg h1, if_neg h2]; omega, by omega, by omega, fun t ht => ?_, fun t ht => ?_⟩
  · have := k1.2 _ (getD_memS s t ht); rw [bs_size]; omega
  · have := k2.2 _ (getD_memY y t ht); rw [bs_size, bs_size]; omega
set_option maxHeartbeats 2000000 in
theorem szAzL_any (bf bsm bp : Bool) (aS aY : Option Addr) (cS cY : Nat) (stops : List (List UInt8)) (syns : List (List UInt8 × List UInt8)) (lo hi left : Int) (w : World) (hl0 : 0 ≤ left) (hl1 : left ≤ 1048576) (hnS : stops.length ≤ 9223372036854775807) (hnY : syns.length ≤ 9223372036854775807) (hS : HoldS w aS stops) (hY : HoldY w aY syns)
    (zS : ∀ t, t < stops.length → (bs (stops.getD t [])).size ≤ 9223372036854775807) (zY : ∀ t, t < syns.length → (bs (syns.getD t ([], [])).1).size ≤ 9223372036854775807 ∧ (bs (syns.getD t ([], [])).2).size ≤ 9223372036854775807) :
    Calls Tryd.prog 49 #[.agg #[.bool bf, .bool bsm, .bool bp, .slice aS stops.length cS, .slice aY syns.length cY, .int .i64 lo, .int .i64 hi], .int .i64 left] w fun e w' => e = .returned (.int .i64 (szAz left stops syns)) ∧ Below w.heap.size w w' := by
  have HBa : Hid (Below w.heap.size w (w.alloc (.cells #[.bool bf, .bool bsm, .bool bp, .slice aS stops.length cS, .slice aY syns.length cY, .int .i64 lo, .int .i64 hi] 69))) := (Below.refl _ _).alloc (Nat.le_refl _) _
  have Hb : Hid ((w.alloc (.cells #[.bool bf, .bool bsm, .bool bp, .slice aS stops.length cS, .slice aY syns.length cY, .int .i64 lo, .int .i64 hi] 69)).heap[w.heap.size]? = some (.cells #[.bool bf, .bool bsm, .bool bp, .slice aS stops.length cS, .slice aY syns.length cY, .int .i64 lo, .int .i64 hi] 69)) := heap_alloc_new _ _
  have hlt : w.heap.size < (w.alloc (.cells #[.bool bf, .bool bsm, .bool bp, .slice aS stops.length cS, .slice aY syns.length cY, .int .i64 lo, .int .i64 hi] 69)).heap.size := by simp
  have HSa := hidd (hS.below HBa.out)
  have HYa := hidd (hY.below HBa.out)
  have ZS := hidd zS
  have ZY := hidd zY
  clear hS hY zS zY
  have HD : Hid (szAz left stops syns = if szStr left stops < 0 then -1 else if szSyn (szStr left stops) syns < 0 then -1 else szSyn (szStr left stops) syns) := rfl
  have HLE : Hid (¬ szStr left stops < 0 → 0 ≤ szStr left stops ∧ szStr left stops ≤ 1048576) := by
    intro h
    refine ⟨by omega, ?_⟩
    rw [szStr] at h ⊢
    by_cases h1 : left - (stops.length : Int) < 0
    · rw [if_pos h1]; omega
    · rw [if_neg h1] at h ⊢
      have := (szGo_ok stops (left - (stops.length : Int)) (by omega)).1
      omega
  go_enter Tryd.func49, Tryd.ntmps49
  go_wp2_with fail
  generalize w.alloc (.cells #[.bool bf, .bool bsm, .bool bp, .slice aS stops.length cS, .slice aY syns.length cY, .int .i64 lo, .int .i64 hi] 69) = wa at *
  refine (szStrs_any aS cS stops left _ (by omega) (by omega) hnS HSa.out ZS.out).mono ?_
  rintro e w' ⟨rfl, hw⟩
  obtain rfl := hw.symm
  clear hw
  have q4 : wa.cell? ⟨w.heap.size, 4, none⟩ = some (.slice aY syns.length cY) := by simp [World.cell?, Hb.out]
  by_cases c1 : szStr left stops < 0
  · have HR : Hid (szAz left stops syns = -1) := by show _ = _; rw [HD.out, if_pos c1]
    generalize szStr left stops = z at *
    go_wp2_with fail
    go_ret
    rw [HR.out]
    exact ⟨rfl, HBa.out⟩
  · have hz := HLE.out (by omega)
    generalize szStr left stops = z at *
    obtain ⟨hz0, hz1⟩ := hz
    rw [if_neg c1] at HD
    go_wp2_with fail
    refine (szSyns_any aY cY syns z _ hz0 hz1 hnY HYa.out ZY.out).mono ?_
    rintro e w2 ⟨rfl, hb2⟩
    have HB2 := hidd (HBa.out.trans (hb2.mono (by omega)))
    clear hb2
    by_cases c2 : szSyn z syns < 0
    · rw [if_pos c2] at HD
      generalize szSyn z syns = y at *
      go_wp2_with fail
      go_ret
      rw [HD.out]
      exact ⟨rfl, HB2.out⟩
    · rw [if_neg c2] at HD
      generalize szSyn z syns = y at *
      go_wp2_with fail
      go_ret
      rw [HD.out]
      exact ⟨rfl, HB2.out⟩
theorem szAzL_ge (left : Int) (hl0 : 0 ≤ left) (s : List (List UInt8)) (y : List (List UInt8 × List UInt8)) : -1 ≤ szAz left s y := by
  unfold szAz
  split
  · omega
  · split <;> omega
def szFd (left : Int) (f : Fd) : Int := if left - (f.name.length : Int) < 0 then -1 else if szAz (left - (f.name.length : Int)) f.stops f.syns < 0 then -1 else szAz (left - (f.name.length : Int)) f.stops f.syns
def szFdGo (left : Int) : List Fd → Int
  | [] => left
  | f :: t => if szFd left f < 0 then -1 else szFdGo (szFd left f) t
def szFds (left : Int) (l : List Fd) : Int := if left - (l.length : Int) < 0 then -1 else szFdGo (left - (l.length : Int)) l
theorem szFd_ge (left : Int) (f : Fd) (h : 0 ≤ left) : -1 ≤ szFd left f := by
  unfold szFd
  split
  · omega
  · rename_i h1
    have := szAzL_ge (left - (f.name.length : Int)) (by omega) f.stops f.syns
    split <;> omega
theorem szFd_ok {left : Int} {f : Fd} (h0 : 0 ≤ left) (h1 : left ≤ 1048576) (h : 0 ≤ szFd left f) : szFd left f ≤ left ∧ FdSz f := by
  unfold szFd at h ⊢
  split at h
  · omega
  · rename_i h2
    rw [if_neg h2]
    split at h
    · omega
    · rename_i h3
      rw [if_neg h3]
      obtain ⟨a1, a2, a3, a4, a5⟩ := szAzL_ok (by omega) (by omega) h
      exact ⟨by omega, by omega, a2, a3, a4, a5⟩
theorem szFdGo_ge : ∀ (l : List Fd) (left : Int), 0 ≤ left → -1 ≤ szFdGo left l
  | [], left, h => by simp only [szFdGo]; omega
  | f :: t, left, h => by
    simp only [szFdGo]
    split
    · omega
    · exact szFdGo_ge t _ (by omega)
theorem szFdGo_ok : ∀ (l : List Fd) (left : Int), 0 ≤ left → left ≤ 1048576 → 0 ≤ szFdGo left l → ∀ f ∈ l, FdSz f
  | [], left, h, h1, h2, f, hf => by simp at hf
  | g :: t, left, h, h1, h2, f, hf => by
    simp only [szFdGo] at h2
    split at h2
    · omega
    · rename_i hn
      have a := szFd_ok (f := g) h h1 (by omega)
      rcases List.mem_cons.1 hf with rfl | hf
      · exact a.2
      · exact szFdGo_ok t _ (by omega) (by omega) h2 f hf
theorem szFdGo_step (l : List Fd) (k : Nat) (left : Int) (h : k < l.length) : szFdGo left (l.drop k) = if szFd left (l.getD k fd0) < 0 then -1 else szFdGo (szFd left (l.getD k fd0)) (l.drop (k + 1)) := by
  rw [List.drop_eq_getElem_cons h, szFdGo]; simp [h]
theorem fd0_sz : FdSz fd0 := ⟨by simp [fd0], by simp [fd0], by simp [fd0], fun t ht => absurd ht (by simp [fd0]), fun t ht => absurd ht (by simp [fd0])⟩
theorem szFds_ok {l : List Fd} (h : 0 ≤ szFds 1048576 l) : l.length ≤ 1048576 ∧ ∀ i, FdSz (l.getD i fd0) := by
  unfold szFds at h
  split at h
  · omega
  · rename_i h1
    refine ⟨by omega, fun i => ?_⟩
    by_cases hi : i < l.length
    · refine szFdGo_ok l _ (by omega) (by omega) h _ ?_
      rw [List.getD_eq_getElem?_getD, List.getElem?_eq_getElem hi]
      exact List.getElem_mem hi
    · rw [List.getD_eq_getElem?_getD, List.getElem?_eq_none (by omega)]; exact fd0_sz
theorem szFds_ge (l : List Fd) : -1 ≤ szFds 1048576 l := by
  unfold szFds
  split
  · omega
  · exact szFdGo_ge l _ (by omega)
/-- Lengths as the machine bounds them. -/
def FdLen (f : Fd) : Prop := f.name.length ≤ 9223372036854775807 ∧ f.stops.length ≤ 9223372036854775807 ∧ f.syns.length ≤ 9223372036854775807 ∧ (∀ t, t < f.stops.length → (bs (f.stops.getD t [])).size ≤ 9223372036854775807) ∧ (∀ t, t < f.syns.length → (bs (f.syns.getD t ([], [])).1).size ≤ 9223372036854775807 ∧ (bs (f.syns.getD t ([], [])).2).size ≤ 9223372036854775807)
abbrev azV (f : Fd) (aS aY : Option Addr) (cS cY : Nat) : Value := .agg #[.bool f.bf, .bool f.bsm, .bool f.bp, .slice aS f.stops.length cS, .slice aY f.syns.length cY, .int .i64 f.lo, .int .i64 f.hi]
set_option maxHeartbeats 2000000 in
theorem szFieldDef_any (f : Fd) (aS aY : Option Addr) (cS cY : Nat) (left : Int) (w : World) (h0 : 0 ≤ left) (h1 : left ≤ 1048576) (hL : FdLen f) (hS : HoldS w aS f.stops) (hY : HoldY w aY f.syns) :
    Calls Tryd.prog 31 #[.agg #[.string (bs f.name), .int .i64 f.kind, .bool f.bf, .bool f.bsm, .bool f.bp, .slice aS f.stops.length cS, .slice aY f.syns.length cY, .int .i64 f.lo, .int .i64 f.hi], .int .i64 left] w fun e w' => e = .returned (.int .i64 (szFd left f)) ∧ Below w.heap.size w w' := by
  obtain ⟨hL1, hL2, hL3, hL4, hL5⟩ := hL
  have hfl := bs_size f.name
  have HSz := hidd (fun W l (h0 : 0 ≤ l) (h1 : l ≤ 1048576) (h2 : HoldS W aS f.stops) (h3 : HoldY W aY f.syns) => szAzL_any f.bf f.bsm f.bp aS aY cS cY f.stops f.syns f.lo f.hi l W h0 h1 hL2 hL3 h2 h3 hL4 hL5)
  have HS := hidd hS
  have HY := hidd hY
  have HGe := hidd (fun l h => szAzL_ge l h f.stops f.syns)
  obtain ⟨R, hR⟩ : ∃ R, szFd left f = R := ⟨_, rfl⟩
  rw [hR]
  rw [szFd] at hR
  have HR := hidd hR
  clear hR hS hY hL4 hL5
  go_enter Tryd.func31, Tryd.ntmps31
  by_cases hf : left - (f.name.length : Int) < 0
  · rw [if_pos hf] at HR
    go_wp2_with fail
    go_ret
    rw [← HR.out]
    exact ⟨rfl, (Below.refl _ _).alloc (Nat.le_refl _) _⟩
  · rw [if_neg hf] at HR
    have HBa := hidd ((Below.refl w.heap.size w).alloc (Nat.le_refl _) (.cells #[.string (bs f.name), .int .i64 f.kind, .bool f.bf, .bool f.bsm, .bool f.bp, .slice aS f.stops.length cS, .slice aY f.syns.length cY, .int .i64 f.lo, .int .i64 f.hi] 71))
    have hge := HGe.out (left - (f.name.length : Int)) (by omega)
    go_wp2_with fail
    refine (HSz.out _ _ (by omega) (by omega) (HS.out.below HBa.out) (HY.out.below HBa.out)).mono ?_
    rintro e w3 ⟨rfl, hb3⟩
    have HB3 := hidd (HBa.out.trans (hb3.mono HBa.out.size))
    clear hb3
    generalize szAz (left - (f.name.length : Int)) f.stops f.syns = Y at *
    dsimp only
    by_cases hY : Y < 0
    · rw [if_pos hY] at HR
      go_wp2_with fail
      go_ret
      rw [← HR.out]
      exact ⟨rfl, HB3.out⟩
    · rw [if_neg hY] at HR
      go_wp2_with fail
      go_ret
      rw [← HR.out]
      exact ⟨rfl, HB3.out⟩
set_option maxHeartbeats 2000000 in
theorem szFieldDefs_any (a : Option Addr) (c : Nat) (l : List Fd) (left : Int) (w : World) (h0 : 0 ≤ left) (h1 : left ≤ 1048576) (hn : l.length ≤ 9223372036854775807) (hA : ∀ i, FdLen (l.getD i fd0)) (hS : HoldF w a l) :
    Calls Tryd.prog 18 #[.slice a l.length c, .int .i64 left] w fun e w' => e = .returned (.int .i64 (szFds left l)) ∧ Below w.heap.size w w' := by
  have HS := hidd hS
  have HA := hidd hA
  clear hS hA
  by_cases h : left - (l.length : Int) < 0
  · have HE : Hid (szFds left l = -1) := by show _ = _; rw [szFds, if_pos h]
    go_enter Tryd.func18, Tryd.ntmps18
    go_wp2_with fail
    go_ret
    rw [HE.out]
    exact ⟨rfl, Below.refl _ _⟩
  · obtain ⟨R, hR⟩ : ∃ R, szFds left l = R := ⟨_, rfl⟩
    rw [hR]
    have HE : Hid (szFdGo (left - (l.length : Int)) l = R) := by show _ = _; rw [← hR, szFds, if_neg h]
    clear hR
    go_enter Tryd.func18, Tryd.ntmps18
    go_wp2_with fail
    go_loopw [1, 5] (fun lv iv wr => ∃ (k : Nat) (x : Int), k ≤ l.length ∧ iv = .int .i64 (k : Int) ∧ lv = .int .i64 x ∧ 0 ≤ x ∧ x ≤ 1048576 ∧ szFdGo x (l.drop k) = R ∧ Below w.heap.size w wr) (fun _ iv _ => l.length - (intOf iv).toNat)
    case atStart => exact ⟨0, _, Nat.zero_le _, rfl, rfl, by omega, by omega, by rw [List.drop_zero]; exact HE.out, Below.refl _ _⟩
    case round =>
      clear HE
      obtain ⟨k, x, hk, rfl, rfl, hx0, hx1, hgo, hbel⟩ := hrel
      have HG := hidd hgo
      have HB := hidd hbel
      clear hgo hbel
      by_cases hlt : k < l.length
      · have hkz : (k : Int) < (l.length : Int) := by omega
        obtain ⟨b, off, rfl, hbl, hc⟩ := (HS.out.below HB.out).resolve_left (fun h => by rw [h] at hlt; simp at hlt)
        obtain ⟨x0, x1, x2, x3, x4, ⟨aS, cS, x5, hSt⟩, ⟨aY, cY, x6, hYt⟩, x7, x8⟩ := hc k hlt
        clear hc
        rw [szFdGo_step l k x hlt] at HG
        have hal := HA.out k
        generalize l.getD k fd0 = f at *
        have hs := szFd_ge x f hx0
        have hs2 : 0 ≤ szFd x f → szFd x f ≤ x := fun h => (szFd_ok hx0 hx1 h).1
        have HV := hidd (szFieldDef_any f aS aY cS cY x wr hx0 hx1 hal hSt hYt)
        clear hSt hYt hal
        generalize szFd x f = X at *
        go_wp2_with fail
        refine HV.out.mono ?_
        rintro e w3 ⟨rfl, hb3⟩
        have HB3 := hidd (HB.out.trans (hb3.mono HB.out.size))
        clear hb3 HV x0 x1 x2 x3 x4 x5 x6 x7 x8
        dsimp only
        by_cases hX : X < 0
        · obtain rfl : X = -1 := by omega
          rw [if_pos hX] at HG
          go_wp2_with fail
          go_ret
          rw [← HG.out]
          exact ⟨rfl, HB3.out⟩
        · rw [if_neg hX] at HG
          have hX0 : 0 ≤ X := by omega
          have hX1 := hs2 hX0
          go_wp2_with fail
          go_roundw
          case rel => exact ⟨k + 1, X, by omega, by go_num, rfl, by omega, by omega, HG.out, HB3.out⟩
          case measure => simp [intOf]; omega
      · have hkz : ¬ (k : Int) < (l.length : Int) := by omega
        rw [List.drop_of_length_le (by omega), szFdGo] at HG
        go_wp2_with fail
        go_ret
        rw [← HG.out]
        exact ⟨rfl, HB.out⟩
set_option maxHeartbeats 1000000 in
theorem szSchema_any (a : Option Addr) (cap : Nat) (l : List Fd) (w : World) (hn : l.length ≤ 9223372036854775807) (hA : ∀ i, FdLen (l.getD i fd0)) (hS : HoldF w a l) :
    Calls Tryd.prog 5 #[.agg #[.slice a l.length cap], .int .i64 1048576] w fun e w' => e = .returned (.int .i64 (szFds 1048576 l)) ∧ Below w.heap.size w w' := by
  have HBa := hidd ((Below.refl w.heap.size w).alloc (Nat.le_refl _) (.cells #[.slice a l.length cap] 24))
  have HS := hidd hS
  have HC := hidd (fun W (h : HoldF W a l) => szFieldDefs_any a cap l 1048576 W (by omega) (by omega) hn hA h)
  clear hS hA
  have hge := szFds_ge l
  generalize szFds 1048576 l = R at *
  go_enter Tryd.func5, Tryd.ntmps5
  go_wp2_with fail
  refine (HC.out _ (HS.out.below HBa.out)).mono ?_
  rintro e w3 ⟨rfl, hb3⟩
  have HB3 := hidd (HBa.out.trans (hb3.mono HBa.out.size))
  clear hb3
  dsimp only
  by_cases hX : R < 0
  · obtain rfl : R = -1 := by omega
    go_wp2_with fail
    go_ret
    exact ⟨rfl, HB3.out⟩
  · go_wp2_with fail
    go_ret
    exact ⟨rfl, HB3.out⟩
end Go.Proofs.YtnekdkafhoacoaaDoor
