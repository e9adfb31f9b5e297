import Derived.Test.YtgoklapafidpkaaGreatDoorTermsJ03
import Derived.Test.YtgoklapafidpkaaGreatDoorTermsJ06
import Derived.Deep.CutBlock
import Derived.Shelf.Abstract
import Derived.Deep.RegionWith
import Derived.Test.YtgoklapafidpkaaGreatDoorProg
import Derived.Test.YtgoklapafidpkaaGreatDoorTermsJ00
import Derived.WalkLawsBesides
import Derived.WalkSpells
import Derived.Test.YtgoklapafidpkaaGreatDoorTermsJ01
import Derived.BigQuiet
import Derived.Deep.QuietTactic
namespace Go.Proofs.YtgoklapafidpkaaGreatDoor
open Go Go.RowKit
set_option linter.unusedVariables false
set_option maxRecDepth 100000

theorem txCount_any (a : Option Addr) (n c : Nat) (w : World) (hn : n ≤ 1048576) : Calls Tryz.prog 110 #[.slice a n c] w fun e w' => e = .returned (.int .i64 (n : Int)) ∧ w' = w := by
  go_enter Tryz.func110, Tryz.ntmps110
  go_wp2_with fail
  go_ret
  exact ⟨rfl, rfl⟩
theorem nuCount_any (a : Option Addr) (n c : Nat) (w : World) (hn : n ≤ 1048576) : Calls Tryz.prog 113 #[.slice a n c] w fun e w' => e = .returned (.int .i64 (n : Int)) ∧ w' = w := by
  go_enter Tryz.func113, Tryz.ntmps113
  go_wp2_with fail
  go_ret
  exact ⟨rfl, rfl⟩
set_option maxHeartbeats 2000000 in
theorem nuStor_any (a : Option Addr) (c : Nat) (l : List Int) (w : World) (hn : l.length ≤ 1048576) (h : HoldZ w a l) : Calls Tryz.prog 114 #[.slice a l.length c] w fun e w' => e = .returned (.bool (l.all nuOK)) ∧ w' = w := by
  have HH := hidd h
  clear h
  go_enter Tryz.func114, Tryz.ntmps114
  go_wp2_with fail
  go_loopw [7] (fun kv wr => ∃ k : Nat, k ≤ l.length ∧ kv = .int .i64 (k : Int) ∧ (l.take k).all nuOK = true ∧ wr = w) (fun kv _ => l.length - (intOf kv).toNat)
  case atStart => exact ⟨0, Nat.zero_le _, rfl, by simp, rfl⟩
  case round =>
    obtain ⟨k, hk, rfl, hal, hww⟩ := hrel
    have hww' := hww.symm
    subst hww'
    clear hww
    have HAl := hidd hal
    clear hal
    by_cases hkt : k < l.length
    · have hktz : (k : Int) < (l.length : Int) := by omega
      obtain ⟨bt, ot, rfl, hbt, hct⟩ := HH.out.resolve_left (fun e => by rw [e] at hkt; simp at hkt)
      have t1 := hct k hkt
      obtain ⟨z, hz⟩ : ∃ z, l.getD k 0 = z := ⟨_, rfl⟩
      rw [hz] at t1
      have Hz := hidd hz
      clear hz hct
      have HW : Hid (Calls Tryz.prog 70 #[.int .i64 z, .int .i64 (-1000000000000), .int .i64 1000000000000] w fun e w' => e = .returned (.bool (nuOK z)) ∧ w' = w) := (within_any z (-1000000000000) 1000000000000 w).mono (fun e w' h => ⟨by rw [h.1, nuOK, Bool.decide_and], h.2⟩)
      go_wp2_with fail
      refine HW.out.mono ?_
      rintro e w' ⟨rfl, hw'⟩
      have hw2 := hw'.symm
      subst hw2
      clear hw'
      dsimp only
      cases hnz : nuOK z with
      | false =>
        have HO : Hid (l.all nuOK = false) := all_not nuOK l 0 hkt (by rw [Hz.out]; exact hnz)
        clear HW
        go_wp2_with fail
        go_ret
        exact ⟨by rw [HO.out]; rfl, rfl⟩
      | true =>
        have HA2 := hidd (all_take nuOK l 0 hkt HAl.out (by rw [Hz.out]; exact hnz))
        clear HW
        go_wp2_with fail
        go_roundw
        case rel => exact ⟨k + 1, by omega, by go_num, HA2.out, by first | trivial | rfl⟩
        case measure => simp [intOf]; omega
    · have hktz : ¬ (k : Int) < (l.length : Int) := by omega
      have HAx : Hid (l.all nuOK = true) := by show _ = _; have := HAl.out; rwa [show k = l.length by omega, List.take_length] at this
      go_wp2_with fail
      go_ret
      exact ⟨by rw [HAx.out]; rfl, rfl⟩
set_option maxHeartbeats 2000000 in
theorem implId_any (s : ByteArray) (w : World) (hs : s.size ≤ 1048576) :
    Calls Tryz.prog 72 #[.string s] w fun e w' => e = .returned (.bool (idV (lst s))) ∧ w' = w := by
  go_enter Tryz.func72, Tryz.ntmps72
  have hll := lst_len s
  by_cases hin : 1 ≤ s.size ∧ s.size ≤ 30
  · have HW : Hid ((decide ((1 : Int) ≤ (s.size : Int)) && decide ((s.size : Int) ≤ 30)) = true) := by show _ = _; rw [decide_eq_true (by omega), decide_eq_true (by omega)]; rfl
    obtain ⟨h1, h30⟩ := hin
    have HI : Hid (idV (lst s) = (lst s).all idC) := by show _ = _; rw [idV, decide_eq_true (by omega), decide_eq_true (by omega)]; rfl
    go_wp2_with fail
    refine (within_any _ _ _ _).mono ?_
    rintro e w' ⟨rfl, hw⟩
    obtain rfl := hw.symm
    rw [HW.out]
    clear HW hw
    go_wp2_with fail
    go_loopw [10] (fun i wr => ∃ k : Nat, k ≤ s.size ∧ i = .int .i64 k ∧ ((lst s).take k).all idC = true ∧ wr = w) (fun i _ => s.size - (intOf i).toNat)
    case atStart => exact ⟨0, Nat.zero_le _, rfl, rfl, rfl⟩
    case round =>
      obtain ⟨k, hk, rfl, hall, hww⟩ := hrel
      have hww' := hww.symm
      subst hww'
      clear hww
      have HA := hidd hall
      clear hall
      by_cases hlt : k < s.size
      · have hkl : k < (lst s).length := by rw [lst_len]; exact hlt
        have HG := hidd (get_listN s k hlt)
        have hb8 : ((s[k]'hlt).toNat : Int) ≤ 255 := by have := UInt8.toNat_lt (s[k]'hlt); omega
        have HW1 : Hid ((decide ((33 : Int) ≤ ((s[k]'hlt).toNat : Int)) && decide (((s[k]'hlt).toNat : Int) ≤ 126)) = idC ((lst s).getD k 0)) := by show _ = _; rw [idC, HG.out]
        go_wp2_with fail
        refine (within_any _ _ _ _).mono ?_
        rintro e w' ⟨rfl, hw⟩
        obtain rfl := hw.symm
        rw [HW1.out]
        cases hc1 : idC ((lst s).getD k 0) with
        | true =>
          have HN : Hid (((lst s).take (k + 1)).all idC = true) := all_takeC _ _ hkl HA.out hc1
          clear hc1 HW1 hw
          go_wp2_with fail
          go_roundw
          case rel => exact ⟨k + 1, by omega, by go_num, HN.out, by first | trivial | rfl⟩
          case measure => simp [intOf]; omega
        | false =>
          have HR : Hid ((lst s).all idC = false) := all_notC _ _ hkl hc1
          clear hc1 HW1 hw
          go_wp2_with fail
          go_ret
          rw [HI.out, HR.out]
          exact ⟨rfl, rfl⟩
      · have HR : Hid ((lst s).all idC = true) := by
          have := HA.out
          rw [List.take_of_length_le (by rw [lst_len]; omega)] at this
          exact this
        go_wp2_with fail
        go_ret
        rw [HI.out, HR.out]
        exact ⟨rfl, rfl⟩
  · have HW : Hid ((decide ((1 : Int) ≤ (s.size : Int)) && decide ((s.size : Int) ≤ 30)) = false) := by
      show _ = _
      by_cases h1 : 1 ≤ s.size
      · rw [decide_eq_false (p := (s.size : Int) ≤ 30) (by omega), Bool.and_false]
      · rw [decide_eq_false (p := (1 : Int) ≤ (s.size : Int)) (by omega), Bool.false_and]
    have HI : Hid (idV (lst s) = false) := by
      show _ = _
      rw [idV]
      by_cases h1 : 1 ≤ s.size
      · rw [decide_eq_false (p := (lst s).length ≤ 30) (by omega)]; simp
      · rw [decide_eq_false (p := 1 ≤ (lst s).length) (by omega)]; simp
    clear hin
    go_wp2_with fail
    refine (within_any _ _ _ _).mono ?_
    rintro e w' ⟨rfl, hw⟩
    obtain rfl := hw.symm
    rw [HW.out]
    clear HW hw
    go_wp2_with fail
    go_ret
    rw [HI.out]
    exact ⟨rfl, rfl⟩
set_option maxHeartbeats 4000000 in
theorem bodySize_any (id : List UInt8) (a : Option Addr) (cap : Nat) (V : List Vl) (w : World) (hn : V.length ≤ 1048576) (hA : ∀ i, (V.getD i vl0).1.length ≤ 1048576 ∧ (V.getD i vl0).2.1.length ≤ 1048576 ∧ (V.getD i vl0).2.2.length ≤ 1048576) (hB : bodyV V ≤ 1048576) (hS : HoldV w a V) :
    Calls Tryz.prog 73 #[.agg #[.string ⟨id.toArray⟩, .slice a V.length cap]] w fun e w' => e = .returned (.int .i64 (bodyV V : Int)) ∧ Below w.heap.size w w' := by
  have HS := hidd hS
  have HA := hidd hA
  clear hS hA
  have HBa := hidd ((Below.refl w.heap.size w).alloc (Nat.le_refl _) (.cells #[.string ⟨id.toArray⟩, .slice a V.length cap] 37))
  go_enter Tryz.func73, Tryz.ntmps73
  go_wp2_with fail
  obtain ⟨wa, hwa⟩ : ∃ wa, w.alloc (.cells #[.string ⟨id.toArray⟩, .slice a V.length cap] 37) = wa := ⟨_, rfl⟩
  rw [hwa] at HBa
  try rw [hwa]
  clear hwa
  go_loopw [3, 11] (fun sv iv wr => ∃ k : Nat, k ≤ V.length ∧ iv = .int .i64 (k : Int) ∧ sv = .int .i64 (bodyV (V.take k) : Int) ∧ Below wa.heap.size wa wr) (fun _ iv _ => V.length - (intOf iv).toNat)
  case atStart => exact ⟨0, Nat.zero_le _, rfl, by simp [bodyV], Below.refl _ _⟩
  case round =>
    obtain ⟨k, hk, rfl, rfl, hbel⟩ := hrel
    have HB := hidd hbel
    clear hbel
    by_cases hlt : k < V.length
    · have hkz : (k : Int) < (V.length : Int) := by omega
      obtain ⟨b, off, rfl, hbl, hc⟩ := ((HS.out.below HBa.out).below HB.out).resolve_left (fun h => by rw [h] at hlt; simp at hlt)
      obtain ⟨x0, ⟨at_, ct, x1, hTx⟩, an, cn, x2, hZ⟩ := hc k hlt
      clear hc hZ
      have hal := HA.out k
      have HT := hidd (bodyV_take V hlt)
      have hle := bodyV_take_le V (k + 1)
      rw [HT.out] at hle
      obtain ⟨Y, hY⟩ : ∃ Y, bodyV (V.take k) = Y := ⟨_, rfl⟩
      rw [hY] at HT hle
      rw [hY]
      clear hY
      generalize V.getD k vl0 = s at *
      obtain ⟨f, tx, nz⟩ := s
      dsimp only at x0 x1 x2 hTx hal HT hle
      have HTx := hidd hTx
      clear hTx
      go_upto_region 5 with fail
      obtain ⟨wb, hwb⟩ : ∃ wb, wr.alloc (.cells #[.string ⟨f.toArray⟩, .slice at_ tx.length ct, .slice an nz.length cn] 60) = wb := ⟨_, rfl⟩
      have HBb := hidd ((Below.refl wr.heap.size wr).alloc (Nat.le_refl _) (.cells #[.string ⟨f.toArray⟩, .slice at_ tx.length ct, .slice an nz.length cn] 60))
      have HXb := hidd (heap_alloc_new wr (.cells #[.string ⟨f.toArray⟩, .slice at_ tx.length ct, .slice an nz.length cn] 60))
      rw [hwb] at HBb HXb
      try rw [hwb]
      clear hwb
      have v1 : wb.cell? ⟨wr.heap.size, 1, none⟩ = some (.slice at_ tx.length ct) := blkc HXb.out 1
      have HTb := hidd (HTx.out.below HBb.out)
      clear HTx
      go_wp2_with fail
      go_loopw [3, 18] (fun sv jv wz => ∃ j : Nat, j ≤ tx.length ∧ jv = .int .i64 (j : Int) ∧ sv = .int .i64 ((Y + txSum (tx.take j) : Nat) : Int) ∧ wz = wb) (fun _ jv _ => tx.length - (intOf jv).toNat)
      case atStart => exact ⟨0, Nat.zero_le _, rfl, by simp [txSum], rfl⟩
      case round =>
        obtain ⟨j, hj, rfl, rfl, hww⟩ := hrel
        have hww' := hww.symm
        subst hww'
        clear hww
        by_cases hjt : j < tx.length
        · have hjz : (j : Int) < (tx.length : Int) := by omega
          obtain ⟨bt, ot, rfl, hbt, hct⟩ := HTb.out.resolve_left (fun e => by rw [e] at hjt; simp at hjt)
          have t1 := hct j hjt
          clear hct
          have HT2 := hidd (txSum_take tx hjt)
          have hle2 := txSum_take_le tx (j + 1)
          rw [HT2.out] at hle2
          generalize tx.getD j [] = t at *
          generalize txSum (tx.take j) = Z at *
          have hfl : (⟨t.toArray⟩ : ByteArray).size = t.length := by rw [Lib.size_eq]
          go_wp2_with fail
          go_roundw
          case rel => exact ⟨j + 1, by omega, by go_num, by rw [HT2.out]; go_num, by first | trivial | rfl⟩
          case measure => simp [intOf]; omega
        · have hjz : ¬ (j : Int) < (tx.length : Int) := by omega
          have HE : Hid (Y + txSum (tx.take j) = bodyV (V.take (k + 1))) := by show _ = _; rw [HT.out, show j = tx.length by omega, List.take_length]
          generalize Y + txSum (tx.take j) = Z at *
          go_wp2_with fail
          go_roundw
          case rel => exact ⟨k + 1, by omega, by go_num, by rw [HE.out], HB.out.trans (HBb.out.mono HB.out.size)⟩
          case measure => simp [intOf]; omega
    · have hkz : ¬ (k : Int) < (V.length : Int) := by omega
      have HE : Hid (bodyV (V.take k) = bodyV V) := by show _ = _; rw [show k = V.length by omega, List.take_length]
      generalize bodyV (V.take k) = Z at *
      go_wp2_with fail
      go_ret
      rw [HE.out]
      exact ⟨rfl, HBa.out.trans (HB.out.mono HBa.out.size)⟩
/-- What a value holds, as an interface. -/
def ctV (at_ an : Option Addr) (n ct m cn : Nat) : Value := if m = 0 ∧ 0 < n then .iface 146 (.slice at_ n ct) else if n = 0 ∧ 0 < m then .iface 147 (.slice an m cn) else .nilIface
set_option maxHeartbeats 4000000 in
theorem content_any (f : List UInt8) (at_ an : Option Addr) (n ct m cn : Nat) (w : World) (hn : n ≤ 1048576) (hm : m ≤ 1048576) :
    Calls Tryz.prog 75 #[.agg #[.string ⟨f.toArray⟩, .slice at_ n ct, .slice an m cn]] w fun e w' => e = .returned (ctV at_ an n ct m cn) ∧ Below w.heap.size w w' := by
  have HBa := hidd ((Below.refl w.heap.size w).alloc (Nat.le_refl _) (.cells #[.string ⟨f.toArray⟩, .slice at_ n ct, .slice an m cn] 60))
  go_enter Tryz.func75, Tryz.ntmps75
  by_cases hm0 : m = 0
  · by_cases hn0 : n = 0
    · have HE : Hid (ctV at_ an n ct m cn = .nilIface) := by show _ = _; rw [ctV, if_neg (by omega), if_neg (by omega)]
      subst hm0 hn0
      go_wp2_with fail
      go_ret
      exact ⟨HE.out.symm ▸ rfl, HBa.out⟩
    · have HE : Hid (ctV at_ an n ct m cn = .iface 146 (.slice at_ n ct)) := by show _ = _; rw [ctV, if_pos (by omega)]
      subst hm0
      have hn1 : (0 : Int) < (n : Int) := by omega
      go_wp2_with fail
      go_ret
      exact ⟨HE.out.symm ▸ rfl, HBa.out⟩
  · by_cases hn0 : n = 0
    · have HE : Hid (ctV at_ an n ct m cn = .iface 147 (.slice an m cn)) := by show _ = _; rw [ctV, if_neg (by omega), if_pos (by omega)]
      subst hn0
      have hm1 : (0 : Int) < (m : Int) := by omega
      have hm2 : ¬ (m : Int) = 0 := by omega
      go_wp2_with fail
      go_ret
      exact ⟨HE.out.symm ▸ rfl, HBa.out⟩
    · have HE : Hid (ctV at_ an n ct m cn = .nilIface) := by show _ = _; rw [ctV, if_neg (by omega), if_neg (by omega)]
      have hm2 : ¬ (m : Int) = 0 := by omega
      have hn2 : ¬ (n : Int) = 0 := by omega
      go_wp2_with fail
      go_ret
      exact ⟨HE.out.symm ▸ rfl, HBa.out⟩
end Go.Proofs.YtgoklapafidpkaaGreatDoor

namespace Go.Proofs.YtgoklapafidpkaaGreatDoor
open Go Go.RowKit
set_option linter.unusedVariables false
set_option linter.unusedSimpArgs false
set_option maxRecDepth 100000

set_option maxHeartbeats 2000000 in
theorem specZero_any (f : Fd) (aS aY : Option Addr) (cS cY : Nat) (w : World) (hnS : f.stops.length ≤ 1048576) (hnY : f.syns.length ≤ 1048576) :
    Calls Tryz.prog 64 #[.agg #[.bool f.bf, .bool f.bsm, .bool f.bp, .slice aS f.stops.length cS, .slice aY f.syns.length cY, .int .i64 f.lo, .int .i64 f.hi]] w fun e w' => e = .returned (.bool (zrOK f)) ∧ Below w.heap.size w w' := by
  obtain ⟨R, hR⟩ : ∃ R, zrOK f = R := ⟨_, rfl⟩
  have HR := hidd hR
  rw [hR]
  clear hR
  rw [zrOK] at HR
  generalize f.bf = bf at *
  generalize f.bsm = bsm at *
  generalize f.bp = bp at *
  generalize f.stops.length = nS at *
  generalize f.syns.length = nY at *
  generalize f.lo = lo at *
  generalize f.hi = hi at *
  clear f
  go_enter Tryz.func64, Tryz.ntmps64
  go_wp2_with fail
  all_goals
    go_ret
    refine ⟨?_, (Below.refl _ _).alloc (Nat.le_refl _) _⟩
    rw [← HR.out]
    simp [*] <;> first | (intros; omega) | (rw [Bool.eq_iff_iff]; simp only [beq_iff_eq, decide_eq_true_eq]; done) | (rw [Bool.eq_iff_iff]; simp only [beq_iff_eq, Bool.and_eq_true, decide_eq_true_eq]; omega)
set_option maxHeartbeats 2000000 in
theorem isZero_any (f : Fd) (aS aY : Option Addr) (cS cY : Nat) (w : World) (hnS : f.stops.length ≤ 1048576) (hnY : f.syns.length ≤ 1048576) :
    Calls Tryz.prog 109 #[.agg #[.bool f.bf, .bool f.bsm, .bool f.bp, .slice aS f.stops.length cS, .slice aY f.syns.length cY, .int .i64 f.lo, .int .i64 f.hi]] w fun e w' => e = .returned (.bool (zrOK f)) ∧ Below w.heap.size w w' := by
  obtain ⟨R, hR⟩ : ∃ R, zrOK f = R := ⟨_, rfl⟩
  have HR := hidd hR
  rw [hR]
  clear hR
  rw [zrOK] at HR
  generalize f.bf = bf at *
  generalize f.bsm = bsm at *
  generalize f.bp = bp at *
  generalize f.stops.length = nS at *
  generalize f.syns.length = nY at *
  generalize f.lo = lo at *
  generalize f.hi = hi at *
  clear f
  go_enter Tryz.func109, Tryz.ntmps109
  go_wp2_with fail
  all_goals
    go_ret
    refine ⟨?_, (Below.refl _ _).alloc (Nat.le_refl _) _⟩
    rw [← HR.out]
    simp [*] <;> first | (intros; omega) | (rw [Bool.eq_iff_iff]; simp only [beq_iff_eq, decide_eq_true_eq]; done) | (rw [Bool.eq_iff_iff]; simp only [beq_iff_eq, Bool.and_eq_true, decide_eq_true_eq]; omega)
def FdAt (w : World) (b o : Nat) (f : Fd) : Prop :=
  w.cell? ⟨b, o, none⟩ = some (.string (bs f.name)) ∧ w.cell? ⟨b, o + 1, none⟩ = some (.int .i64 f.kind) ∧
  w.cell? ⟨b, o + 2, none⟩ = some (.bool f.bf) ∧ w.cell? ⟨b, o + 3, none⟩ = some (.bool f.bsm) ∧ w.cell? ⟨b, o + 4, none⟩ = some (.bool f.bp) ∧
  (∃ aS cS, w.cell? ⟨b, o + 5, none⟩ = some (.slice aS f.stops.length cS) ∧ HoldS w aS f.stops) ∧
  (∃ aY cY, w.cell? ⟨b, o + 6, none⟩ = some (.slice aY f.syns.length cY) ∧ HoldY w aY f.syns) ∧
  w.cell? ⟨b, o + 7, none⟩ = some (.int .i64 f.lo) ∧ w.cell? ⟨b, o + 8, none⟩ = some (.int .i64 f.hi)
theorem FdAt.below {w w' : World} {b o : Nat} {f : Fd} (h : FdAt w b o f) (hb : b < w.heap.size) (hw : Below w.heap.size w w') : FdAt w' b o f := by
  have k : ∀ j, w'.cell? ⟨b, j, none⟩ = w.cell? ⟨b, j, none⟩ := fun j => hw.cell (p := ⟨b, j, none⟩) hb
  obtain ⟨h0, h1, h2, h3, h4, ⟨aS, cS, h5, hS⟩, ⟨aY, cY, h6, hY⟩, h7, h8⟩ := h
  exact ⟨(k _).trans h0, (k _).trans h1, (k _).trans h2, (k _).trans h3, (k _).trans h4, ⟨aS, cS, (k _).trans h5, hS.below hw⟩, ⟨aY, cY, (k _).trans h6, hY.below hw⟩, (k _).trans h7, (k _).trans h8⟩
/-- A slice of fields, wherever it lies. -/
def HoldF (w : World) (a : Option Addr) (l : List Fd) : Prop :=
  l = [] ∨ ∃ b off, a = some ⟨b, off, none⟩ ∧ b < w.heap.size ∧ ∀ i, i < l.length → FdAt w b (off + i * 9) (l.getD i fd0)
theorem HoldF.below {w w' : World} {a : Option Addr} {l : List Fd} (h : HoldF w a l) (hb : Below w.heap.size w w') : HoldF w' a l := by
  rcases h with h | ⟨b, off, h1, h2, h3⟩
  · exact Or.inl h
  · exact Or.inr ⟨b, off, h1, Nat.lt_of_lt_of_le h2 hb.size, fun i hi => (h3 i hi).below h2 hb⟩
/-- Lengths that a law lets through. -/
def FdSz (f : Fd) : Prop := f.name.length ≤ 1048576 ∧ f.stops.length ≤ 1048576 ∧ f.syns.length ≤ 1048576 ∧ szS f.stops ∧ szY f.syns
end Go.Proofs.YtgoklapafidpkaaGreatDoor

namespace Go.Proofs.YtgoklapafidpkaaGreatDoor
open Go Go.RowKit
set_option linter.unusedVariables false
set_option maxRecDepth 100000

def fldZ (l : List Fd) (n : List UInt8) : Int := if fldIx l n < l.length then (fldIx l n : Int) else -1
theorem bs_toList (x : List UInt8) : (bs x).toList = x := by rw [Lib.toList_data]; exact lst_bs x
set_option maxHeartbeats 2000000 in
theorem fieldPred_any (f : Fd) (aS aY : Option Addr) (cS cY : Nat) (n : List UInt8) (B : Nat) (w : World) (hB : w.heap[B]? = some (.cells #[.string (bs n)] 9)) :
    Calls Tryz.prog 82 #[.agg #[.string (bs f.name), .int .i64 f.kind, .bool f.bf, .bool f.bsm, .bool f.bp, .slice aS f.stops.length cS, .slice aY f.syns.length cY, .int .i64 f.lo, .int .i64 f.hi], .pointer (some ⟨B, 0, none⟩)] w fun e w' => e = .returned (.bool (f.name == n)) ∧ Below w.heap.size w w' := by
  have HB := hidd ((Below.refl w.heap.size w).alloc (Nat.le_refl _) (.cells #[.string (bs f.name), .int .i64 f.kind, .bool f.bf, .bool f.bsm, .bool f.bp, .slice aS f.stops.length cS, .slice aY f.syns.length cY, .int .i64 f.lo, .int .i64 f.hi] 79))
  have hbl : B < w.heap.size := (Array.getElem?_eq_some_iff.1 hB).1
  have q0 : (w.alloc (.cells #[.string (bs f.name), .int .i64 f.kind, .bool f.bf, .bool f.bsm, .bool f.bp, .slice aS f.stops.length cS, .slice aY f.syns.length cY, .int .i64 f.lo, .int .i64 f.hi] 79)).cell? ⟨B, 0, none⟩ = some (.string (bs n)) := blkc (blko hB HB.out) 0
  go_enter Tryz.func82, Tryz.ntmps82
  go_wp2_with fail
  go_ret
  refine ⟨?_, HB.out⟩
  show Ending.returned (Value.bool ((bs f.name).toList == (bs n).toList)) = _
  rw [bs_toList, bs_toList]
set_option maxHeartbeats 8000000 in
theorem fieldIndex_any (a : Option Addr) (cap : Nat) (l : List Fd) (n : List UInt8) (B : Nat) (w : World) (hn : l.length ≤ 1048576) (hS : HoldF w a l) (hB : w.heap[B]? = some (.cells #[.string (bs n)] 9)) :
    Calls Tryz.prog 81 #[.slice a l.length cap, .func (.func 82) #[] #[.pointer (some ⟨B, 0, none⟩)]] w fun e w' => e = .returned (.int .i64 (fldZ l n)) ∧ Below w.heap.size w w' := by
  have HS := hidd hS
  have HBx := hidd hB
  clear hS hB
  go_enter Tryz.func81, Tryz.ntmps81
  go_wp2_with fail
  go_loopw [8] (fun i wx => ∃ k : Nat, k ≤ l.length ∧ i = .int .i64 k ∧ (∀ j, j < k → ((l.getD j fd0).name == n) = false) ∧ Below w.heap.size w wx) (fun i _ => l.length - (intOf i).toNat)
  case atStart => exact ⟨0, by omega, rfl, fun j hj => absurd hj (by omega), Below.refl _ _⟩
  case round =>
    obtain ⟨k, hk, rfl, hno, hbx⟩ := hrel
    have HN := hidd hno
    have HB := hidd hbx
    clear hno hbx
    by_cases hlt : k < l.length
    · obtain ⟨b, off, rfl, hbl, hc⟩ := (HS.out.below HB.out).resolve_left (fun h => by rw [h] at hlt; simp at hlt)
      obtain ⟨q0, q1, q2, q3, q4, ⟨aS, cS, q5, hSt⟩, ⟨aY, cY, q6, hYt⟩, q7, q8⟩ := hc k hlt
      clear hc hSt hYt
      have HBr := hidd (blko HBx.out HB.out)
      obtain ⟨f, hf⟩ : ∃ f, l.getD k fd0 = f := ⟨_, rfl⟩
      rw [hf] at q0 q1 q2 q3 q4 q5 q6 q7 q8
      have HF := hidd hf
      clear hf
      have HPk := hidd (fieldPred_any f aS aY cS cY n B wr HBr.out)
      cases hp : (f.name == n) with
      | false =>
        have HPn : Hid (∀ j, j < k + 1 → ((l.getD j fd0).name == n) = false) := fun j hj => by
          by_cases h : j < k
          · exact HN.out j h
          · have : j = k := by omega
            subst this
            rw [HF.out]; exact hp
        rw [hp] at HPk
        clear hp
        go_wp2_with (go_at_call 82; refine HPk.out.mono ?_; rintro e w2 ⟨rfl, hb2⟩)
        go_roundw
        case rel => exact ⟨k + 1, by omega, by go_num, HPn.out, HB.out.trans (hb2.mono HB.out.size)⟩
        case measure => simp [intOf]; omega
      | true =>
        have HR : Hid (fldZ l n = (k : Int)) := by
          show _ = _
          have h2 : fldIx l n = k := by
            unfold fldIx
            rw [List.findIdx_eq hlt]
            have e : ∀ j (hj : j < l.length), l.getD j fd0 = l[j] := fun j hj => by simp [hj]
            refine ⟨by rw [← e k hlt, HF.out]; exact hp, fun j hj => ?_⟩
            rw [← e j (by omega)]; exact HN.out j hj
          rw [fldZ, h2, if_pos hlt]
        rw [hp] at HPk
        clear hp
        go_wp2_with (go_at_call 82; refine HPk.out.mono ?_; rintro e w2 ⟨rfl, hb2⟩)
        go_ret
        rw [HR.out]
        exact ⟨rfl, HB.out.trans (hb2.mono HB.out.size)⟩
    · have HR : Hid (fldZ l n = -1) := by
        show _ = _
        rw [fldZ, if_neg]
        intro h
        have := HN.out (fldIx l n) (by omega)
        rw [fldIx_mem h] at this
        simp at this
      go_wp2_with fail
      go_ret
      rw [HR.out]
      exact ⟨rfl, HB.out⟩
end Go.Proofs.YtgoklapafidpkaaGreatDoor

namespace Go.Proofs.YtgoklapafidpkaaGreatDoor
open Go Go.RowKit
set_option linter.unusedVariables false

/-- The digits of a number, behind what is there. -/
def mkD : Nat → Nat → List UInt8 → List UInt8
  | 0, _, out => out
  | f + 1, k, out => if k = 0 then out else mkD f (k / 10) ((48 + UInt8.ofNat (k % 10)) :: out)
def mkText (k : Int) : ByteArray := if k ≤ 0 then ⟨#[109, 48]⟩ else ⟨(109 :: mkD k.toNat k.toNat []).toArray⟩
theorem mkD_zero (f : Nat) (out : List UInt8) : mkD f 0 out = out := by cases f <;> simp [mkD]
theorem ba_cons (b : UInt8) (l : List UInt8) : (⟨#[b]⟩ : ByteArray) ++ ⟨l.toArray⟩ = ⟨(b :: l).toArray⟩ := by
  apply ByteArray.ext
  simp
theorem digit_nat (n : Nat) : ((48 + UInt8.ofNat (n % 10)).toNat : Int) = 48 + (n : Int) % 10 := by
  have h : n % 10 < 10 := Nat.mod_lt _ (by omega)
  rw [UInt8.toNat_add, UInt8.toNat_ofNat']
  have e : (48 : UInt8).toNat = 48 := rfl
  rw [e]
  omega
set_option maxHeartbeats 1000000 in
theorem markText_any (k : Int) (w : World) (h0 : 1 ≤ k) (h1 : k ≤ 4398046511104) :
    Calls Tryz.prog 45 #[.int .i64 k] w fun e w' => e = .returned (.string (mkText k)) ∧ Below w.heap.size w w' := by
  have HT : Hid (mkText k = ⟨(109 :: mkD k.toNat k.toNat []).toArray⟩) := by show _ = _; rw [mkText, if_neg (by omega)]
  obtain ⟨K, rfl⟩ := Int.eq_ofNat_of_zero_le (by omega : 0 ≤ k)
  rw [Int.toNat_natCast] at HT
  obtain ⟨A, hA⟩ : ∃ A, A = mkD K K [] := ⟨_, rfl⟩
  rw [← hA] at HT
  have HS : Hid (mkD K K [] = A) := hA.symm
  clear hA
  go_enter Tryz.func45, Tryz.ntmps45
  go_wp2
  go_loopw [0, 3] (fun kv ov wr => ∃ (n f : Nat) (out : List UInt8), n ≤ K ∧ n ≤ f ∧ out.length + f ≤ K ∧ kv = .int .i64 (n : Int) ∧ ov = .string ⟨out.toArray⟩ ∧ mkD f n out = A ∧ Below w.heap.size w wr) (fun kv _ _ => (intOf kv).toNat)
  case atStart => exact ⟨K, K, [], Nat.le_refl _, Nat.le_refl _, by simp, rfl, rfl, HS.out, Below.refl _ _⟩
  case round =>
    obtain ⟨n, f, out, hn, hnf, hof, rfl, rfl, hd, hbel⟩ := hrel
    by_cases hp : 0 < n
    · obtain ⟨g, rfl⟩ : ∃ g, f = g + 1 := ⟨f - 1, by omega⟩
      have Hd : Hid (mkD g (n / 10) ((48 + UInt8.ofNat (n % 10)) :: out) = A) := by show _ = _; rw [mkD, if_neg (by omega)] at hd; exact hd
      clear hd
      have hcv : ∀ (wx : World), (convert 50 9 (.slice (some ⟨wr.heap.size, 0, none⟩) 1 1)).run Tryz.prog (wr.alloc (.cells #[.int .u8 (48 + (n : Int) % 10)] 5)) = .ok (.string ⟨#[48 + UInt8.ofNat (n % 10)]⟩) (wr.alloc (.cells #[.int .u8 (48 + (n : Int) % 10)] 5)) := fun wx => by
        refine run_convert_bytes_back _ 50 9 5 ⟨wr.heap.size, 0, none⟩ 1 [48 + UInt8.ofNat (n % 10)] Tryz.underlying50 Tryz.underlying5 Tryz.underlying9 fun j hj => ?_
        obtain rfl : j = 0 := by simpa using hj
        rw [add_head, World.cell?_alloc_at (hn := rfl)]
        have hd := digit_nat n
        simp only [List.getElem_cons_zero]
        rw [hd]
        simp
      have hcv1 := hcv wr
      clear hcv
      go_wp2
      go_roundw
      case rel => exact ⟨n / 10, g, (48 + UInt8.ofNat (n % 10)) :: out, by omega, by omega, by rw [List.length_cons]; omega, by go_num, by rw [ba_cons], Hd.out, hbel.alloc hbel.size _⟩
      case measure => simp [intOf]; omega
    · have HN : Hid (n = 0) := by show n = 0; omega
      have HA : Hid (A = out) := by show _ = _; rw [← hd, HN.out, mkD_zero]
      clear hd
      go_wp2
      go_ret
      rw [HT.out, HA.out, ← ba_cons]
      exact ⟨rfl, hbel⟩
end Go.Proofs.YtgoklapafidpkaaGreatDoor

namespace Go.Proofs.YtgoklapafidpkaaGreatDoor
open Go Go.RowKit
set_option linter.unusedVariables false

/-- A row of texts, as cells. -/
def sCells (l : List (List UInt8)) : List Value := l.map fun t => Value.string (bs t)
theorem sCells_len (l : List (List UInt8)) : (sCells l).length = l.length := by simp [sCells]
theorem sCells_snoc (l : List (List UInt8)) (t : List UInt8) : sCells (l ++ [t]) = sCells l ++ [.string (bs t)] := by simp [sCells]
theorem sCells_at (l : List (List UInt8)) (k : Nat) (h : k < l.length) : (sCells l)[k]? = some (.string (bs (l.getD k []))) := by
  simp [sCells, h]
theorem ownS_cells {w : World} {base e g cap : Nat} {l : List (List UInt8)} (h : w.ownsRow base e 1 (.slice (some ⟨g, 0, none⟩) l.length cap) l.length (sCells l)) :
    ∀ t, t < l.length → w.cell? ⟨g, t, none⟩ = some (.string (bs (l.getD t []))) := by
  intro t ht
  rw [h.cellAt t (by omega), sCells_at l t ht]
end Go.Proofs.YtgoklapafidpkaaGreatDoor

namespace Go.Proofs.YtgoklapafidpkaaGreatDoor
open Go Go.RowKit
set_option linter.unusedVariables false

set_option maxHeartbeats 400000 in
theorem eqStrs_same (b1 c1 b2 c2 n : Nat) (l : List (List UInt8)) (w : World) (hn : n ≤ 1048576)
    (h1 : ∀ t, t < n → w.cell? ⟨b1, t, none⟩ = some (.string (bs (l.getD t [])))) (h2 : ∀ t, t < n → w.cell? ⟨b2, t, none⟩ = some (.string (bs (l.getD t [])))) :
    Calls Tryz.prog 116 #[.slice (some ⟨b1, 0, none⟩) n c1, .slice (some ⟨b2, 0, none⟩) n c2] w fun e w' => e = .returned (.bool true) ∧ ∃ m, w' = w.drewN m := by
  have H1 := hidd h1
  have H2 := hidd h2
  clear h1 h2
  go_enter Tryz.func116, Tryz.ntmps116
  go_wp2
  go_loopw [5] (fun i wr => ∃ k : Nat, k ≤ n ∧ i = .int .i64 k ∧ ∃ m, wr = w.drewN m) (fun i _ => n - (intOf i).toNat)
  case atStart => exact ⟨0, Nat.zero_le _, rfl, 0, rfl⟩
  case round =>
    obtain ⟨k, hk, rfl, m, rfl⟩ := hrel
    by_cases hlt : k < n
    · have g1 := H1.out k hlt
      have g2 := H2.out k hlt
      generalize bs (l.getD k []) = t at g1 g2
      go_wp2
      go_quiet (fail)
      go_wp2
      go_roundw
      case rel => exact ⟨k + 1, by omega, by go_num, _, rfl⟩
      case measure => simp [intOf]; omega
    · go_wp2
      go_ret
      exact ⟨rfl, m, rfl⟩
end Go.Proofs.YtgoklapafidpkaaGreatDoor
