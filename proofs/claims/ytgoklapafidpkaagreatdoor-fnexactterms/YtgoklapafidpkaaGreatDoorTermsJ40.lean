import Derived.Test.YtgoklapafidpkaaGreatDoorTermsJ39
import Derived.Test.YtgoklapafidpkaaGreatDoorTermsJ27
namespace Go.Proofs.YtgoklapafidpkaaGreatDoor
open Go Go.RowKit
set_option linter.unusedVariables false
set_option maxRecDepth 100000

def shT (t : List UInt8) : Bool := decide (t.length ≤ 4000)
theorem txFit_word {f : Fd} {t : List UInt8} (h2 : f.kind = 2) : txFit f t = (decide (1 ≤ t.length) && decide (t.length ≤ 64) && validB (bs t)) := by
  rw [txFit, if_pos h2]; rfl
set_option maxHeartbeats 16000000 in
theorem specTexts_any (f : Fd) (aS aY : Option Addr) (cS cY : Nat) (fn : List UInt8) (at_ an : Option Addr) (ct cn : Nat) (tx : List (List UInt8)) (nz : List Int) (w : World) (hkd : f.kind = 1 ∨ f.kind = 2) (hz : FdSz f) (hS : HoldS w aS f.stops) (hY : HoldY w aY f.syns) (hxl : tx.length ≤ 1048576) (hnl : nz.length ≤ 1048576) (hsz : ∀ k, k < tx.length → (tx.getD k []).length ≤ 1048576) (hT : HoldTx w at_ tx) :
    Calls Tryz.prog 67 #[.agg #[.string (bs f.name), .int .i64 f.kind, .bool f.bf, .bool f.bsm, .bool f.bp, .slice aS f.stops.length cS, .slice aY f.syns.length cY, .int .i64 f.lo, .int .i64 f.hi], .agg #[.string ⟨fn.toArray⟩, .slice at_ tx.length ct, .slice an nz.length cn]] w fun e w' => e = .returned (.bool (txsFit f (fn, tx, nz) && tx.all shT)) ∧ Below w.heap.size w w' := by
  have HT := hidd hT
  have HZs := hidd hsz
  clear hT hsz
  have HBa := hidd (((Below.refl w.heap.size w).alloc (Nat.le_refl _) (.cells #[.string (bs f.name), .int .i64 f.kind, .bool f.bf, .bool f.bsm, .bool f.bp, .slice aS f.stops.length cS, .slice aY f.syns.length cY, .int .i64 f.lo, .int .i64 f.hi] 79)).alloc (by simp) (.cells #[.string ⟨fn.toArray⟩, .slice at_ tx.length ct, .slice an nz.length cn] 60))
  have HX := hidd (box_two w (.cells #[.string (bs f.name), .int .i64 f.kind, .bool f.bf, .bool f.bsm, .bool f.bp, .slice aS f.stops.length cS, .slice aY f.syns.length cY, .int .i64 f.lo, .int .i64 f.hi] 79) (.cells #[.string ⟨fn.toArray⟩, .slice at_ tx.length ct, .slice an nz.length cn] 60))
  have HCa : Hid (∀ t W, Below w.heap.size w W → t.length ≤ 4000 → Calls Tryz.prog 79 #[.agg #[.bool f.bf, .bool f.bsm, .bool f.bp, .slice aS f.stops.length cS, .slice aY f.syns.length cY, .int .i64 f.lo, .int .i64 f.hi], .string (bs t)] W fun e w' => ∃ v, e = .returned (.tuple #[v, .int .i64 (anC f t)]) ∧ Below W.heap.size W w') := fun t W hW ht => (specAnalyze_any f.bf f.bsm f.bp aS aY cS cY f.stops f.syns f.lo f.hi (bs t) W (hS.below hW) (hY.below hW) hz.2.2.2.1 hz.2.2.2.2 hz.2.1 hz.2.2.1 (by rw [bs_size]; omega) _ _ (hidd (show _ = ((anOf f.bf f.bsm f.bp f.stops f.syns f.lo f.hi (bs t)).1, (anOf f.bf f.bsm f.bp f.stops f.syns f.lo f.hi (bs t)).2) from rfl))).mono fun e w' h => by obtain ⟨v, h1, _, h3⟩ := h; exact ⟨v, h1, h3⟩
  have HCd : Hid (∀ t W, t.length ≤ 4000 → Calls Tryz.prog 103 #[.string (bs t)] W fun e w' => ∃ v, e = .returned (.tuple #[v, .bool (validB (bs t))]) ∧ Below W.heap.size W w') := fun t W ht => (decode_any (bs t) W (by rw [bs_size]; omega)).mono fun e w' h => by obtain ⟨v, h1, _, h3⟩ := h; exact ⟨v, h1, h3⟩
  clear hS hY hz
  obtain ⟨R, hR⟩ : ∃ R, (txsFit f (fn, tx, nz) && tx.all shT) = R := ⟨_, rfl⟩
  rw [hR]
  rw [txsFit] at hR
  dsimp only at hR
  have HR := hidd hR
  clear hR
  go_enter Tryz.func67, Tryz.ntmps67
  by_cases h1 : 0 < nz.length
  · have z1 : (0 : Int) < (nz.length : Int) := by omega
    rw [decide_eq_false (p := nz.length = 0) (by omega)] at HR
    go_wp2_with fail
    go_ret
    rw [← HR.out]
    exact ⟨by simp, HBa.out⟩
  have z1 : ¬ (0 : Int) < (nz.length : Int) := by omega
  rw [decide_eq_true (p := nz.length = 0) (by omega)] at HR
  by_cases h2 : tx.length < 1
  · have z2 : (tx.length : Int) < 1 := by omega
    rw [decide_eq_false (p := 1 ≤ tx.length) (by omega)] at HR
    go_wp2_with fail
    go_ret
    rw [← HR.out]
    exact ⟨by simp, HBa.out⟩
  have z2 : ¬ (tx.length : Int) < 1 := by omega
  rw [decide_eq_true (p := 1 ≤ tx.length) (by omega)] at HR
  by_cases h3 : 16 < tx.length
  · have z3 : (16 : Int) < (tx.length : Int) := by omega
    rw [decide_eq_false (p := tx.length ≤ 16) (by omega)] at HR
    go_wp2_with fail
    go_ret
    rw [← HR.out]
    exact ⟨by simp, HBa.out⟩
  have z3 : ¬ (16 : Int) < (tx.length : Int) := by omega
  rw [decide_eq_true (p := tx.length ≤ 16) (by omega)] at HR
  simp only [Bool.true_and] at HR
  go_wp2_with fail
  obtain ⟨wa, hwa⟩ : ∃ wa, (w.alloc (.cells #[.string (bs f.name), .int .i64 f.kind, .bool f.bf, .bool f.bsm, .bool f.bp, .slice aS f.stops.length cS, .slice aY f.syns.length cY, .int .i64 f.lo, .int .i64 f.hi] 79)).alloc (.cells #[.string ⟨fn.toArray⟩, .slice at_ tx.length ct, .slice an nz.length cn] 60) = wa := ⟨_, rfl⟩
  rw [hwa] at HBa HX
  try rw [hwa]
  clear hwa
  go_loopw [5] (fun i wr => ∃ k : Nat, k ≤ tx.length ∧ i = .int .i64 k ∧ (tx.take k).all (txFit f) = true ∧ (tx.take k).all shT = true ∧ Below wa.heap.size wa wr) (fun i _ => tx.length - (intOf i).toNat)
  case atStart => exact ⟨0, Nat.zero_le _, rfl, rfl, rfl, Below.refl _ _⟩
  case round =>
    obtain ⟨k, hk, rfl, hall, hsh, hbel⟩ := hrel
    have HA := hidd hall
    have HSh := hidd hsh
    have HB := hidd hbel
    have HX1 := hidd (blko HX.out.1 hbel)
    have HX2 := hidd (blko HX.out.2 hbel)
    clear hall hsh hbel
    have x1 : wr.cell? ⟨w.heap.size + 1, 1, none⟩ = some (.slice at_ tx.length ct) := blkc HX2.out 1
    by_cases hlt : k < tx.length
    · have hkz : (k : Int) < (tx.length : Int) := by omega
      obtain ⟨b, off, rfl, hbl, hc⟩ := ((HT.out.below HBa.out).below HB.out).resolve_left (fun h => by rw [h] at hlt; simp at hlt)
      have q0 : wr.cell? ⟨b, off + k, none⟩ = some (.string (bs (tx.getD k []))) := hc k hlt
      have hszk := HZs.out k hlt
      clear hc
      have HNo : Hid (txFit f (tx.getD k []) = false ∨ shT (tx.getD k []) = false → R = false) := fun h => by
        rw [← HR.out]
        rcases h with h | h
        · rw [all_not (txFit f) tx [] hlt h, Bool.false_and]
        · rw [all_not shT tx [] hlt h, Bool.and_false]
      have HYes : Hid (txFit f (tx.getD k []) = true → shT (tx.getD k []) = true → (tx.take (k + 1)).all (txFit f) = true ∧ (tx.take (k + 1)).all shT = true) := fun h h' => ⟨all_take (txFit f) tx [] hlt HA.out h, all_take shT tx [] hlt HSh.out h'⟩
      generalize tx.getD k [] = t at *
      have hfl : (bs t).size = t.length := bs_size t
      by_cases hlong : 4000 < t.length
      · have zl : (4000 : Int) < (t.length : Int) := by omega
        have HE : Hid (R = false) := HNo.out (Or.inr (by rw [shT]; exact decide_eq_false (by omega)))
        go_wp2_with fail
        go_ret
        rw [HE.out]
        exact ⟨rfl, HBa.out.trans (HB.out.mono HBa.out.size)⟩
      · have zl : ¬ (4000 : Int) < (t.length : Int) := by omega
        have hshT : shT t = true := by rw [shT]; exact decide_eq_true (by omega)
        go_wp2_with fail
        refine (HCd.out t _ (by omega)).mono ?_
        rintro e w2 ⟨v2, rfl, hb2⟩
        have HB2 := hidd (HB.out.trans (hb2.mono HB.out.size))
        have HX12 := hidd (blko HX1.out hb2)
        clear hb2 q0 x1
        have y1 : w2.cell? ⟨w.heap.size, 1, none⟩ = some (.int .i64 f.kind) := blkc HX12.out 1
        dsimp only
        cases hv : validB (bs t) with
        | false =>
          have HE : Hid (R = false) := HNo.out (Or.inl (by
            cases ht : txFit f t with
            | false => rfl
            | true => rw [txFit_valid ht] at hv; cases hv))
          clear hv
          go_wp2_with fail
          go_ret
          rw [HE.out]
          exact ⟨rfl, HBa.out.trans (HB2.out.mono HBa.out.size)⟩
        | true =>
          rcases hkd with hk1 | hk2
          · have hn2 : ¬ f.kind = 2 := by omega
            have y2 : w2.cell? ⟨w.heap.size, 2, none⟩ = some (.bool f.bf) := blkc HX12.out 2
            have y3 : w2.cell? ⟨w.heap.size, 3, none⟩ = some (.bool f.bsm) := blkc HX12.out 3
            have y4 : w2.cell? ⟨w.heap.size, 4, none⟩ = some (.bool f.bp) := blkc HX12.out 4
            have y5 : w2.cell? ⟨w.heap.size, 5, none⟩ = some (.slice aS f.stops.length cS) := blkc HX12.out 5
            have y6 : w2.cell? ⟨w.heap.size, 6, none⟩ = some (.slice aY f.syns.length cY) := blkc HX12.out 6
            have y7 : w2.cell? ⟨w.heap.size, 7, none⟩ = some (.int .i64 f.lo) := blkc HX12.out 7
            have y8 : w2.cell? ⟨w.heap.size, 8, none⟩ = some (.int .i64 f.hi) := blkc HX12.out 8
            have HTF : Hid (txFit f t = decide (anC f t = 0)) := by show _ = _; rw [txFit, if_neg hn2]
            have HCat := hidd (HCa.out t w2 (HBa.out.trans (HB2.out.mono HBa.out.size)) (by omega))
            generalize anC f t = C at *
            clear hv
            go_wp2_with fail
            refine HCat.out.mono ?_
            rintro e w3 ⟨v3, rfl, hb3⟩
            have HB3 := hidd (HB2.out.trans (hb3.mono HB2.out.size))
            clear hb3
            dsimp only
            by_cases hC : C = 0
            · obtain ⟨hy1, hy2⟩ := HYes.out (by rw [HTF.out]; exact decide_eq_true hC) hshT
              have HY1 := hidd hy1
              have HY2 := hidd hy2
              clear hy1 hy2
              subst hC
              go_wp2_with fail
              go_roundw
              case rel => exact ⟨k + 1, by omega, by go_num, HY1.out, HY2.out, HB3.out⟩
              case measure => simp [intOf]; omega
            · have HE : Hid (R = false) := HNo.out (Or.inl (by rw [HTF.out]; exact decide_eq_false hC))
              go_wp2_with fail
              go_ret
              rw [HE.out]
              exact ⟨rfl, HBa.out.trans (HB3.out.mono HBa.out.size)⟩
          · have HTF := hidd (txFit_word (t := t) hk2)
            rw [hv] at HTF
            clear hv
            by_cases hl1 : t.length < 1
            · have zl1 : (t.length : Int) < 1 := by omega
              have HE : Hid (R = false) := HNo.out (Or.inl (by rw [HTF.out, decide_eq_false (p := 1 ≤ t.length) (by omega)]; rfl))
              go_wp2_with fail
              go_ret
              rw [HE.out]
              exact ⟨rfl, HBa.out.trans (HB2.out.mono HBa.out.size)⟩
            have zl1 : ¬ (t.length : Int) < 1 := by omega
            by_cases hl2 : 64 < t.length
            · have zl2 : (64 : Int) < (t.length : Int) := by omega
              have HE : Hid (R = false) := HNo.out (Or.inl (by rw [HTF.out, decide_eq_false (p := t.length ≤ 64) (by omega)]; simp))
              go_wp2_with fail
              go_ret
              rw [HE.out]
              exact ⟨rfl, HBa.out.trans (HB2.out.mono HBa.out.size)⟩
            have zl2 : ¬ (64 : Int) < (t.length : Int) := by omega
            obtain ⟨hy1, hy2⟩ := HYes.out (by rw [HTF.out, decide_eq_true (p := 1 ≤ t.length) (by omega), decide_eq_true (p := t.length ≤ 64) (by omega)]; rfl) hshT
            have HY1 := hidd hy1
            have HY2 := hidd hy2
            clear hy1 hy2
            go_wp2_with fail
            go_roundw
            case rel => exact ⟨k + 1, by omega, by go_num, HY1.out, HY2.out, HB2.out⟩
            case measure => simp [intOf]; omega
    · have hkz : ¬ (k : Int) < (tx.length : Int) := by omega
      have HE : Hid (R = true) := by
        show _ = _
        have e1 := HA.out
        have e2 := HSh.out
        rw [show k = tx.length by omega, List.take_length] at e1 e2
        rw [← HR.out, e1, e2]; rfl
      go_wp2_with fail
      go_ret
      rw [HE.out]
      exact ⟨rfl, HBa.out.trans (HB.out.mono HBa.out.size)⟩
end Go.Proofs.YtgoklapafidpkaaGreatDoor
