import Derived.Test.YtnekdkafhoacoaaDoorAzL
import Derived.WalkLawsBesides
namespace Go.Proofs.YtnekdkafhoacoaaDoor
open Go Go.RowKit
set_option linter.unusedVariables false

set_option maxHeartbeats 2000000 in
theorem szSynonym_any (f t : ByteArray) (left : Int) (w : World) (h0 : 0 ≤ left) (h1 : left ≤ 1048576) (hf : f.size ≤ 9223372036854775807) (ht : t.size ≤ 9223372036854775807) :
    Calls Tryd.prog 73 #[.agg #[.string f, .string t], .int .i64 left] w fun e w' => e = .returned (.int .i64 (if left - (f.size : Int) < 0 then -1 else if left - (f.size : Int) - (t.size : Int) < 0 then -1 else left - (f.size : Int) - (t.size : Int))) ∧ Below w.heap.size w w' := by
  by_cases c1 : left - (f.size : Int) < 0
  · rw [if_pos c1]
    go_enter Tryd.func73, Tryd.ntmps73
    go_wp2
    go_ret
    exact ⟨rfl, (Below.refl _ _).alloc (Nat.le_refl _) _⟩
  · rw [if_neg c1]
    by_cases c2 : left - (f.size : Int) - (t.size : Int) < 0
    · rw [if_pos c2]
      go_enter Tryd.func73, Tryd.ntmps73
      go_wp2
      go_ret
      exact ⟨rfl, (Below.refl _ _).alloc (Nat.le_refl _) _⟩
    · rw [if_neg c2]
      go_enter Tryd.func73, Tryd.ntmps73
      go_wp2
      go_ret
      exact ⟨rfl, (Below.refl _ _).alloc (Nat.le_refl _) _⟩

set_option maxHeartbeats 2000000 in
theorem szSyns_any (a : Option Addr) (cap : Nat) (l : List (List UInt8 × List UInt8)) (left : Int) (w : World) (h0 : 0 ≤ left) (h1 : left ≤ 1048576) (hn : l.length ≤ 9223372036854775807) (hY : HoldY w a l) (hz : ∀ t, t < l.length → (bs (l.getD t ([], [])).1).size ≤ 9223372036854775807 ∧ (bs (l.getD t ([], [])).2).size ≤ 9223372036854775807) :
    Calls Tryd.prog 64 #[.slice a l.length cap, .int .i64 left] w fun e w' => e = .returned (.int .i64 (szSyn left l)) ∧ Below w.heap.size w w' := by
  have HS := hidd hY
  have HZ := hidd hz
  clear hY hz
  by_cases hb : left - (l.length : Int) < 0
  · have HR : Hid (szSyn left l = -1) := by show _ = _; rw [szSyn, if_pos hb]
    go_enter Tryd.func64, Tryd.ntmps64
    go_wp2
    go_ret
    rw [HR.out]
    exact ⟨rfl, Below.refl _ _⟩
  · have HR : Hid (szSyn left l = syGo (left - (l.length : Int)) l) := by show _ = _; rw [szSyn, if_neg hb]
    generalize hG : syGo (left - (l.length : Int)) l = G at HR
    have HG := hidd hG
    clear hG
    go_enter Tryd.func64, Tryd.ntmps64
    go_wp2
    go_loopw [1, 5] (fun c i wr => ∃ (k : Nat) (z : Int), k ≤ l.length ∧ i = .int .i64 k ∧ c = .int .i64 z ∧ 0 ≤ z ∧ z ≤ 1048576 ∧ syGo z (l.drop k) = G ∧ Below w.heap.size w wr) (fun _ i _ => l.length - (intOf i).toNat)
    case atStart => exact ⟨0, _, by omega, rfl, rfl, by omega, by omega, HG.out, Below.refl _ _⟩
    case round =>
      obtain ⟨k, z, hk, rfl, rfl, hz0, hz1, hg, hbel⟩ := hrel
      have HGk := hidd hg
      have HB := hidd hbel
      clear hg hbel
      by_cases hlt : k < l.length
      · obtain ⟨b, off, rfl, hbl, hc⟩ := HS.out.resolve_left (fun h => by rw [h] at hlt; simp at hlt)
        have g1 := (HB.out.cell (p := ⟨b, off + k * 2, none⟩) hbl).trans (hc k hlt).1
        have g2 := (HB.out.cell (p := ⟨b, off + k * 2 + 1, none⟩) hbl).trans (hc k hlt).2
        have hsz := HZ.out k hlt
        have HSt := hidd (syGo_step l k z hlt)
        have HL1 : Hid ((l.getD k ([], [])).1.length = (bs (l.getD k ([], [])).1).size) := (bs_size _).symm
        have HL2 : Hid ((l.getD k ([], [])).2.length = (bs (l.getD k ([], [])).2).size) := (bs_size _).symm
        rw [HL1.out, HL2.out] at HSt
        clear hc HL1 HL2
        generalize bs (l.getD k ([], [])).1 = f at *
        generalize bs (l.getD k ([], [])).2 = t at *
        obtain ⟨hs1, hs2⟩ := hsz
        have HC := hidd (fun wx => szSynonym_any f t z wx hz0 hz1 hs1 hs2)
        by_cases c1 : z - (f.size : Int) < 0
        · rw [if_pos c1] at HC HSt
          have HF : Hid (G = -1) := by show _ = _; rw [← HGk.out, HSt.out]
          go_wp2_with fail
          refine (HC.out _).mono ?_
          rintro e w2 ⟨rfl, hb2⟩
          have HB2 := hidd (HB.out.trans (hb2.mono HB.out.size))
          clear hb2
          go_wp2
          go_ret
          rw [HR.out, HF.out]
          exact ⟨rfl, HB2.out⟩
        · rw [if_neg c1] at HC HSt
          by_cases c2 : z - (f.size : Int) - (t.size : Int) < 0
          · rw [if_pos c2] at HC HSt
            have HF : Hid (G = -1) := by show _ = _; rw [← HGk.out, HSt.out]
            go_wp2_with fail
            refine (HC.out _).mono ?_
            rintro e w2 ⟨rfl, hb2⟩
            have HB2 := hidd (HB.out.trans (hb2.mono HB.out.size))
            clear hb2
            go_wp2
            go_ret
            rw [HR.out, HF.out]
            exact ⟨rfl, HB2.out⟩
          · rw [if_neg c2] at HC HSt
            have HF : Hid (syGo (z - (f.size : Int) - (t.size : Int)) (l.drop (k + 1)) = G) := by show _ = _; rw [← HGk.out, HSt.out]
            go_wp2_with fail
            refine (HC.out _).mono ?_
            rintro e w2 ⟨rfl, hb2⟩
            have HB2 := hidd (HB.out.trans (hb2.mono HB.out.size))
            clear hb2
            go_wp2
            go_roundw
            case rel => exact ⟨k + 1, _, by omega, by go_num, rfl, by omega, by omega, HF.out, HB2.out⟩
            case measure => simp [intOf]; omega
      · have HF : Hid (G = z) := by show _ = _; rw [← HGk.out, List.drop_of_length_le (by omega), syGo]
        go_wp2
        go_ret
        rw [HR.out, HF.out]
        exact ⟨rfl, HB.out⟩

set_option maxHeartbeats 2000000 in
theorem szAz_any (bf bsm bp : Bool) (aS aY : Option Addr) (cS cY : Nat) (stops : List (List UInt8)) (syns : List (List UInt8 × List UInt8)) (lo hi : Int) (w : World) (hnS : stops.length ≤ 9223372036854775807) (hnY : syns.length ≤ 9223372036854775807) (hS : HoldS w aS stops) (hY : HoldY w aY syns)
    (zS : ∀ t, t < stops.length → (bs (stops.getD t [])).size ≤ 9223372036854775807) (zY : ∀ t, t < syns.length → (bs (syns.getD t ([], [])).1).size ≤ 9223372036854775807 ∧ (bs (syns.getD t ([], [])).2).size ≤ 9223372036854775807) :
    Calls Tryd.prog 49 #[.agg #[.bool bf, .bool bsm, .bool bp, .slice aS stops.length cS, .slice aY syns.length cY, .int .i64 lo, .int .i64 hi], .int .i64 1048576] w fun e w' => e = .returned (.int .i64 (szAz 1048576 stops syns)) ∧ Below w.heap.size w w' := by
  have HBa : Hid (Below w.heap.size w (w.alloc (.cells #[.bool bf, .bool bsm, .bool bp, .slice aS stops.length cS, .slice aY syns.length cY, .int .i64 lo, .int .i64 hi] 69))) := (Below.refl _ _).alloc (Nat.le_refl _) _
  have Hb : Hid ((w.alloc (.cells #[.bool bf, .bool bsm, .bool bp, .slice aS stops.length cS, .slice aY syns.length cY, .int .i64 lo, .int .i64 hi] 69)).heap[w.heap.size]? = some (.cells #[.bool bf, .bool bsm, .bool bp, .slice aS stops.length cS, .slice aY syns.length cY, .int .i64 lo, .int .i64 hi] 69)) := heap_alloc_new _ _
  have hlt : w.heap.size < (w.alloc (.cells #[.bool bf, .bool bsm, .bool bp, .slice aS stops.length cS, .slice aY syns.length cY, .int .i64 lo, .int .i64 hi] 69)).heap.size := by simp
  have HSa := hidd (hS.below HBa.out)
  have HYa := hidd (hY.below HBa.out)
  have ZS := hidd zS
  have ZY := hidd zY
  clear hS hY zS zY
  have HD : Hid (szAz 1048576 stops syns = if szStr 1048576 stops < 0 then -1 else if szSyn (szStr 1048576 stops) syns < 0 then -1 else szSyn (szStr 1048576 stops) syns) := rfl
  have HLE : Hid (¬ szStr 1048576 stops < 0 → 0 ≤ szStr 1048576 stops ∧ szStr 1048576 stops ≤ 1048576) := by
    intro h
    refine ⟨by omega, ?_⟩
    rw [szStr] at h ⊢
    by_cases h1 : (1048576 : Int) - (stops.length : Int) < 0
    · rw [if_pos h1]; omega
    · rw [if_neg h1] at h ⊢
      have := (szGo_ok stops (1048576 - (stops.length : Int)) (by omega)).1
      omega
  go_enter Tryd.func49, Tryd.ntmps49
  go_wp2_with fail
  generalize w.alloc (.cells #[.bool bf, .bool bsm, .bool bp, .slice aS stops.length cS, .slice aY syns.length cY, .int .i64 lo, .int .i64 hi] 69) = wa at *
  refine (szStrs_any aS cS stops 1048576 _ (by omega) (by omega) hnS HSa.out ZS.out).mono ?_
  rintro e w' ⟨rfl, hw⟩
  obtain rfl := hw.symm
  clear hw
  have q4 : wa.cell? ⟨w.heap.size, 4, none⟩ = some (.slice aY syns.length cY) := by simp [World.cell?, Hb.out]
  by_cases c1 : szStr 1048576 stops < 0
  · have HR : Hid (szAz 1048576 stops syns = -1) := by show _ = _; rw [HD.out, if_pos c1]
    generalize szStr 1048576 stops = z at *
    go_wp2_with fail
    go_ret
    rw [HR.out]
    exact ⟨rfl, HBa.out⟩
  · have hz := HLE.out (by omega)
    generalize szStr 1048576 stops = z at *
    obtain ⟨hz0, hz1⟩ := hz
    rw [if_neg c1] at HD
    go_wp2_with fail
    refine (szSyns_any aY cY syns z _ hz0 hz1 hnY HYa.out ZY.out).mono ?_
    rintro e w2 ⟨rfl, hb2⟩
    have HB2 := hidd (HBa.out.trans (hb2.mono (by omega)))
    clear hb2
    by_cases c2 : szSyn z syns < 0
    · rw [if_pos c2] at HD
      generalize szSyn z syns = y at *
      go_wp2_with fail
      go_ret
      rw [HD.out]
      exact ⟨rfl, HB2.out⟩
    · rw [if_neg c2] at HD
      generalize szSyn z syns = y at *
      go_wp2_with fail
      go_ret
      rw [HD.out]
      exact ⟨rfl, HB2.out⟩
end Go.Proofs.YtnekdkafhoacoaaDoor
