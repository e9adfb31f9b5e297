import Derived.Test.YtionicjnoogpjaaGreatDoorAnalyzJ15
import Derived.Test.YtionicjnoogpjaaGreatDoorAnalyzJ22
import Derived.Deep.QuietTactic
import Derived.BigQuiet
import Derived.Deep.RegionHeld3
namespace Go.Proofs.YtionicjnoogpjaaGreatDoor
open Go Go.RowKit
set_option linter.unusedVariables false

theorem azOK_no (stops : List (List UInt8)) (syns : List (List UInt8 × List UInt8)) (lo hi : Int) (h : 64 < stops.length ∨ 64 < syns.length ∨ tsOK stops = false ∨ ysOK syns = false) : azOK stops syns lo hi = false := by
  unfold azOK
  rcases h with h | h | h | h
  · rw [decide_eq_false (p := stops.length ≤ 64) (by omega)]; simp
  · rw [decide_eq_false (p := syns.length ≤ 64) (by omega)]; simp
  · rw [h]; simp
  · rw [h]; simp
theorem azOK_yes (stops : List (List UInt8)) (syns : List (List UInt8 × List UInt8)) (lo hi : Int) (h1 : stops.length ≤ 64) (h2 : syns.length ≤ 64) (h3 : tsOK stops = true) (h4 : ysOK syns = true) : azOK stops syns lo hi = rOK lo hi := by
  unfold azOK
  rw [decide_eq_true h1, decide_eq_true h2, h3, h4]; simp
theorem beq_bytes (a b : List UInt8) : ((bs a).toList == (bs b).toList) = (a == b) := by
  rw [Lib.toList_data, Lib.toList_data, show (bs a).data.toList = a from lst_bs a, show (bs b).data.toList = b from lst_bs b]
theorem cell_at {w : World} {b : Nat} {cs : Array Value} {t : TypeId} (h : w.heap[b]? = some (.cells cs t)) (k : Nat) : w.cell? ⟨b, k, none⟩ = cs[k]? := by
  simp [World.cell?, h]
set_option maxHeartbeats 4000000 in
set_option maxRecDepth 100000 in
theorem implAzOK_any (bf bsm bp : Bool) (aS aY : Option Addr) (cS cY : Nat) (stops : List (List UInt8)) (syns : List (List UInt8 × List UInt8)) (lo hi : Int) (w : World) (hT : Tabs w) (hS : HoldS w aS stops) (hY : HoldY w aY syns) (zS : szS stops) (zY : szY syns) (hnS : stops.length ≤ 1048576) (hnY : syns.length ≤ 1048576) :
    Calls Tryz.prog 8 #[.agg #[.bool bf, .bool bsm, .bool bp, .slice aS stops.length cS, .slice aY syns.length cY, .int .i64 lo, .int .i64 hi]] w fun e w' => e = .returned (.bool (azOK stops syns lo hi)) ∧ Below w.heap.size w w' := by
  have HT := hidd hT
  have HS := hidd hS
  have HY := hidd hY
  have ZS := hidd zS
  have ZY := hidd zY
  clear hT hS hY zS zY
  by_cases hbS : 64 < stops.length
  · have hz : (64 : Int) < (stops.length : Int) := by omega
    have HR := hidd (azOK_no stops syns lo hi (Or.inl hbS))
    go_enter Tryz.func8, Tryz.ntmps8
    go_wp2_with fail
    go_ret
    rw [HR.out]
    exact ⟨rfl, (Below.refl _ _).alloc (Nat.le_refl _) _⟩
  have hbSb : decide ((64 : Int) < (stops.length : Int)) = false := decide_eq_false (by omega)
  by_cases hbY : 64 < syns.length
  · have hz : (64 : Int) < (syns.length : Int) := by omega
    have HR := hidd (azOK_no stops syns lo hi (Or.inr (Or.inl hbY)))
    go_enter Tryz.func8, Tryz.ntmps8
    go_wp2_with fail
    go_ret
    rw [HR.out]
    exact ⟨rfl, (Below.refl _ _).alloc (Nat.le_refl _) _⟩
  have hbYb : decide ((64 : Int) < (syns.length : Int)) = false := decide_eq_false (by omega)
  go_enter Tryz.func8, Tryz.ntmps8
  go_wp2_with fail
  have HBa : Hid (Below w.heap.size w (w.alloc (.cells #[.bool bf, .bool bsm, .bool bp, .slice aS stops.length cS, .slice aY syns.length cY, .int .i64 lo, .int .i64 hi] 26))) := (Below.refl _ _).alloc (Nat.le_refl _) _
  have hblk : (w.alloc (.cells #[.bool bf, .bool bsm, .bool bp, .slice aS stops.length cS, .slice aY syns.length cY, .int .i64 lo, .int .i64 hi] 26)).heap[w.heap.size]? = some (.cells #[.bool bf, .bool bsm, .bool bp, .slice aS stops.length cS, .slice aY syns.length cY, .int .i64 lo, .int .i64 hi] 26) := heap_alloc_new _ _
  have hBlt : w.heap.size < (w.alloc (.cells #[.bool bf, .bool bsm, .bool bp, .slice aS stops.length cS, .slice aY syns.length cY, .int .i64 lo, .int .i64 hi] 26)).heap.size := by simp
  have HSa := hidd (HS.out.below HBa.out)
  have HYa := hidd (HY.out.below HBa.out)
  have HTa := hidd (HT.out.below HBa.out)
  generalize w.alloc (.cells #[.bool bf, .bool bsm, .bool bp, .slice aS stops.length cS, .slice aY syns.length cY, .int .i64 lo, .int .i64 hi] 26) = wa at *
  generalize hB : w.heap.size = B at *
  have Hblk := hidd hblk
  clear hblk HS HY HT
  go_loopw [20] (fun i wr => ∃ k : Nat, k ≤ stops.length ∧ i = .int .i64 k ∧ tsOK (stops.take k) = true ∧ Below wa.heap.size wa wr) (fun i _ => stops.length - (intOf i).toNat)
  case atStart => exact ⟨0, by omega, rfl, rfl, Below.refl _ _⟩
  case round =>
    obtain ⟨k, hk, rfl, hall, hbr⟩ := hrel
    have HK := hidd hall
    have HBr := hidd hbr
    clear hall hbr
    by_cases hlt : k < stops.length
    · have hform : ∃ b off, aS = some ⟨b, off, none⟩ ∧ b < wa.heap.size ∧ ∀ t, t < stops.length → wa.cell? ⟨b, off + t, none⟩ = some (.string (bs (stops.getD t []))) := HSa.out.resolve_left (fun h => by rw [h] at hlt; simp at hlt)
      obtain ⟨b, off, rfl, hb, hc⟩ := hform
      have g1 := (HBr.out.cell (p := ⟨b, off + k, none⟩) hb).trans (hc k hlt)
      have hsz := ZS.out k hlt
      have HN1 := hidd (tsOK_snoc stops k hlt)
      have HN2 : Hid (tOK (stops.getD k []) = false → tsOK stops = false) := tsOK_no hlt
      clear hc
      generalize stops.getD k [] = t at *
      go_wp2_with fail
      refine (implTermOK_any t _ hsz (HTa.out.below HBr.out)).mono ?_
      rintro e w2 ⟨rfl, hb2⟩
      have HB2 := hidd (HBr.out.trans (hb2.mono HBr.out.size))
      clear hb2 g1
      cases ht : tOK t
      · have HR := hidd (azOK_no stops syns lo hi (Or.inr (Or.inr (Or.inl (HN2.out ht)))))
        clear ht
        go_wp2_with fail
        go_ret
        rw [HR.out, hB]
        exact ⟨rfl, HBa.out.trans (HB2.out.mono (by omega))⟩
      · have HN3 : Hid (tsOK (stops.take (k + 1)) = true) := by show _ = _; rw [HN1.out, HK.out, ht]; rfl
        clear ht
        go_wp2_with fail
        go_roundw
        case rel => exact ⟨k + 1, by omega, by go_num, HN3.out, HB2.out⟩
        case measure => simp [intOf]; omega
    · have HKf : Hid (tsOK stops = true) := by have h := HK.out; rw [all_full stops k hlt] at h; exact h
      have Hblk2 : Hid (wr.heap[B]? = _) := (HBr.out.block B hBlt).trans Hblk.out
      have q4 : wr.cell? ⟨B, 4, none⟩ = some (.slice aY syns.length cY) := cell_at Hblk2.out 4
      go_wp2_with fail
      clear HK q4
      go_loopw [31] (fun i wx => ∃ k : Nat, k ≤ syns.length ∧ i = .int .i64 k ∧ ysOK (syns.take k) = true ∧ Below wa.heap.size wa wx) (fun i _ => syns.length - (intOf i).toNat)
      case atStart => exact ⟨0, by omega, rfl, rfl, HBr.out⟩
      case round =>
        clear HBr Hblk2
        obtain ⟨k2, hk2, rfl, hall, hbr⟩ := hrel
        have HK := hidd hall
        have HBr := hidd hbr
        clear hall hbr
        by_cases hlt2 : k2 < syns.length
        · have hform : ∃ b off, aY = some ⟨b, off, none⟩ ∧ b < wa.heap.size ∧ ∀ t, t < syns.length → wa.cell? ⟨b, off + t * 2, none⟩ = some (.string (bs (syns.getD t ([], [])).1)) ∧ wa.cell? ⟨b, off + t * 2 + 1, none⟩ = some (.string (bs (syns.getD t ([], [])).2)) := HYa.out.resolve_left (fun h => by rw [h] at hlt2; simp at hlt2)
          obtain ⟨b, off, rfl, hb, hc⟩ := hform
          have g1 := (HBr.out.cell (p := ⟨b, off + k2 * 2, none⟩) hb).trans (hc k2 hlt2).1
          have g2 := (HBr.out.cell (p := ⟨b, off + k2 * 2 + 1, none⟩) hb).trans (hc k2 hlt2).2
          have hsz := ZY.out k2 hlt2
          have HN1 := hidd (ysOK_snoc syns k2 hlt2)
          have HN2 : Hid (yOK (syns.getD k2 ([], [])) = false → ysOK syns = false) := ysOK_no hlt2
          clear hc
          have HYE : Hid (yOK (syns.getD k2 ([], [])) = (tOK (syns.getD k2 ([], [])).1 && tOK (syns.getD k2 ([], [])).2 && !((syns.getD k2 ([], [])).1 == (syns.getD k2 ([], [])).2))) := rfl
          generalize yOK (syns.getD k2 ([], [])) = Y at *
          generalize (syns.getD k2 ([], [])).1 = F at *
          generalize (syns.getD k2 ([], [])).2 = T at *
          have HEQ := hidd (beq_bytes F T)
          obtain ⟨hs1, hs2⟩ := hsz
          go_wp2_with fail
          have HB3 : Hid (Below wa.heap.size wa (wr.alloc (.cells #[.string (bs F), .string (bs T)] 80))) := HBr.out.alloc HBr.out.size _
          have Hbk : Hid ((wr.alloc (.cells #[.string (bs F), .string (bs T)] 80)).heap[wr.heap.size]? = some (.cells #[.string (bs F), .string (bs T)] 80)) := heap_alloc_new _ _
          have hl3 : wr.heap.size < (wr.alloc (.cells #[.string (bs F), .string (bs T)] 80)).heap.size := by simp
          generalize wr.alloc (.cells #[.string (bs F), .string (bs T)] 80) = w3 at *
          generalize wr.heap.size = X at *
          clear g1 g2 HBr
          refine (implTermOK_any F _ hs1 (HTa.out.below HB3.out)).mono ?_
          rintro e w4 ⟨rfl, hb4⟩
          have HB4 := hidd (HB3.out.trans (hb4.mono HB3.out.size))
          have Hbk4 : Hid (w4.heap[X]? = _) := (hb4.block X hl3).trans Hbk.out
          have hl4 : X < w4.heap.size := Nat.lt_of_lt_of_le hl3 hb4.size
          have q0 : w4.cell? ⟨X, 0, none⟩ = some (.string (bs F)) := cell_at Hbk4.out 0
          have q1 : w4.cell? ⟨X, 1, none⟩ = some (.string (bs T)) := cell_at Hbk4.out 1
          clear hb4 HB3 Hbk hl3
          cases h1 : tOK F
          · have HR := hidd (azOK_no stops syns lo hi (Or.inr (Or.inr (Or.inr (HN2.out (by rw [HYE.out, h1]; rfl))))))
            clear h1
            go_wp2_with fail
            go_ret
            rw [HR.out, hB]
            exact ⟨rfl, HBa.out.trans (HB4.out.mono (by omega))⟩
          · go_wp2_with fail
            refine (implTermOK_any T _ hs2 (HTa.out.below HB4.out)).mono ?_
            rintro e w5 ⟨rfl, hb5⟩
            have HB5 := hidd (HB4.out.trans (hb5.mono HB4.out.size))
            have Hbk5 : Hid (w5.heap[X]? = _) := (hb5.block X hl4).trans Hbk4.out
            have r0 : w5.cell? ⟨X, 0, none⟩ = some (.string (bs F)) := cell_at Hbk5.out 0
            have r1 : w5.cell? ⟨X, 1, none⟩ = some (.string (bs T)) := cell_at Hbk5.out 1
            clear hb5 q0 q1 HB4 Hbk4 hl4
            cases h2 : tOK T
            · have HR := hidd (azOK_no stops syns lo hi (Or.inr (Or.inr (Or.inr (HN2.out (by rw [HYE.out, h1, h2]; rfl))))))
              clear h1 h2
              go_wp2_with fail
              go_ret
              rw [HR.out, hB]
              exact ⟨rfl, HBa.out.trans (HB5.out.mono (by omega))⟩
            · cases h3 : (F == T)
              · have HN3 : Hid (ysOK (syns.take (k2 + 1)) = true) := by show _ = _; rw [HN1.out, HK.out, HYE.out, h1, h2, h3]; rfl
                have heq : ((bs F).toList == (bs T).toList) = false := by rw [HEQ.out]; exact h3
                clear h1 h2 h3 HEQ
                go_wp2_with fail
                go_roundw
                case rel => exact ⟨k2 + 1, by omega, by go_num, HN3.out, HB5.out⟩
                case measure => simp [intOf]; omega
              · have HR := hidd (azOK_no stops syns lo hi (Or.inr (Or.inr (Or.inr (HN2.out (by rw [HYE.out, h1, h2, h3]; rfl))))))
                have heq : ((bs F).toList == (bs T).toList) = true := by rw [HEQ.out]; exact h3
                clear h1 h2 h3 HEQ
                go_wp2_with fail
                go_ret
                rw [HR.out, hB]
                exact ⟨rfl, HBa.out.trans (HB5.out.mono (by omega))⟩
        · have HYf : Hid (ysOK syns = true) := by have h := HK.out; rw [all_full syns k2 hlt2] at h; exact h
          have HA := hidd (azOK_yes stops syns lo hi (by omega) (by omega) HKf.out HYf.out)
          have Hblk2 : Hid (wr.heap[B]? = _) := (HBr.out.block B hBlt).trans Hblk.out
          have q5 : wr.cell? ⟨B, 5, none⟩ = some (.int .i64 lo) := cell_at Hblk2.out 5
          have q6 : wr.cell? ⟨B, 6, none⟩ = some (.int .i64 hi) := cell_at Hblk2.out 6
          by_cases h0 : lo = 0
          · subst h0
            by_cases h1 : hi = 0
            · subst h1
              have HR : Hid (rOK 0 0 = true) := by show _ = _; decide
              go_wp2_with fail
              go_ret
              rw [HA.out, HR.out, hB]
              exact ⟨rfl, HBa.out.trans (HBr.out.mono (by omega))⟩
            · have h1b : (hi == 0) = false := beq_eq_false_iff_ne.2 h1
              have HR : Hid (rOK 0 hi = gOK 0 hi) := by show _ = _; rw [rOK, decide_eq_false h1]; simp
              go_wp2_with fail
              refine (gramSizes_any _ _ _).mono ?_
              rintro e w' ⟨rfl, hw⟩
              obtain rfl := hw.symm
              clear hw
              go_wp2_with fail
              go_ret
              rw [HA.out, HR.out, hB]
              exact ⟨rfl, HBa.out.trans (HBr.out.mono (by omega))⟩
          · have h0b : (lo == 0) = false := beq_eq_false_iff_ne.2 h0
            have HR : Hid (rOK lo hi = gOK lo hi) := by show _ = _; rw [rOK, decide_eq_false h0]; simp
            go_wp2_with fail
            refine (gramSizes_any _ _ _).mono ?_
            rintro e w' ⟨rfl, hw⟩
            obtain rfl := hw.symm
            clear hw
            go_wp2_with fail
            go_ret
            rw [HA.out, HR.out, hB]
            exact ⟨rfl, HBa.out.trans (HBr.out.mono (by omega))⟩
end Go.Proofs.YtionicjnoogpjaaGreatDoor
