import Derived.Test.YtbkedgpligcicaaDictJ01
import Derived.Deep.RegionWith
namespace Go.Proofs.Ytbkedgpligcicaa
open Go Go.RowKit
set_option linter.unusedVariables false

theorem take_allS (l m : List St) (hl : l.length = m.length) (k : Nat) (hk : ∀ j, j < k → l.getD j st0 = m.getD j st0) (h : ¬ k < l.length) : l = m := by
  apply List.ext_getElem hl
  intro i h1 h2
  have := hk i (by omega)
  simpa [h1, h2] using this

set_option maxHeartbeats 4000000 in
set_option maxRecDepth 100000 in
theorem sameDict_any (c1 c2 : Int) (a1 a2 : Option Addr) (k1 k2 : Nat) (l m : List St) (w : World) (hn : l.length ≤ 1048576) (hm : m.length ≤ 1048576) (hA1 : ∀ i, (arcsAt l i).length ≤ 1048576) (hA2 : ∀ i, (arcsAt m i).length ≤ 1048576) (h1 : HoldS w a1 l) (h2 : HoldS w a2 m) (R : Bool) (hR : decide ((c1, l) = (c2, m)) = R) :
    Calls Try.prog 85 #[.agg #[.int .i64 c1, .slice a1 l.length k1], .agg #[.int .i64 c2, .slice a2 m.length k2]] w fun e w' => e = .returned (.bool R) ∧ Below w.heap.size w w' := by
  have HRR := hidd hR
  have HA1 := hidd hA1
  have HA2 := hidd hA2
  clear hR hA1 hA2
  by_cases hq : c1 = c2 ∧ l.length = m.length
  · obtain ⟨rfl, hlm⟩ := hq
    generalize hln : l.length = n at *
    have hmn : m.length = n := hlm.symm
    rw [hmn]
    have HBa : Hid (Below w.heap.size w ((w.alloc (.cells #[.int .i64 c1, .slice a1 n k1] 27)).alloc (.cells #[.int .i64 c1, .slice a2 n k2] 27))) := ((Below.refl _ _).alloc (Nat.le_refl _) _).alloc (by simp) _
    have H1 := hidd (h1.below HBa.out)
    have H2 := hidd (h2.below HBa.out)
    have Hln := hidd hln
    have Hmn := hidd hmn
    clear h1 h2 hln hmn hlm hm
    have hneq : (c1 != c1) = false := by simp
    go_enter Try.func85, Try.ntmps85
    go_wp2_with fail
    have Hbx := hidd (box_two w (.cells #[.int .i64 c1, .slice a1 n k1] 27) (.cells #[.int .i64 c1, .slice a2 n k2] 27))
    generalize (w.alloc (.cells #[.int .i64 c1, .slice a1 n k1] 27)).alloc (.cells #[.int .i64 c1, .slice a2 n k2] 27) = wa at *
    have hwaz := HBa.out.size
    go_loopw [5] (fun iv wr => ∃ k : Nat, k ≤ n ∧ iv = .int .i64 (k : Int) ∧ (∀ j, j < k → l.getD j st0 = m.getD j st0) ∧ Below wa.heap.size wa wr) (fun iv _ => n - (intOf iv).toNat)
    case atStart => exact ⟨0, Nat.zero_le _, rfl, fun j hj => absurd hj (by omega), Below.refl _ _⟩
    case round =>
      obtain ⟨k, hk, rfl, heq, hbel⟩ := hrel
      have HE := hidd heq
      have HB := hidd hbel
      have e1 : wr.cell? ⟨w.heap.size, 1, none⟩ = some (.slice a1 n k1) := blkc (blko Hbx.out.1 hbel) 1
      have e2 : wr.cell? ⟨w.heap.size + 1, 1, none⟩ = some (.slice a2 n k2) := blkc (blko Hbx.out.2 hbel) 1
      clear heq hbel
      by_cases hlt : k < n
      · have hkz : (k : Int) < (n : Int) := by omega
        obtain ⟨b1, o1, rfl, hb1, hc1⟩ := (H1.out.below HB.out).resolve_left (fun h => by have := Hln.out; rw [h] at this; simp at this; omega)
        obtain ⟨b2, o2, rfl, hb2, hc2⟩ := (H2.out.below HB.out).resolve_left (fun h => by have := Hmn.out; rw [h] at this; simp at this; omega)
        obtain ⟨x0, ai, ci, x1, hx⟩ := hc1 k (by rw [Hln.out]; exact hlt)
        obtain ⟨y0, aj, cj, y1, hy⟩ := hc2 k (by rw [Hmn.out]; exact hlt)
        clear hc1 hc2
        have hl1 := HA1.out k
        have hl2 := HA2.out k
        rw [arcsAt] at hl1 hl2
        obtain ⟨p, hp⟩ : ∃ p, l.getD k st0 = p := ⟨_, rfl⟩
        obtain ⟨r, hr⟩ : ∃ r, m.getD k st0 = r := ⟨_, rfl⟩
        rw [hp] at x0 x1 hx hl1
        rw [hr] at y0 y1 hy hl2
        have HP := hidd hp
        have HR := hidd hr
        clear hp hr
        obtain ⟨p0, p1⟩ := p
        obtain ⟨r0, r1⟩ := r
        dsimp only at x0 x1 hx hl1 y0 y1 hy hl2
        have HX := hidd hx
        have HY := hidd hy
        clear hx hy
        have HC : Hid (∀ q : Bool, decide ((p0, p1) = (r0, r1)) = q → Calls Try.prog 96 #[.agg #[.bool p0, .slice ai p1.length ci], .agg #[.bool r0, .slice aj r1.length cj]] wr.drew fun e w' => e = .returned (.bool q) ∧ Below wr.drew.heap.size wr.drew w') := fun q hq => sameState_any p0 r0 ai aj ci cj p1 r1 wr.drew hl1 hl2 (HX.out.below (below_drewN (Below.refl _ _) 1)) (HY.out.below (below_drewN (Below.refl _ _) 1)) q hq
        by_cases hpr : (p0, p1) = (r0, r1)
        · have HC1 := hidd (HC.out true (decide_eq_true hpr))
          have HE2 : Hid (∀ j, j < k + 1 → l.getD j st0 = m.getD j st0) := fun j hj => by
            by_cases hjk : j = k
            · subst hjk; rw [HP.out, HR.out, hpr]
            · exact HE.out j (by omega)
          clear HC hpr
          go_wp2_with fail
          go_region_with (go_at_call 96; refine HC1.out.mono ?_; rintro e' w3 ⟨rfl, hb3⟩)
          all_goals
            go_wp2_with fail
            go_roundw
            · exact ⟨k + 1, by omega, by go_num, HE2.out, HB.out.trans ((below_drewN (Below.refl _ _) 1).trans hb3 |>.mono HB.out.size)⟩
            · simp [intOf]; omega
        · have HC1 := hidd (HC.out false (decide_eq_false hpr))
          have HF : Hid (R = false) := by
            refine HRR.out.symm.trans (decide_eq_false ?_)
            refine fun h => hpr ?_
            have h' : l = m := (Prod.mk.inj h).2
            have e := HP.out
            rw [h', HR.out] at e
            exact e.symm
          clear HC hpr
          go_wp2_with fail
          go_region_with (go_at_call 96; refine HC1.out.mono ?_; rintro e' w3 ⟨rfl, hb3⟩)
          all_goals
            go_wp2_with fail
            go_ret
            rw [HF.out]
            exact ⟨rfl, HBa.out.trans ((HB.out.trans ((below_drewN (Below.refl _ _) 1).trans hb3 |>.mono HB.out.size)).mono hwaz)⟩
      · have HF : Hid (R = true) := by
          refine HRR.out.symm.trans (decide_eq_true ?_)
          rw [take_allS l m (by rw [Hln.out, Hmn.out]) k HE.out (by rw [Hln.out]; exact hlt)]
        have hkz : ¬ (k : Int) < (n : Int) := by omega
        go_wp2_with fail
        go_ret
        rw [HF.out]
        exact ⟨rfl, HBa.out.trans (HB.out.mono hwaz)⟩
  · have HF : Hid (R = false) := by
      refine HRR.out.symm.trans (decide_eq_false ?_)
      refine fun h => hq ?_
      have h' := Prod.mk.inj h
      exact ⟨h'.1, by rw [h'.2]⟩
    have HBa : Hid (Below w.heap.size w ((w.alloc (.cells #[.int .i64 c1, .slice a1 l.length k1] 27)).alloc (.cells #[.int .i64 c2, .slice a2 m.length k2] 27))) := ((Below.refl _ _).alloc (Nat.le_refl _) _).alloc (by simp) _
    by_cases hf : c1 = c2
    · subst hf
      have hneq : (c1 != c1) = false := by simp
      have hln : ¬ l.length = m.length := fun h => hq ⟨rfl, h⟩
      have hlz : ((l.length : Int) != (m.length : Int)) = true := by simp; omega
      clear hq
      go_enter Try.func85, Try.ntmps85
      go_wp2_with fail
      go_ret
      rw [HF.out]
      exact ⟨rfl, HBa.out⟩
    · have hneq : (c1 != c2) = true := by simp [hf]
      clear hq
      go_enter Try.func85, Try.ntmps85
      go_wp2_with fail
      go_ret
      rw [HF.out]
      exact ⟨rfl, HBa.out⟩
end Go.Proofs.Ytbkedgpligcicaa
