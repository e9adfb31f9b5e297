import Derived.Test.YtanolccfmpbjgalDfCK
namespace Go.Proofs.Ytanolccfmpbjgal
open Go Go.RowKit
set_option linter.unusedVariables false
set_option maxRecDepth 100000

/-- What a comparing function is asked. -/
def CmpC (w : World) (g : Nat) (key : Ar → Int) (T : Int) : Prop := ∀ W, Below w.heap.size w W → ∀ x : Ar, Calls Try.prog g #[.agg #[.int .i64 x.1, .int .i64 x.2.1, .int .i64 x.2.2], .int .i64 T] W fun e w' => e = .returned (.int .i64 (cmpI (key x) T)) ∧ Below W.heap.size W w'
theorem cmpI_lt {x T : Int} : cmpI x T < 0 ↔ x < T := by
  unfold cmpI
  by_cases h : x < T
  · simp [h]
  · rw [if_neg h]
    by_cases h2 : T < x
    · simp [h2]; omega
    · simp [h2]; omega
theorem cmpI_eq {x T : Int} : (cmpI x T == 0) = decide (x = T) := by
  unfold cmpI
  by_cases h : x < T
  · have : ¬ x = T := by omega
    simp [h, this]
  · rw [if_neg h]
    by_cases h2 : T < x
    · have : ¬ x = T := by omega
      simp [h2, this]
    · have : x = T := by omega
      simp [this]
set_option maxHeartbeats 4000000 in
theorem bsf_any (g : Nat) (hg : ∀ args W, (callFunc g args).run Try.prog W = .ok (.enter g args) W) (key : Ar → Int) (T : Int) (a : Option Addr) (c : Nat) (l : List Ar) (w : World) (hl : l.length ≤ 1048576) (hA : HoldA w a l) (hC : CmpC w g key T) (hs : l.Pairwise fun x y => key x < key y) :
    Calls Try.prog 62 #[.slice a l.length c, .int .i64 T, .func (.func g) #[] #[]] w fun e w' => e = .returned (.tuple #[.int .i64 ((below key T l : Nat) : Int), .bool (foundAt key T l)]) ∧ Below w.heap.size w w' := by
  have HA := hidd hA
  have HC := hidd hC
  have HS := hidd hs
  clear hA hC hs
  go_enter Try.func62, Try.ntmps62
  go_wp2_with fail
  go_loopw [9, 10] (fun iv jv wr => ∃ i j : Nat, i ≤ j ∧ j ≤ l.length ∧ iv = .int .i64 (i : Int) ∧ jv = .int .i64 (j : Int) ∧ (∀ t, t < i → key (l.getD t ar0) < T) ∧ (∀ t, j ≤ t → t < l.length → ¬ key (l.getD t ar0) < T) ∧ Below w.heap.size w wr) (fun iv jv _ => (intOf jv).toNat - (intOf iv).toNat)
  case atStart => exact ⟨0, l.length, Nat.zero_le _, Nat.le_refl _, rfl, rfl, fun t h => by omega, fun t h1 h2 => by omega, Below.refl _ _⟩
  case round =>
    obtain ⟨i, j, hij, hj, rfl, rfl, hlo, hhi, hb⟩ := hrel
    have HLo := hidd hlo
    have HHi := hidd hhi
    have HB := hidd hb
    clear hlo hhi hb
    by_cases hlt : i < j
    · have hltz : (i : Int) < (j : Int) := by omega
      obtain ⟨b, off, rfl, hbl, hc⟩ := HA.out.resolve_left (fun h => by rw [h] at hj; simp at hj; omega)
      go_upto_region 5 with fail
      obtain ⟨h, hh⟩ : ∃ h : Nat, ((i : Int) + (j : Int)) / 2 = (h : Int) := ⟨(i + j) / 2, by omega⟩
      simp only [hh]
      have hi1 : i ≤ h := by omega
      have hj1 : h < j := by omega
      clear hh
      have hhl : (h : Int) < (l.length : Int) := by omega
      obtain ⟨p0, p1, p2⟩ := hc h (by omega)
      replace p0 := (HB.out.cell (p := ⟨b, off + h * 3, none⟩) hbl).trans p0
      replace p1 := (HB.out.cell (p := ⟨b, off + h * 3 + 1, none⟩) hbl).trans p1
      replace p2 := (HB.out.cell (p := ⟨b, off + h * 3 + 2, none⟩) hbl).trans p2
      clear hc
      obtain ⟨x, hx⟩ : ∃ x, l.getD h ar0 = x := ⟨_, rfl⟩
      rw [hx] at p0 p1 p2
      have Hx := hidd hx
      clear hx
      have HCx := hidd (HC.out wr HB.out x)
      obtain ⟨x0, x1, x2⟩ := x
      dsimp only at p0 p1 p2 HCx
      go_wp2_with fail
      refine HCx.out.mono ?_
      rintro e w1 ⟨rfl, hb1⟩
      have HB1 := hidd (HB.out.trans (hb1.mono HB.out.size))
      obtain ⟨K, hK⟩ : ∃ K, key (x0, x1, x2) = K := ⟨_, rfl⟩
      have HK := hidd hK
      try rw [hK]
      clear hb1 hK p0 p1 p2 HCx
      dsimp only
      by_cases hk : K < T
      · have hk0 : cmpI K T < 0 := cmpI_lt.2 hk
        have HLo2 : Hid (∀ t, t < h + 1 → key (l.getD t ar0) < T) := fun t ht => by
          by_cases e : t = h
          · rw [e, Hx.out, HK.out]; exact hk
          · have h1 := List.pairwise_iff_getElem.1 HS.out t h (by omega) (by omega) (by omega)
            have e1 : l.getD t ar0 = l[t] := by simp [List.getD_eq_getElem?_getD, List.getElem?_eq_getElem (show t < l.length by omega)]
            have e2 : l.getD h ar0 = l[h] := by simp [List.getD_eq_getElem?_getD, List.getElem?_eq_getElem (show h < l.length by omega)]
            rw [← e1, ← e2, Hx.out, HK.out] at h1
            omega
        go_wp2_with fail
        go_roundw
        case rel => exact ⟨h + 1, j, by omega, hj, by go_num, rfl, HLo2.out, fun t h1 h2 => by have := HHi.out t h1 h2; omega, HB1.out⟩
        case measure => simp [intOf]; omega
      · have hk0 : ¬ cmpI K T < 0 := fun e => hk (cmpI_lt.1 e)
        have HHi2 : Hid (∀ t, h ≤ t → t < l.length → ¬ key (l.getD t ar0) < T) := fun t ht1 ht2 => by
          by_cases e : t = h
          · rw [e, Hx.out, HK.out]; exact hk
          · have h1 := List.pairwise_iff_getElem.1 HS.out h t (by omega) (by omega) (by omega)
            have e1 : l.getD t ar0 = l[t] := by simp [List.getD_eq_getElem?_getD, List.getElem?_eq_getElem (show t < l.length by omega)]
            have e2 : l.getD h ar0 = l[h] := by simp [List.getD_eq_getElem?_getD, List.getElem?_eq_getElem (show h < l.length by omega)]
            rw [← e1, ← e2, Hx.out, HK.out] at h1
            omega
        go_wp2_with fail
        go_roundw
        case rel => exact ⟨i, h, hi1, by omega, rfl, rfl, HLo.out, HHi2.out, HB1.out⟩
        case measure => simp [intOf]; omega
    · have hltz : ¬ (i : Int) < (j : Int) := by omega
      obtain rfl : i = j := by omega
      have HBe := hidd (below_edge key T l i hj HLo.out HHi.out)
      by_cases hin : i < l.length
      · have hinz : (i : Int) < (l.length : Int) := by omega
        obtain ⟨b, off, rfl, hbl, hc⟩ := HA.out.resolve_left (fun h => by rw [h] at hin; simp at hin)
        obtain ⟨p0, p1, p2⟩ := hc i hin
        replace p0 := (HB.out.cell (p := ⟨b, off + i * 3, none⟩) hbl).trans p0
        replace p1 := (HB.out.cell (p := ⟨b, off + i * 3 + 1, none⟩) hbl).trans p1
        replace p2 := (HB.out.cell (p := ⟨b, off + i * 3 + 2, none⟩) hbl).trans p2
        clear hc
        obtain ⟨x, hx⟩ : ∃ x, l.getD i ar0 = x := ⟨_, rfl⟩
        rw [hx] at p0 p1 p2
        have HFo : Hid (foundAt key T l = decide (key x = T)) := by
          show _ = _
          have e : l[i]? = some x := by rw [← hx, List.getD_eq_getElem?_getD, List.getElem?_eq_getElem hin]; rfl
          rw [foundAt, HBe.out, e]
        clear hx
        have HCx := hidd (HC.out wr HB.out x)
        obtain ⟨x0, x1, x2⟩ := x
        dsimp only at p0 p1 p2 HCx
        go_wp2_with fail
        refine HCx.out.mono ?_
        rintro e w1 ⟨rfl, hb1⟩
        have HB1 := hidd (HB.out.trans (hb1.mono HB.out.size))
        obtain ⟨K, hK⟩ : ∃ K, key (x0, x1, x2) = K := ⟨_, rfl⟩
        rw [hK] at HFo
        try rw [hK]
        clear hb1 hK p0 p1 p2 HCx
        dsimp only
        go_wp2_with fail
        go_ret2
        exact ⟨by rw [HBe.out, HFo.out, ← cmpI_eq]; rfl, HB1.out⟩
      · have hinz : ¬ (i : Int) < (l.length : Int) := by omega
        have HFo : Hid (foundAt key T l = false) := by
          show _ = _
          rw [foundAt, HBe.out, List.getElem?_eq_none (by omega)]
        go_wp2_with fail
        go_ret2
        exact ⟨by rw [HBe.out, HFo.out]; rfl, HB.out⟩
end Go.Proofs.Ytanolccfmpbjgal
