import Derived.Test.YtifgcimmlonagaaDoorExactSuggestJ28
import Derived.Test.YtifgcimmlonagaaDoorExactSuggestJ30
namespace Go.Proofs.YtifgcimmlonagaaDoor
open Go Go.RowKit
set_option linter.unusedVariables false
set_option linter.unusedSimpArgs false

/-! FnExactSuggest. -/
theorem sgList_le (L : List Tx) (t : ByteArray) (most : Int) : (sgList L t most).length ≤ 20 := by
  unfold sgList
  by_cases h : sgCode L t most = 0
  · rw [if_pos h]
    have hm : ¬ 20 < most := by
      intro h2
      unfold sgCode at h
      split at h
      · omega
      · split at h
        · contradiction
        · split at h
          · omega
          · rw [if_pos (.inr (.inr h2))] at h
            omega
    unfold toldW
    rw [List.length_take]
    omega
  · rw [if_neg h]; simp
set_option maxHeartbeats 8000000 in
set_option maxRecDepth 100000 in
theorem sgLaw_any (ao : Option Addr) (cap : Nat) (ts : List Tx) (s : ByteArray) (most : Int) (w : World) (hn63 : ts.length ≤ 9223372036854775807) (hA63 : ∀ i, (ts.getD i []).length ≤ 9223372036854775807) (h : TmA w ao ts) (hT : Tabs w) :
    Calls Tryd.prog 4 #[.slice ao ts.length cap, .string s, .int .i64 most] w fun e w' => e = .returned (.bool true) ∧ Below w.heap.size w w' := by
  have HSz := hidd (szStrs_any ao cap ts 1048576 w (by omega) (by omega) hn63 hA63 h)
  have HTo : Hid (∀ w', ts.length ≤ 1048576 → Below w.heap.size w w' → Calls Tryd.prog 10 #[.slice ao ts.length cap] w' fun e w2 => e = .returned (.slice (some ⟨w'.heap.size, 0, none⟩) ts.length ts.length) ∧ RowTx w2 w'.heap.size ts ∧ Below w'.heap.size w' w2) := fun w' hn hb => toTx_any ao cap ts w' hn (h.below hb)
  have HT := hidd hT
  clear h hA63 hT
  by_cases hlong : 1048576 < s.size
  · have hlz : (1048576 : Int) < (s.size : Int) := by omega
    go_enter Tryd.func4, Tryd.ntmps4
    go_wp2_with fail
    go_ret
    exact ⟨rfl, Below.refl _ _⟩
  have hlz : ¬ (1048576 : Int) < (s.size : Int) := by omega
  by_cases hneg : szTx 1048576 ts < 0
  · generalize szTx 1048576 ts = R at *
    go_enter Tryd.func4, Tryd.ntmps4
    go_wp2_with fail
    refine HSz.out.mono ?_
    rintro e w1 ⟨rfl, rfl⟩
    go_wp2_with fail
    go_ret
    exact ⟨rfl, Below.refl _ _⟩
  have hlen := szTx_bound (by omega : (0 : Int) ≤ 1048576) hneg
  have hlen2 : ts.length ≤ 1048576 := by omega
  have hzs : ∀ x ∈ ts, x.length ≤ 1048576 := fun x hx => by have := szTx_each hneg x hx; omega
  clear hlen hn63
  have HS : Hid (∀ g W, RowTx W g ts → Calls Tryd.prog 6 #[.slice (some ⟨g, 0, none⟩) ts.length ts.length, .string s, .int .i64 most] W fun e w' => ∃ v, e = .returned (.tuple #[v, .int .i64 (sgCode ts s most)]) ∧ w'.ownsRow W.heap.size 9 1 v (sgList ts s most).length (sCells (sgList ts s most)) ∧ Below W.heap.size W w') := fun g W hr => specSuggest_any ts _ _ s most W hlen2 (Nat.le_refl _) hzs (by omega) (rowTx_hold hr)
  have HI : Hid (∀ g W, RowTx W g ts → Below w.heap.size w W → Calls Tryd.prog 7 #[.slice (some ⟨g, 0, none⟩) ts.length ts.length, .string s, .int .i64 most] W fun e w' => ∃ v, e = .returned (.tuple #[v, .int .i64 (sgCode ts s most)]) ∧ w'.ownsRow W.heap.size 9 1 v (sgList ts s most).length (sCells (sgList ts s most)) ∧ Below W.heap.size W w') := fun g W hr hb => implSuggest_any ts _ _ s most W hlen2 hzs (by omega) (rowTx_hold hr) (HT.out.below hb)
  have hzl := sgList_le ts s most
  obtain ⟨C, hC⟩ : ∃ C, sgCode ts s most = C := ⟨_, rfl⟩
  obtain ⟨zs, hZ⟩ : ∃ zs, sgList ts s most = zs := ⟨_, rfl⟩
  rw [hC, hZ] at HS HI
  rw [hZ] at hzl
  clear hC hZ hzs
  have hcn : (C != C) = false := by simp
  generalize szTx 1048576 ts = R at *
  go_enter Tryd.func4, Tryd.ntmps4
  go_wp2_with fail
  refine HSz.out.mono ?_
  rintro e w0 ⟨rfl, hw0⟩
  obtain rfl := hw0.symm
  clear hw0 HSz
  go_wp2_with fail
  refine (HTo.out _ (by omega) (Below.refl _ _)).mono ?_
  rintro e w1 ⟨rfl, hrow1, hb1⟩
  have HB1 := hidd hb1
  have HS1 := hidd (HS.out w.heap.size w1 hrow1)
  clear hrow1 hb1
  go_wp2_with fail
  refine HS1.out.mono ?_
  rintro e w2 ⟨v0, rfl, hown0, hb2⟩
  have HO0 := hidd hown0
  have HB2 := hidd (HB1.out.trans (hb2.mono HB1.out.size))
  clear hown0 hb2 HS1 HS
  go_wp2_with fail
  refine (HTo.out _ (by omega) HB2.out).mono ?_
  rintro e w3 ⟨rfl, hrow3, hb3⟩
  have HX3 := hidd hrow3
  have HO03 := hidd (own_below HO0.out hb3)
  have HB3 := hidd (HB2.out.trans (hb3.mono HB2.out.size))
  have hz3 : w2.heap.size < w3.heap.size := hrow3.lt
  have HI3 := hidd (HI.out w2.heap.size w3 hrow3 HB3.out)
  have HLt0 : Hid (∀ b, v0.ownBlock = some b → b < w2.heap.size) := fun b hb => (HO0.out.lt b hb).2
  clear hrow3 hb3 HO0
  go_wp2_with fail
  refine HI3.out.mono ?_
  rintro e w4 ⟨v1, rfl, hown1, hb4⟩
  have HO1 := hidd hown1
  have HO04 := hidd (own_below HO03.out hb4)
  have HX4 := hidd (HX3.out.below hb4)
  have HB4 := hidd (HB3.out.trans (hb4.mono HB3.out.size))
  have hz4 := hb4.size
  have hz2 := HB2.out.size
  have hz1 := HB1.out.size
  clear hown1 hb4 HO03 HX3 HI3 HB3
  go_wp2_with fail
  refine (eqStrs_own _ _ v1 v0 zs _ (by omega) HO1.out HO04.out).mono ?_
  rintro e w5 ⟨rfl, m5, hw5⟩
  have hb5 : Below w4.heap.size w4 w5 := by rw [hw5]; exact below_drewN (Below.refl _ _) m5
  have HO15 := hidd (own_below HO1.out hb5)
  have HO05 := hidd (own_below HO04.out hb5)
  have HX5 := hidd (HX4.out.below hb5)
  have HB5 := hidd (HB4.out.trans (hb5.mono HB4.out.size))
  have hz5 := hb5.size
  clear hb5 hw5 HO1 HO04 HX4 HB4
  go_wp2_with fail
  refine (HTo.out _ (by omega) HB5.out).mono ?_
  rintro e w6 ⟨rfl, hrow6, hb6⟩
  have HY6 := hidd hrow6
  have HO16 := hidd (own_below HO15.out hb6)
  have HO06 := hidd (own_below HO05.out hb6)
  have HX6 := hidd (HX5.out.below hb6)
  have HB6 := hidd (HB5.out.trans (hb6.mono HB5.out.size))
  have hz6 := hb6.size
  clear hrow6 hb6 HO15 HO05 HX5 HB5
  go_wp2_with fail
  refine (eqTx_any _ _ _ _ ts _ hlen2 (rowTx_hold HX6.out) (rowTx_hold HY6.out)).mono ?_
  rintro e w7 ⟨rfl, hb7⟩
  have HO17 := hidd (own_below HO16.out hb7)
  have HO07 := hidd (own_below HO06.out hb7)
  have HX7 : Hid (RowN w7 w2.heap.size ts.length 9) := by
    obtain ⟨cur, q1, q2, _⟩ := HX6.out.below hb7
    exact ⟨cur, q1, q2⟩
  have HB7 := hidd (HB6.out.trans (hb7.mono HB6.out.size))
  have hz7 := hb7.size
  clear hb7 HO16 HO06 HX6 HB6 HY6
  go_wp2_with fail
  refine (markTx_any _ ts.length _ _ hlen2 HX7.out).mono ?_
  rintro e w8 ⟨rfl, hg8⟩
  have HO18 : Hid (w8.ownsRow w3.heap.size 9 1 v1 zs.length (sCells zs)) := own_congr HO17.out fun b hb => by
    have := HO17.out.lt b hb
    exact hg8.block b this.2 (fun e => by cases e; omega)
  have HO08 : Hid (w8.ownsRow w1.heap.size 9 1 v0 zs.length (sCells zs)) := own_congr HO07.out fun b hb => by
    have := HO07.out.lt b hb
    have h2 := HLt0.out b hb
    exact hg8.block b this.2 (fun e => by cases e; omega)
  have HB8 : Hid (Below w.heap.size w w8) := HB7.out.grown hg8 HB7.out.size (fun k e => by cases e; exact HB2.out.size)
  have hz8 := hg8.size
  clear hg8 HO17 HO07 HX7 HB7
  have hkz : ¬ (((1 + ts.length : Nat) : Int)) < 0 := by omega
  go_wp2_with fail
  refine (eqStrs_own _ _ v1 v0 zs _ (by omega) HO18.out HO08.out).mono ?_
  rintro e w9 ⟨rfl, m9, hw9⟩
  have hb9 : Below w8.heap.size w8 w9 := by rw [hw9]; exact below_drewN (Below.refl _ _) m9
  have HO19 := hidd (own_below HO18.out hb9)
  have HO09 := hidd (own_below HO08.out hb9)
  have HB9 := hidd (HB8.out.trans (hb9.mono HB8.out.size))
  have hz9 := hb9.size
  clear hb9 hw9 HO18 HO08 HB8
  go_wp2_with fail
  refine (markStrs_own w3.heap.size zs.length v1 _ 1 _ (by omega) (by omega) (by omega) (by omega) HO19.out).mono ?_
  rintro e wm ⟨rfl, hownm, hgm⟩
  have HOm := hidd hownm
  have HO0m : Hid (wm.ownsRow w1.heap.size 9 1 v0 zs.length (sCells zs)) := own_congr HO09.out fun b hb => by
    have h1 := HO09.out.lt b hb
    have h2 := HLt0.out b hb
    exact hgm.block b h1.2 (fun e => by have := (HO19.out.lt b e.symm).1; omega)
  have HBm : Hid (Below w.heap.size w wm) := HB9.out.grown hgm HB9.out.size (fun k hk => by have := (HO19.out.lt k hk).1; omega)
  clear hownm hgm HO19 HO09 HB9
  have hqn : ¬ (1 + (zs.length : Int)) < 0 := by omega
  have hqe : ((1 + (zs.length : Int)) != (1 + (zs.length : Int))) = false := by simp
  go_wp2_with fail
  refine (heldStrs_own _ zs.length v1 1 _ (by omega) (by omega) (by omega) HOm.out).mono ?_
  rintro e wn ⟨rfl, hbn⟩
  have HOn := hidd (own_below HOm.out hbn)
  have HO0n := hidd (own_below HO0m.out hbn)
  have HBn := hidd (HBm.out.trans (hbn.mono HBm.out.size))
  clear hbn HOm HO0m HBm
  go_wp2_with fail
  refine (HTo.out _ (by omega) HBn.out).mono ?_
  rintro e wo ⟨rfl, hrowo, hbo⟩
  have HOo := hidd (own_below HOn.out hbo)
  have HO0o := hidd (own_below HO0n.out hbo)
  have HBo := hidd (HBn.out.trans (hbo.mono HBn.out.size))
  have HIo := hidd (HI.out wn.heap.size wo hrowo HBo.out)
  clear hrowo hbo HOn HO0n HBn
  go_wp2_with fail
  refine HIo.out.mono ?_
  rintro e wp ⟨v2, rfl, hown2, hbp⟩
  have HO2p := hidd hown2
  have HOp := hidd (own_below HOo.out hbp)
  have HO0p := hidd (own_below HO0o.out hbp)
  have HBp := hidd (HBo.out.trans (hbp.mono HBo.out.size))
  clear hown2 hbp HIo HOo HO0o HBo
  go_wp2_with fail
  refine (eqStrs_own _ _ v2 v0 zs _ (by omega) HO2p.out HO0p.out).mono ?_
  rintro e wq ⟨rfl, mq, hwq⟩
  have hbq : Below wp.heap.size wp wq := by rw [hwq]; exact below_drewN (Below.refl _ _) mq
  have HOq := hidd (own_below HOp.out hbq)
  have HBq := hidd (HBp.out.trans (hbq.mono HBp.out.size))
  clear hbq hwq HO2p HOp HO0p HBp
  go_wp2_with fail
  refine (heldStrs_own _ zs.length v1 1 _ (by omega) (by omega) (by omega) HOq.out).mono ?_
  rintro e ws ⟨rfl, hbs⟩
  have HBs := hidd (HBq.out.trans (hbs.mono HBq.out.size))
  clear hbs HOq HBq
  go_wp2_with fail
  go_ret
  exact ⟨rfl, HBs.out⟩
end Go.Proofs.YtifgcimmlonagaaDoor
