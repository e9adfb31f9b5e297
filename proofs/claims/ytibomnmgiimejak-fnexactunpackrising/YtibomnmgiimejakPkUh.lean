import Derived.Test.YtibomnmgiimejakPkUf
import Derived.Test.YtibomnmgiimejakPkUg
namespace Go.Proofs.Ytibomnmgiimejak
open Go Go.RowKit
set_option linter.unusedVariables false

set_option maxHeartbeats 4000000 in
set_option maxRecDepth 100000 in
theorem unRising_any (ao : Option Addr) (cp : Nat) (bs : List UInt8) (w : World) (hst : Stretch w (.slice ao bs.length cp) bs) :
    Calls Try.prog 46 #[.slice ao bs.length cp, .int .i64 0] w fun e w' => Below w.heap.size w w' ∧ ((unpackL bs = none ∧ ∃ u, e = .returned (.tuple #[u, .int .i64 0, .bool false])) ∨ ∃ vs s, unpackL bs = some (vs, s) ∧ ((unriseG 0 vs = none ∧ ∃ u, e = .returned (.tuple #[u, .int .i64 0, .bool false])) ∨ ∃ us u, unriseG 0 vs = some us ∧ e = .returned (.tuple #[u, .int .i64 (s : Int), .bool true]) ∧ w'.ownsRow w.heap.size 3 1 u us.length (nCells us))) := by
  obtain ⟨i0, hi, hz0, hz1, hz2⟩ := info_parts Try.infoInt64
  have HC := hidd (l03Unpack_any ao cp bs w hst)
  clear hst
  go_enter Try.func46, Try.ntmps46
  go_wp2_with (first | (go_at_call 40; refine HC.out.mono ?_))
  rintro e w1 ⟨hb1, h1⟩
  have HB1 := hidd hb1
  clear hb1 HC
  rcases h1 with ⟨hno, xo, xc, rfl⟩ | ⟨vs, s, u, hyes, rfl, hown⟩
  · go_wp2
    refine wp_loop_rounds 1 ?_
    rw [rounds_succ]
    go_wp2
    go_ret3
    exact ⟨HB1.out.alloc HB1.out.size _, Or.inl ⟨hno, _, rfl⟩⟩
  · obtain ⟨_, hlen, h62, _⟩ := unpackL_some hyes
    have H62 := hidd h62
    have HY := hidd hyes
    have HG := hidd hown
    clear h62 hyes hown
    rcases own_cases HG.out with ⟨rfl, hl0⟩ | ⟨g, gp, rfl, _, _⟩
    · have hv0 : vs = [] := List.length_eq_zero_iff.1 hl0
      subst hv0
      go_wp2
      refine wp_loop_rounds 1 ?_
      rw [rounds_succ]
      go_wp2
      go_ret3
      exact ⟨HB1.out.alloc HB1.out.size _, Or.inr ⟨[], s, HY.out, Or.inr ⟨[], _, rfl, rfl, own_mono (own_empty w1 3) HB1.out.size⟩⟩⟩
    have HN : Hid (NumsAt .i64 w1 g 0 vs) := by
      intro t ht
      rw [Nat.zero_add, HG.out.cellAt t (by omega)]
      simp [nCells, ht]
    have hgw : g < w1.heap.size := (World.ownsRow.lt HG.out g rfl).2
    clear HG
    go_wp2
    go_loopw [9, 10] (fun u iv wr => ∃ (k : Nat) (us : List Nat), k ≤ vs.length ∧ iv = .int .i64 (k : Int) ∧ unriseG 0 (vs.take k) = some us ∧ wr.ownsRow w1.heap.size 3 1 u k (nCells us) ∧ u ≠ .slice none 0 0 ∧ Below w1.heap.size w1 wr) (fun _ iv _ => vs.length - (intOf iv).toNat)
    case atStart => exact ⟨0, [], Nat.zero_le _, rfl, rfl, own_empty w1 3, by simp, (Below.refl _ _).alloc (Nat.le_refl _) _⟩
    case round =>
      obtain ⟨k, us, hk, rfl, hr, hown, hnn, hbel⟩ := hrel
      have HR := hidd hr
      have HO := hidd hown
      have HB := hidd hbel
      have hzw := hbel.size
      have hul : us.length = k := by have := unriseG_length _ _ _ hr; rw [List.length_take] at this; omega
      have Hu62 := hidd (unriseG_62 _ _ _ hr)
      clear hr hown hbel
      by_cases hlt : k < vs.length
      · have g1 := (HB.out.cell (p := ⟨g, 0 + k, none⟩) hgw).trans (HN.out k hlt)
        rw [Nat.zero_add] at g1
        have hvk := H62.out (vs.getD k 0) (by rw [List.getD_eq_getElem?_getD, List.getElem?_eq_getElem hlt]; exact List.getElem_mem _)
        have Hut := hidd (unrise_take vs us k hlt HR.out)
        have Hstop := hidd (unrise_stop vs k)
        have hklt : (k : Int) < (vs.length : Int) := by omega
        rcases own_cases HO.out with ⟨hx, _⟩ | ⟨q, qp, rfl, _, _⟩
        · exact absurd hx hnn
        by_cases hk0 : k = 0
        · subst hk0
          have hus : us = [] := List.length_eq_zero_iff.1 hul
          subst hus
          have Hg0 : Hid (unriseG 0 (vs.take 1) = some ([] ++ [vs.getD 0 0])) := by show _ = _; rw [Hut.out, show nxG 0 [] = 0 from rfl, if_neg (by omega)]; simp
          generalize vs.getD 0 0 = v at *
          go_wp2_with (at_builtin; refine wpList_append_own_at _ rfl _ _ 22 rfl w1.heap.size 3 i0 (.int .i64 0) 1 8 Try.underlying22 hi hz0 hz1 hz2 rfl (by decide) _ _ _ rfl (HO.out.alloc _) ⟨wr.heap.size, 0, none⟩ 1 1 [.int .i64 (v : Int)] rfl rfl ?c1 ?c2 ?c3 ?c4 ?c5 ?_)
          try case c1 =>
            intro j u hj
            match j, hj with
            | 0, hj => simp at hj; subst hj; simp [Addr.add]
          case c2 => first | rfl | (intro u hu; simp at hu; subst hu; rfl)
          case c3 => unfold maxLen; omega
          case c4 => omega
          case c5 => simp; omega
          intro v6 w6 hown6 hgrow6 hne6 hat6
          have R6 : Hid (w6.ownsRow w1.heap.size 3 1 v6 (0 + 1) (nCells ([] ++ [v])) ∧ v6 ≠ .slice none 0 0 ∧ Below w1.heap.size w1 w6) := by
            refine ⟨?_, ?_, (HB.out.alloc hzw _).grown hgrow6 (by simp; omega) (own_block HO.out)⟩
            · rw [nCells_snoc]; exact hown6
            · intro e; first | exact hne6 e | (have := (hne6.1 e).2; omega)
          clear hown6 hgrow6 hat6 hne6 HO HB
          go_wp2
          go_roundw
          case rel => exact ⟨0 + 1, [] ++ [v], by omega, by go_num, Hg0.out, R6.out.1, R6.out.2.1, R6.out.2.2⟩
          case measure => simp [intOf]; omega
        · obtain ⟨j, hj⟩ : ∃ j, k = j + 1 := ⟨k - 1, by omega⟩
          have g2 : wr.cell? ⟨q, j, none⟩ = some (.int .i64 ((us.getD j 0 : Nat) : Int)) := by
            rw [HO.out.cellAt j (by omega)]
            simp [nCells, show j < us.length from by omega]
          have hnxe := nxG_last us j (by omega)
          have hp62 := Hu62.out (us.getD j 0) (by rw [List.getD_eq_getElem?_getD, List.getElem?_eq_getElem (by omega : j < us.length)]; exact List.getElem_mem _)
          rw [hnxe] at Hut
          generalize vs.getD k 0 = v at *
          generalize us.getD j 0 = p at *
          have hjz : (k : Int) - 1 = (j : Int) := by omega
          have hjlt : (j : Int) < (k : Int) := by omega
          have hb0 : (0 : Int) < (k : Int) := by omega
          have hw1 : IntKind.i64.wrap (j : Int) = (j : Int) := IntWalk.i64_in _ ⟨by omega, by omega⟩
          clear hnxe
          by_cases hle : 4611686018427387903 < p + 1 + v
          · have hlz : (4611686018427387902 : Int) - (p : Int) < (v : Int) := by omega
            have HF : Hid (unriseG 0 vs = none) := Hstop.out (by rw [Hut.out, if_pos hle])
            clear hk0 hj
            go_wp2
            go_quiet (fail)
            go_wp2
            go_ret3
            exact ⟨HB1.out.trans (((below_drewN HB.out nq).mono HB1.out.size).alloc (Nat.le_trans HB1.out.size hzw) _), Or.inr ⟨vs, s, HY.out, Or.inl ⟨HF.out, _, rfl⟩⟩⟩
          · have hlz : ¬ (4611686018427387902 : Int) - (p : Int) < (v : Int) := by omega
            rw [if_neg hle] at Hut
            obtain ⟨S, hS⟩ : ∃ S, p + 1 + v = S := ⟨_, rfl⟩
            rw [hS] at Hut
            have hsum : (p : Int) + 1 + (v : Int) = (S : Int) := by omega
            have hS62 : S < 4611686018427387904 := by omega
            have hw2 : IntKind.i64.wrap (S : Int) = (S : Int) := IntWalk.i64_in _ ⟨by omega, by omega⟩
            clear hk0 hj hS hle
            go_wp2
            go_quiet (fail)
            generalize nq = m1
            go_wp2
            go_quiet (fail)
            obtain ⟨W, hWe, HOW, HBW, hzW⟩ : ∃ W, W = (wr.drewN m1).drewN nq ∧ Hid (W.ownsRow w1.heap.size 3 1 (.slice (some ⟨q, 0, none⟩) k qp) k (nCells us)) ∧ Hid (Below w1.heap.size w1 W) ∧ w1.heap.size ≤ W.heap.size := ⟨_, rfl, own_drewN (own_drewN HO.out _) _, below_drewN (below_drewN HB.out _) _, (below_drewN (below_drewN HB.out _) _).size⟩
            rw [← hWe]
            clear hWe HO HB g1 g2 hzw
            go_wp2_with (at_builtin; refine wpList_append_own_at _ rfl _ _ 22 rfl w1.heap.size 3 i0 (.int .i64 0) 1 8 Try.underlying22 hi hz0 hz1 hz2 rfl (by decide) _ _ _ rfl (HOW.out.alloc _) ⟨W.heap.size, 0, none⟩ 1 1 [.int .i64 (S : Int)] rfl rfl ?c1 ?c2 ?c3 ?c4 ?c5 ?_)
            try case c1 =>
              intro j u hj
              match j, hj with
              | 0, hj => simp at hj; subst hj; simp [Addr.add]
            case c2 => first | rfl | (intro u hu; simp at hu; subst hu; rfl)
            case c3 => unfold maxLen; omega
            case c4 => omega
            case c5 => simp; omega
            intro v6 w6 hown6 hgrow6 hne6 hat6
            have R6 : Hid (w6.ownsRow w1.heap.size 3 1 v6 (k + 1) (nCells (us ++ [S])) ∧ v6 ≠ .slice none 0 0 ∧ Below w1.heap.size w1 w6) := by
              refine ⟨?_, ?_, (HBW.out.alloc hzW _).grown hgrow6 (by simp; omega) (own_block HOW.out)⟩
              · rw [nCells_snoc]; exact hown6
              · intro e; first | exact hne6 e | (have := (hne6.1 e).2; omega)
            clear hown6 hgrow6 hat6 hne6 HOW HBW
            go_wp2
            go_roundw
            case rel => exact ⟨k + 1, us ++ [S], by omega, by go_num, Hut.out, R6.out.1, R6.out.2.1, R6.out.2.2⟩
            case measure => simp [intOf]; omega
      · have HK : Hid (vs.take k = vs) := by show _ = _; rw [List.take_of_length_le (by omega)]
        rw [HK.out] at HR
        obtain rfl : k = vs.length := by omega
        go_wp2
        go_ret3
        exact ⟨HB1.out.trans (HB.out.mono HB1.out.size), Or.inr ⟨vs, s, HY.out, Or.inr ⟨us, _, HR.out, rfl, by rw [hul]; exact own_mono HO.out HB1.out.size⟩⟩⟩

set_option maxHeartbeats 1000000 in
theorem specUnpackRising_any (v : Value) (bs : List UInt8) (w : World) (hst : AnyStretch w v bs) :
    Calls Try.prog 23 #[v] w fun e w' => ∃ u, e = .returned (.tuple #[u, .int .i64 (unriseOut bs).2]) ∧ w'.ownsRow w.heap.size 3 1 u (unriseOut bs).1.length (nCells (unriseOut bs).1) ∧ Below w.heap.size w w' := by
  have HS := hidd hst
  obtain ⟨ao, cp, rfl⟩ := hst.len
  clear hst
  by_cases hlong : 1048576 < bs.length
  · have hlz : (1048576 : Int) < (bs.length : Int) := by omega
    have HE : Hid (unriseOut bs = ([], 2)) := by show _ = _; simp [unriseOut, unOut, if_pos hlong]
    go_enter Try.func23, Try.ntmps23
    go_wp2
    go_ret2
    rw [HE.out]
    exact ⟨_, rfl, own_empty _ _, (Below.refl _ _).alloc (Nat.le_refl _) _⟩
  · have hlz : ¬ (1048576 : Int) < (bs.length : Int) := by omega
    have HE : Hid (unriseOut bs = match unAll bs with
      | none => ([], 3)
      | some vs => match unriseG 0 vs with
        | none => ([], 3)
        | some us => (us, 0)) := by
      show _ = _
      rw [unriseOut, unOut, if_neg hlong]
      cases unAll bs with
      | none => rfl
      | some vs => rfl
    have HC := hidd (unRising_any ao cp bs w (HS.out.short (by omega)))
    clear HS
    go_enter Try.func23, Try.ntmps23
    go_wp2_with (first | (go_at_call 46; refine HC.out.mono ?_))
    rintro e w1 hb1 h1
    have HB1 := hidd hb1
    clear hb1 HC
    rcases h1 with ⟨hno, u, rfl⟩ | ⟨vs, s, hyes, ⟨hno, u, rfl⟩ | ⟨us, hr, u, rfl, hown⟩⟩
    · have HN : Hid (unriseOut bs = ([], 3)) := by show _ = _; rw [HE.out, unAll, hno]
      clear hno HE
      go_wp2
      go_ret2
      rw [HN.out]
      exact ⟨_, rfl, own_mono (own_empty _ _) HB1.out.size, HB1.out.alloc HB1.out.size _⟩
    · have HN : Hid (unriseOut bs = ([], 3)) := by
        show _ = _
        rw [HE.out, unAll, hyes]
        by_cases hs : s = bs.length
        · simp [hs, hno]
        · simp [hs]
      clear hno hyes HE
      go_wp2
      go_ret2
      rw [HN.out]
      exact ⟨_, rfl, own_mono (own_empty _ _) HB1.out.size, HB1.out.alloc HB1.out.size _⟩
    · by_cases hs : s = bs.length
      · have HN : Hid (unriseOut bs = (us, 0)) := by show _ = _; rw [HE.out, unAll, hyes]; simp [hs, hr]
        have HO := hidd hown
        have hsz : ((s : Int) != (bs.length : Int)) = false := by simp [hs]
        clear hyes hown hr HE
        go_wp2
        go_ret2
        rw [HN.out]
        exact ⟨_, rfl, HO.out, HB1.out⟩
      · have HN : Hid (unriseOut bs = ([], 3)) := by show _ = _; rw [HE.out, unAll, hyes]; simp [hs]
        have hs' : ¬ (s : Int) = (bs.length : Int) := by omega
        have hsz : ((s : Int) != (bs.length : Int)) = true := by simp [hs']
        clear hyes hown hr HE
        go_wp2
        go_ret2
        rw [HN.out]
        exact ⟨_, rfl, own_mono (own_empty _ _) HB1.out.size, HB1.out.alloc HB1.out.size _⟩
end Go.Proofs.Ytibomnmgiimejak
