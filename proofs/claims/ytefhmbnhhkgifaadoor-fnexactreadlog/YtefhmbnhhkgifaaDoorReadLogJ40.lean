import Derived.Test.YtefhmbnhhkgifaaDoorReadLogJ39
namespace Go.Proofs.YtefhmbnhhkgifaaDoor
open Go Go.RowKit
set_option linter.unusedVariables false
set_option linter.unusedSimpArgs false
set_option maxRecDepth 100000

set_option maxHeartbeats 8000000 in
theorem heldRecs (base hi k g cap : Nat) (L : List Rc) (ys : List Value) (lo hh : Nat → Nat) (va : Nat → Value) (w : World) (hhi : hi ≤ w.heap.size) (hn : L.length ≤ 1048576) (hs : SmL L) (hk1 : 1 ≤ k) (hk : kL L k L.length ≤ 10000000) (h : LgM w base hi (.slice (some ⟨g, 0, none⟩) L.length cap) L ys lo hh va k L.length) :
    Calls Tryd.prog 11 #[.slice (some ⟨g, 0, none⟩) L.length cap, .int .i64 (k : Int)] w fun e w' => e = .returned (.int .i64 ((kL L k L.length : Nat) : Int)) ∧ Below w.heap.size w w' := by
  have HK := hidd (fun i (hi : i ≤ L.length) => kL_mono L k i L.length hi)
  have HSm := hidd hs
  have H := hidd h
  have HK0 := hidd (fun i => kL_mono L k 0 i (Nat.zero_le _))
  clear h hs
  go_enter Tryd.func11, Tryd.ntmps11
  go_wp2_with fail
  go_loopw [1, 5] (fun kv iv wr => ∃ (i : Nat), i ≤ L.length ∧ kv = .int .i64 ((kL L k i : Nat) : Int) ∧ iv = .int .i64 (i : Int) ∧ Below w.heap.size w wr) (fun _ iv _ => L.length - (intOf iv).toNat)
  case atStart => exact ⟨0, Nat.zero_le _, rfl, rfl, Below.refl _ _⟩
  case round =>
    obtain ⟨i, hi', rfl, rfl, hbel⟩ := hrel
    have HM := hidd (H.out.below hhi hbel)
    have HB0 := hidd hbel
    have hws := hbel.size
    have hki := HK.out i hi'
    have hk0 := HK0.out i
    simp only [kL] at hk0
    clear hbel
    by_cases hlt : i < L.length
    · have hltz : (i : Int) < (L.length : Int) := by omega
      have hki1 := HK.out (i + 1) hlt
      simp only [kL] at hki1
      obtain ⟨q0, q1, q2, q3⟩ := HM.out.mrk i hlt hlt
      obtain ⟨xs0, hval⟩ := HM.out.val i hlt
      rw [if_pos hlt] at hval
      obtain ⟨K, hKe⟩ : ∃ K, kL L k i = K := ⟨_, rfl⟩
      rw [hKe] at hki hk0 hki1 q0 q1 q2 q3 hval
      try rw [hKe]
      have HKe := hidd hKe
      have hrow := HM.out.row
      obtain ⟨av, cv, hva⟩ := own_formR hval.row
      have hcel := HM.out.cel i hlt
      have hgl := (hrow.lt g rfl).2
      obtain ⟨V, hV⟩ : ∃ V, (L.getD i rc0).2.2.2.2 = V := ⟨_, rfl⟩
      have hsmi := HSm.out i
      rw [hV] at hva hsmi hval hki1
      have HV := hidd hV
      obtain ⟨ls, hls⟩ : ∃ ls, lensV V = ls := ⟨_, rfl⟩
      have hlsl : ls.length = V.length := by rw [← hls]; exact lensV_len V
      have hl : ∀ j, (ls.getD j (0, 0)).1 ≤ 4096 ∧ (ls.getD j (0, 0)).2 ≤ 4096 := fun j => by
        rw [← hls]
        by_cases hj : j < V.length
        · rw [lensV_at _ _ hj]
          have := hsmi.2 j
          unfold smallV at this
          exact this.2
        · have : (lensV V).length ≤ j := by rw [lensV_len]; omega
          rw [List.getD_eq_getElem?_getD, List.getElem?_eq_none this]
          simp
      have hka : kAt ls (K + 4) ls.length = K + 4 + mkN V := by rw [← hls]; exact kAt_all V (K + 4)
      rw [hls] at hva hval
      have hrng := HM.out.rng i hlt
      have c0 : wr.cell? ⟨g, i * 5, none⟩ = some (.int .i64 (K : Int)) := by rw [hrow.cellAt (i * 5) (by omega)]; exact q0
      have c1 : wr.cell? ⟨g, i * 5 + 1, none⟩ = some (.int .i64 ((K : Int) + 1)) := by rw [hrow.cellAt (i * 5 + 1) (by omega), q1]; simp
      have c2 : wr.cell? ⟨g, i * 5 + 2, none⟩ = some (.string (mkText ((K : Int) + 2))) := by rw [hrow.cellAt (i * 5 + 2) (by omega), q2]; simp
      have c3 : wr.cell? ⟨g, i * 5 + 3, none⟩ = some (.string (mkText ((K : Int) + 3))) := by rw [hrow.cellAt (i * 5 + 3) (by omega), q3]; simp
      have c4 : wr.cell? ⟨g, i * 5 + 4, none⟩ = some (.slice av ls.length cv) := by rw [hrow.cellAt (i * 5 + 4) (by omega), hcel, hva]
      have HC := hidd (fun (W : World) (hW : Below wr.heap.size wr W) => And.intro ((hW.cell (p := ⟨g, i * 5 + 3, none⟩) hgl).trans c3) ((hW.cell (p := ⟨g, i * 5 + 4, none⟩) hgl).trans c4))
      have HHV : Hid (∀ W, Below wr.heap.size wr W → Calls Tryd.prog 17 #[.slice av ls.length cv, .int .i64 ((K : Int) + 4)] W fun e w' => e = .returned (.int .i64 ((K + 4 + mkN V : Nat) : Int)) ∧ Below W.heap.size W w') := fun W hW => by
        have := heldValsX (lo i) (hh i) (K + 4) (va i) ls xs0 W (by have := hW.size; omega) (by omega) hl (by omega) (by omega) (hval.below (by omega) hW)
        rw [hva, hka, show ((K + 4 : Nat) : Int) = (K : Int) + 4 by omega] at this
        exact this
      obtain ⟨nv, hnv⟩ : ∃ nv, ls.length = nv := ⟨_, rfl⟩
      rw [hnv] at HHV HC
      obtain ⟨K2, hK2⟩ : ∃ K2, K + 4 + mkN V = K2 := ⟨_, rfl⟩
      rw [hK2] at HHV
      have HKn : Hid (kL L k (i + 1) = K2) := by show _ = _; simp only [kL]; rw [HKe.out, HV.out]; exact hK2
      have hK2n : ¬ ((K2 : Int) < 0) := by omega
      have HMT2 := hidd (fun W => markText_any ((K : Int) + 1 + 1) W (by omega) (by omega))
      have HMT3 := hidd (fun W => markText_any ((K : Int) + 1 + 1 + 1) W (by omega) (by omega))
      rw [show (K : Int) + 2 = (K : Int) + 1 + 1 by omega] at c2
      rw [show (K : Int) + 3 = (K : Int) + 1 + 1 + 1 by omega] at HC
      clear q0 q1 q2 q3 hval hva hcel hrow hsmi hl hka hls hlsl hnv hK2 hKe hV c3 c4 HM
      go_upto_region 10 with fail
      go_cut [37] (fun cv wy => cv = .bool false ∧ Below wr.heap.size wr wy)
      case first =>
        go_region_with (go_at_call 15; refine (HMT2.out _).mono ?_; rintro e' w1 ⟨rfl, hb1⟩; have c2' : w1.cell? ⟨g, i * 5 + 2, none⟩ = some (.string (mkText ((K : Int) + 1 + 1))) := (hb1.cell (p := ⟨g, i * 5 + 2, none⟩) hgl).trans c2)
        all_goals
          go_wp2_with fail
          go_meet
          exact ⟨rfl, (below_drewN (Below.refl _ _) 1).trans (hb1.mono (Nat.le_refl _))⟩
      case rest =>
        obtain ⟨rfl, hby⟩ := hcut
        have HBy := hidd hby
        have c3 := (HC.out wc hby).1
        have hgl2 : g < wc.heap.size := Nat.lt_of_lt_of_le hgl hby.size
        clear hby c0 c1 c2 HMT2
        go_upto_region 13 with fail
        go_cut [48] (fun cv wy => cv = .bool false ∧ Below wr.heap.size wr wy)
        case first =>
          go_region_with (go_at_call 15; refine (HMT3.out _).mono ?_; rintro e' w1 ⟨rfl, hb1⟩; have c3' : w1.cell? ⟨g, i * 5 + 3, none⟩ = some (.string (mkText ((K : Int) + 1 + 1 + 1))) := (hb1.cell (p := ⟨g, i * 5 + 3, none⟩) hgl2).trans c3)
          all_goals
            go_wp2_with fail
            go_meet
            exact ⟨rfl, HBy.out.trans (((below_drewN (Below.refl _ _) 1).trans (hb1.mono (Nat.le_refl _))).mono HBy.out.size)⟩
        case rest =>
          obtain ⟨rfl, hby⟩ := hcut
          have HB2 := hidd hby
          have c4 := (HC.out wc hby).2
          clear hby c3 HMT3
          go_wp2_with fail
          refine (HHV.out _ HB2.out).mono ?_
          rintro e w3 ⟨rfl, hb3⟩
          have HB3 := hidd (HB0.out.trans ((HB2.out.trans (hb3.mono HB2.out.size)).mono HB0.out.size))
          clear hb3 HHV c4
          dsimp only
          go_wp2_with fail
          go_roundw
          case rel => exact ⟨i + 1, by omega, by rw [HKn.out], by go_num, HB3.out⟩
          case measure => simp [intOf]; omega
    · have hltz : ¬ (i : Int) < (L.length : Int) := by omega
      obtain rfl : i = L.length := by omega
      obtain ⟨K, hK⟩ : ∃ K, kL L k L.length = K := ⟨_, rfl⟩
      try rw [hK]
      have HKe := hidd hK
      clear hK
      go_wp2_with fail
      go_ret
      rw [HKe.out]
      exact ⟨rfl, HB0.out⟩
set_option maxHeartbeats 2000000 in
theorem markRecs_zero (a : Option Addr) (c : Nat) (k : Int) (w : World) : Calls Tryd.prog 10 #[.slice a 0 c, .int .i64 k] w fun e w' => e = .returned (.int .i64 k) ∧ w' = w := by
  go_enter Tryd.func10, Tryd.ntmps10
  go_wp2_with fail
  go_loopw [1, 5] (fun kv iv wr => kv = .int .i64 k ∧ iv = .int .i64 0 ∧ wr = w) (fun _ iv _ => 0)
  case atStart => exact ⟨rfl, rfl, rfl⟩
  case round =>
    obtain ⟨rfl, rfl, hw⟩ := hrel
    obtain rfl := hw.symm
    go_wp2_with fail
    go_ret
    exact ⟨rfl, rfl⟩
set_option maxHeartbeats 2000000 in
theorem heldRecs_zero (a : Option Addr) (c : Nat) (k : Int) (w : World) : Calls Tryd.prog 11 #[.slice a 0 c, .int .i64 k] w fun e w' => e = .returned (.int .i64 k) ∧ w' = w := by
  go_enter Tryd.func11, Tryd.ntmps11
  go_wp2_with fail
  go_loopw [1, 5] (fun kv iv wr => kv = .int .i64 k ∧ iv = .int .i64 0 ∧ wr = w) (fun _ iv _ => 0)
  case atStart => exact ⟨rfl, rfl, rfl⟩
  case round =>
    obtain ⟨rfl, rfl, hw⟩ := hrel
    obtain rfl := hw.symm
    go_wp2_with fail
    go_ret
    exact ⟨rfl, rfl⟩
end Go.Proofs.YtefhmbnhhkgifaaDoor
