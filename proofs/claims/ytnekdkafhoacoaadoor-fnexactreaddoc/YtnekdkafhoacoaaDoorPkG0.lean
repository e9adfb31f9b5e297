import Derived.Test.YtnekdkafhoacoaaDoorPkC
namespace Go.Proofs.YtnekdkafhoacoaaDoor
open Go Go.RowKit
set_option linter.unusedVariables false
set_option maxHeartbeats 1000000 in
/-- spec's l03Get at a place: what stands there. -/
theorem specGet_any (b off cap k : Nat) (bs : List UInt8) (w : World) (hl : bs.length ≤ 1048576) (hk : k ≤ bs.length) (hc : BytesAt w b off bs) :
    Calls Tryd.prog 70 #[.slice (some ⟨b, off, none⟩) bs.length cap, .int .i64 (k : Int)] w fun e w' => (∃ m, w' = w.drewN m) ∧
      ((getL (bs.drop k) = none ∧ ∃ x y : Int, e = .returned (.tuple #[.int .i64 x, .int .i64 y, .bool false])) ∨ ∃ v s, getL (bs.drop k) = some (v, s) ∧ e = .returned (.tuple #[.int .i64 (v : Int), .int .i64 ((k : Int) + (s : Int)), .bool true])) := by
  have Hc := hidd hc
  clear hc
  go_enter Tryd.func70, Tryd.ntmps70
  go_wp2
  go_loop [7, 8, 9] (fun vv uu nn => ∃ j y U : Nat, j ≤ 8 ∧ k + j ≤ bs.length ∧ nn = .int .i64 j ∧ vv = .int .i64 (y : Int) ∧ uu = .int .i64 (U : Int) ∧ U = 128 ^ j ∧ y < 128 ^ j ∧ getL (bs.drop k) = getGo (bs.drop (k + j)) j y) (fun _ _ nn => 9 - (intOf nn).toNat)
  case atStart => exact ⟨0, 0, 1, by omega, by omega, rfl, rfl, rfl, rfl, by omega, rfl⟩
  case round =>
    obtain ⟨j, y, U, hj, hkj, rfl, rfl, rfl, hU, hy, hget⟩ := hrel
    have hU8 : U ≤ 72057594037927936 := by rw [hU]; have := Nat.pow_le_pow_right (n := 128) (by omega) hj; omega
    have hyU : y < U := by omega
    have HG := hidd hget
    have HU := hidd hU
    clear hget hU hy
    have hj9 : (j : Int) < 9 := by omega
    by_cases hlt : k + j < bs.length
    · have hlz : (k : Int) + (j : Int) < (bs.length : Int) := by omega
      have g1 := Hc.out (k + j) hlt
      have hc256 : (bs.getD (k + j) 0).toNat < 256 := UInt8.toNat_lt _
      have Hd : Hid (bs.drop (k + j) = bs.getD (k + j) 0 :: bs.drop (k + j + 1)) := by show _ = _; rw [List.drop_eq_getElem_cons hlt]; simp [hlt]
      generalize hcc : bs.getD (k + j) 0 = cb at *
      clear hcc
      obtain ⟨T, hT⟩ : ∃ T : Nat, T = cb.toNat % 128 * U := ⟨_, rfl⟩
      have hTle : T ≤ 127 * U := by rw [hT]; exact Nat.mul_le_mul_right _ (by omega)
      have hTz : (cb.toNat : Int) % 128 * (U : Int) = (T : Int) := by rw [hT]; simp
      have HT := hidd hT
      clear hT
      by_cases h8 : j = 8 ∧ 63 < cb.toNat
      · obtain ⟨h8, h63⟩ := h8
        have hb8 : ((j : Int) == 8) = true := by simp; omega
        have h63z : (63 : Int) < (cb.toNat : Int) := by omega
        have HN : Hid (getL (bs.drop k) = none) := by show _ = _; rw [HG.out, Hd.out, getGo, if_pos (Or.inr ⟨h8, h63⟩)]
        clear h8
        go_wp2
        go_ret3
        exact ⟨⟨0, rfl⟩, Or.inl ⟨HN.out, _, _, rfl⟩⟩
      · have HS : Hid (cb.toNat < 128 → (j = 0 ∨ 0 < cb.toNat) → getL (bs.drop k) = some (y + T, j + 1)) := by
          intro h1 h2
          rw [HG.out, Hd.out, getGo, if_neg (by omega), if_pos h1, if_pos h2, HT.out, HU.out]
        have HN : Hid (cb.toNat < 128 → ¬ (j = 0 ∨ 0 < cb.toNat) → getL (bs.drop k) = none) := by
          intro h1 h2
          rw [HG.out, Hd.out, getGo, if_neg (by omega), if_pos h1, if_neg h2]
        have HX : Hid (¬ cb.toNat < 128 → getL (bs.drop k) = getGo (bs.drop (k + (j + 1))) (j + 1) (y + T)) := by
          intro h1
          rw [HG.out, Hd.out, getGo, if_neg (by omega), if_neg h1, HT.out, HU.out, Nat.add_assoc]
        have Hn8 : Hid (¬ (j = 8 ∧ 63 < cb.toNat)) := h8
        clear h8 Hd HG
        by_cases hj8 : j = 8
        · have h63 : cb.toNat ≤ 63 := by have := Hn8.out; omega
          have hb8 : ((j : Int) == 8) = true := by simp; omega
          have hcz : ¬ (63 : Int) < (cb.toNat : Int) := by omega
          have hc128 : (cb.toNat : Int) < 128 := by omega
          have hb0 : ((j : Int) == 0) = false := by simp; omega
          have hTle' : T ≤ 63 * U := by rw [HT.out]; exact Nat.mul_le_mul_right _ (by omega)
          by_cases hc0 : 0 < cb.toNat
          · have hc0z : (0 : Int) < (cb.toNat : Int) := by omega
            have HE := hidd (HS.out (by omega) (Or.inr hc0))
            clear hj8
            go_wp2
            go_ret3
            refine ⟨⟨0, rfl⟩, Or.inr ⟨y + T, _, HE.out, ?_⟩⟩
            congr 3
            try (simp; try omega)
          · have hc0z : ¬ (0 : Int) < (cb.toNat : Int) := by omega
            have HE := hidd (HN.out (by omega) (by omega))
            clear hj8
            go_wp2
            go_ret3
            exact ⟨⟨0, rfl⟩, Or.inl ⟨HE.out, _, _, rfl⟩⟩
        · have hb8 : ((j : Int) == 8) = false := by simp; omega
          by_cases hc128 : cb.toNat < 128
          · have hc128z : (cb.toNat : Int) < 128 := by omega
            by_cases hj0 : j = 0
            · have HE := hidd (HS.out hc128 (Or.inl hj0))
              have hb0 : ((j : Int) == 0) = true := by simp; omega
              clear hj0
              go_wp2
              go_ret3
              refine ⟨⟨0, rfl⟩, Or.inr ⟨y + T, _, HE.out, ?_⟩⟩
              congr 3
              try (simp; try omega)
            · have hb0 : ((j : Int) == 0) = false := by simp; omega
              by_cases hc0 : 0 < cb.toNat
              · have hc0z : (0 : Int) < (cb.toNat : Int) := by omega
                have HE := hidd (HS.out (by omega) (Or.inr hc0))
                go_wp2
                go_ret3
                refine ⟨⟨0, rfl⟩, Or.inr ⟨y + T, _, HE.out, ?_⟩⟩
                congr 3
                try (simp; try omega)
              · have hc0z : ¬ (0 : Int) < (cb.toNat : Int) := by omega
                have HE := hidd (HN.out (by omega) (by omega))
                go_wp2
                go_ret3
                exact ⟨⟨0, rfl⟩, Or.inl ⟨HE.out, _, _, rfl⟩⟩
          · have hc128z : ¬ (cb.toNat : Int) < 128 := by omega
            have hjlt : (j : Int) < 8 := by omega
            have hU7 : U ≤ 562949953421312 := by rw [HU.out]; have := Nat.pow_le_pow_right (n := 128) (i := j) (j := 7) (by omega) (by omega); omega
            have HE := hidd (HX.out hc128)
            go_wp2
            go_round
            case rel =>
              refine ⟨j + 1, y + T, U * 128, by omega, by omega, by go_num, by go_num, by go_num, by rw [HU.out, Nat.pow_succ], ?_, HE.out⟩
              rw [Nat.pow_succ, ← HU.out]; omega
            case measure => simp [intOf]; omega
    · have hlz : ¬ (k : Int) + (j : Int) < (bs.length : Int) := by omega
      have HN : Hid (getL (bs.drop k) = none) := by show _ = _; rw [HG.out, List.drop_of_length_le (by omega)]; rfl
      go_wp2
      go_ret3
      exact ⟨⟨0, rfl⟩, Or.inl ⟨HN.out, _, _, rfl⟩⟩
end Go.Proofs.YtnekdkafhoacoaaDoor
