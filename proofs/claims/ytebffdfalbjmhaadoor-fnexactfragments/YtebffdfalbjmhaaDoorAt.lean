import Derived.Test.YtebffdfalbjmhaaDoorLeafS
import Derived.Test.YtebffdfalbjmhaaDoorAid
import Derived.Test.YtebffdfalbjmhaaDoorUtf
namespace Go.Proofs.YtebffdfalbjmhaaDoor
open Go Go.RowKit
set_option linter.unusedVariables false

theorem runes_len (r : Int) (h : chr r = true) : ((Lib.runeCells r).length : Int) = if r < 128 then 1 else if r < 2048 then 2 else if r < 65536 then 3 else 4 := by
  rw [chr_iff] at h
  unfold Lib.runeCells
  rw [List.length_map]
  by_cases h1 : r < 128
  · rw [Lib.encodeRuneZ_one h.1 (by omega), if_pos h1]; rfl
  · by_cases h2 : r < 2048
    · rw [Lib.encodeRuneZ_two (by omega) (by omega), if_neg h1, if_pos h2]; rfl
    · by_cases h3 : r < 65536
      · rw [Lib.encodeRuneZ_three (by omega), if_neg h1, if_neg h2, if_pos h3]; rfl
      · rw [Lib.encodeRuneZ_four (by omega) (by omega), if_neg h1, if_neg h2, if_neg h3]; rfl

set_option maxHeartbeats 400000 in
set_option maxRecDepth 100000 in
theorem at_walk1 (s : ByteArray) (p : Nat) (w : World) (hs : s.size ≤ 1048576) (hp : p < s.size) (h : byteAt s p < 128) :
    Calls Tryd.prog 24 #[.string s, .int .i64 p] w fun e w' => e = .returned (.tuple #[.int .i64 (atC s p), .int .i64 (atW s p)]) ∧ Below w.heap.size w w' := by
  have HA := hidd (at_1 s p h)
  have Hb := hidd (byteAt_get s p hp)
  rw [← Hb.out] at h
  go_enter Tryd.func24, Tryd.ntmps24
  go_wp2
  go_ret2
  rw [HA.out.1, HA.out.2, ← Hb.out]
  exact ⟨rfl, Below.refl _ _⟩

set_option maxHeartbeats 400000 in
set_option maxRecDepth 100000 in
theorem at_walk0 (s : ByteArray) (p : Nat) (w : World) (hs : s.size ≤ 1048576) (hp : p < s.size) (h : 128 ≤ byteAt s p) (h2 : byteAt s p < 192) :
    Calls Tryd.prog 24 #[.string s, .int .i64 p] w fun e w' => e = .returned (.tuple #[.int .i64 (atC s p), .int .i64 (atW s p)]) ∧ Below w.heap.size w w' := by
  have HA := hidd (at_low s p h h2)
  have Hb := hidd (byteAt_get s p hp)
  rw [← Hb.out] at h h2
  go_enter Tryd.func24, Tryd.ntmps24
  go_wp2
  go_ret2
  rw [HA.out.1, HA.out.2]
  exact ⟨rfl, Below.refl _ _⟩

set_option maxHeartbeats 2000000 in
set_option maxRecDepth 100000 in
theorem at_walk2 (s : ByteArray) (p : Nat) (w : World) (hs : s.size ≤ 1048576) (hp : p < s.size) (h : 192 ≤ byteAt s p) (h2 : byteAt s p < 224) :
    Calls Tryd.prog 24 #[.string s, .int .i64 p] w fun e w' => e = .returned (.tuple #[.int .i64 (atC s p), .int .i64 (atW s p)]) ∧ Below w.heap.size w w' := by
  have bd := byteAt_bd s p
  have Hb := hidd (byteAt_get s p hp)
  by_cases hsz : s.size < p + 2
  · have HA := hidd (at_cut s p 2 (Or.inl ⟨rfl, h, h2⟩) (Or.inl hsz))
    have hszz : (s.size : Int) < (p : Int) + 2 := by omega
    rw [← Hb.out] at h h2 bd
    go_enter Tryd.func24, Tryd.ntmps24
    go_wp2
    go_ret2
    rw [HA.out.1, HA.out.2]
    exact ⟨rfl, Below.refl _ _⟩
  · have hszz : ¬ (s.size : Int) < (p : Int) + 2 := by omega
    have Hcut := hidd (fun hb => at_cut s p 2 (Or.inl ⟨rfl, h, h2⟩) (Or.inr hb))
    have Hend := hidd (fun hc => at_2 s p h h2 (by omega) hc)
    generalize hv0 : byteAt s p - 192 = v0 at Hend
    have Hv0 := hidd hv0
    have hv0l : 0 ≤ v0 := by omega
    have hv0h : v0 ≤ 31 := by omega
    have Hv1 : Hid (((s[p]'hp).toNat : Int) - 192 = v0) := by show _ = _; rw [Hb.out]; exact hv0
    rw [← Hb.out] at h h2 bd
    clear hv0
    go_enter Tryd.func24, Tryd.ntmps24
    go_wp2
    rw [Hv1.out]
    go_loop [8, 9] (fun v i => ∃ k : Nat, 1 ≤ k ∧ k ≤ 2 ∧ i = .int .i64 k ∧ v = .int .i64 (vAt s p v0 k) ∧ contTo s p k) (fun _ i => 2 - (intOf i).toNat)
    case atStart => exact ⟨1, by omega, by omega, rfl, rfl, contTo_one s p⟩
    case round =>
      obtain ⟨k, hk1, hk, rfl, rfl, hcont⟩ := hrel
      have vb := vAt_bd s p v0 hv0l hv0h k hk1 (by omega) hcont
      have HC := hidd hcont
      clear hcont
      by_cases hlt : k < 2
      · have hpk : p + k < s.size := by omega
        have Hk := hidd (byteAt_get s (p + k) hpk)
        have bdk := byteAt_bd s (p + k)
        have hpkz : (p : Int) + (k : Int) < (s.size : Int) := by omega
        by_cases hc1 : byteAt s (p + k) < 128
        · have HA := hidd (Hcut.out ⟨k, hk1, hlt, Or.inl hc1⟩)
          rw [← Hk.out] at hc1 bdk
          go_wp2
          go_ret2
          rw [HA.out.1, HA.out.2]
          exact ⟨rfl, Below.refl _ _⟩
        · by_cases hc2 : 191 < byteAt s (p + k)
          · have HA := hidd (Hcut.out ⟨k, hk1, hlt, Or.inr hc2⟩)
            rw [← Hk.out] at hc1 hc2 bdk
            go_wp2
            go_ret2
            rw [HA.out.1, HA.out.2]
            exact ⟨rfl, Below.refl _ _⟩
          · have HS := hidd (vAt_step s p v0 k hk1)
            have HC2 := hidd (contTo_step s p k HC.out (by omega) (by omega))
            rw [← Hk.out] at hc1 hc2 bdk
            go_wp2
            go_round
            case rel => exact ⟨k + 1, by omega, by omega, by go_num, by rw [HS.out, Hk.out], HC2.out⟩
            case measure => simp [intOf]; omega
      · obtain rfl : k = 2 := by omega
        have He := hidd (Hend.out HC.out)
        have HVU := hidd (vAt2_lt s p v0 hv0h HC.out)
        generalize vAt s p v0 2 = v at He vb HVU
        by_cases hch : chr v = true
        · have hrl := hidd (runes_len v hch)
          by_cases hv : 128 ≤ v
          · have HA := hidd (He.out.1 hv)
            have hvu : v < 2048 := HVU.out
            have hlen : (((Lib.runeCells v).length : Int) != 2) = false := by rw [hrl.out, if_neg (by omega), if_pos (by omega)]; rfl
            go_wp2_with fail
            refine (charOK_any _ _).mono ?_
            rintro e w1 ⟨rfl, rfl⟩
            go_wp2_with fail
            refine (bytes_any v _ hch).mono ?_
            rintro e w1 ⟨rfl, rfl⟩
            go_wp2
            go_ret2
            rw [HA.out.1, HA.out.2]
            exact ⟨rfl, (Below.refl _ _).alloc (Nat.le_refl _) _⟩
          · have HA := hidd (He.out.2 (by omega))
            have hlen : (((Lib.runeCells v).length : Int) != 2) = true := by
              rw [bne_iff_ne, hrl.out]
              repeat' split
              all_goals omega
            go_wp2_with fail
            refine (charOK_any _ _).mono ?_
            rintro e w1 ⟨rfl, rfl⟩
            go_wp2_with fail
            refine (bytes_any v _ hch).mono ?_
            rintro e w1 ⟨rfl, rfl⟩
            go_wp2
            go_ret2
            rw [HA.out.1, HA.out.2]
            exact ⟨rfl, (Below.refl _ _).alloc (Nat.le_refl _) _⟩
        · have hch' : chr v = false := by simpa using hch
          exact absurd ((chr_iff v).2 (by have := HVU.out; omega)) hch


set_option maxHeartbeats 2000000 in
set_option maxRecDepth 100000 in
theorem at_walk3 (s : ByteArray) (p : Nat) (w : World) (hs : s.size ≤ 1048576) (hp : p < s.size) (h : 224 ≤ byteAt s p) (h2 : byteAt s p < 240) :
    Calls Tryd.prog 24 #[.string s, .int .i64 p] w fun e w' => e = .returned (.tuple #[.int .i64 (atC s p), .int .i64 (atW s p)]) ∧ Below w.heap.size w w' := by
  have bd := byteAt_bd s p
  have Hb := hidd (byteAt_get s p hp)
  by_cases hsz : s.size < p + 3
  · have HA := hidd (at_cut s p 3 (Or.inr (Or.inl ⟨rfl, h, h2⟩)) (Or.inl hsz))
    have hszz : (s.size : Int) < (p : Int) + 3 := by omega
    rw [← Hb.out] at h h2 bd
    go_enter Tryd.func24, Tryd.ntmps24
    go_wp2
    go_ret2
    rw [HA.out.1, HA.out.2]
    exact ⟨rfl, Below.refl _ _⟩
  · have hszz : ¬ (s.size : Int) < (p : Int) + 3 := by omega
    have Hcut := hidd (fun hb => at_cut s p 3 (Or.inr (Or.inl ⟨rfl, h, h2⟩)) (Or.inr hb))
    have Hend := hidd (fun hc => at_3 s p h h2 (by omega) hc)
    generalize hv0 : byteAt s p - 224 = v0 at Hend
    have Hv0 := hidd hv0
    have hv0l : 0 ≤ v0 := by omega
    have hv0h : v0 ≤ 31 := by omega
    have Hv1 : Hid (((s[p]'hp).toNat : Int) - 224 = v0) := by show _ = _; rw [Hb.out]; exact hv0
    rw [← Hb.out] at h h2 bd
    clear hv0
    go_enter Tryd.func24, Tryd.ntmps24
    go_wp2
    rw [Hv1.out]
    go_loop [8, 9] (fun v i => ∃ k : Nat, 1 ≤ k ∧ k ≤ 3 ∧ i = .int .i64 k ∧ v = .int .i64 (vAt s p v0 k) ∧ contTo s p k) (fun _ i => 3 - (intOf i).toNat)
    case atStart => exact ⟨1, by omega, by omega, rfl, rfl, contTo_one s p⟩
    case round =>
      obtain ⟨k, hk1, hk, rfl, rfl, hcont⟩ := hrel
      have vb := vAt_bd s p v0 hv0l hv0h k hk1 (by omega) hcont
      have HC := hidd hcont
      clear hcont
      by_cases hlt : k < 3
      · have hpk : p + k < s.size := by omega
        have Hk := hidd (byteAt_get s (p + k) hpk)
        have bdk := byteAt_bd s (p + k)
        have hpkz : (p : Int) + (k : Int) < (s.size : Int) := by omega
        by_cases hc1 : byteAt s (p + k) < 128
        · have HA := hidd (Hcut.out ⟨k, hk1, hlt, Or.inl hc1⟩)
          rw [← Hk.out] at hc1 bdk
          go_wp2
          go_ret2
          rw [HA.out.1, HA.out.2]
          exact ⟨rfl, Below.refl _ _⟩
        · by_cases hc2 : 191 < byteAt s (p + k)
          · have HA := hidd (Hcut.out ⟨k, hk1, hlt, Or.inr hc2⟩)
            rw [← Hk.out] at hc1 hc2 bdk
            go_wp2
            go_ret2
            rw [HA.out.1, HA.out.2]
            exact ⟨rfl, Below.refl _ _⟩
          · have HS := hidd (vAt_step s p v0 k hk1)
            have HC2 := hidd (contTo_step s p k HC.out (by omega) (by omega))
            rw [← Hk.out] at hc1 hc2 bdk
            go_wp2
            go_round
            case rel => exact ⟨k + 1, by omega, by omega, by go_num, by rw [HS.out, Hk.out], HC2.out⟩
            case measure => simp [intOf]; omega
      · obtain rfl : k = 3 := by omega
        have He := hidd (Hend.out HC.out)
        have HVU := hidd (vAt3_lt s p v0 (by have := Hv1.out; omega) HC.out)
        generalize vAt s p v0 3 = v at He vb HVU
        by_cases hch : chr v = true
        · have hrl := hidd (runes_len v hch)
          by_cases hv : 2048 ≤ v
          · have HA := hidd (He.out.1 ⟨hv, hch⟩)
            have hvu : v < 65536 := HVU.out
            have hlen : (((Lib.runeCells v).length : Int) != 3) = false := by rw [hrl.out, if_neg (by omega), if_neg (by omega), if_pos (by omega)]; rfl
            go_wp2_with fail
            refine (charOK_any _ _).mono ?_
            rintro e w1 ⟨rfl, rfl⟩
            go_wp2_with fail
            refine (bytes_any v _ hch).mono ?_
            rintro e w1 ⟨rfl, rfl⟩
            go_wp2
            go_ret2
            rw [HA.out.1, HA.out.2]
            exact ⟨rfl, (Below.refl _ _).alloc (Nat.le_refl _) _⟩
          · have HA := hidd (He.out.2 (fun hh => hv hh.1))
            have hlen : (((Lib.runeCells v).length : Int) != 3) = true := by
              rw [bne_iff_ne, hrl.out]
              repeat' split
              all_goals omega
            go_wp2_with fail
            refine (charOK_any _ _).mono ?_
            rintro e w1 ⟨rfl, rfl⟩
            go_wp2_with fail
            refine (bytes_any v _ hch).mono ?_
            rintro e w1 ⟨rfl, rfl⟩
            go_wp2
            go_ret2
            rw [HA.out.1, HA.out.2]
            exact ⟨rfl, (Below.refl _ _).alloc (Nat.le_refl _) _⟩
        · have hch' : chr v = false := by simpa using hch
          have HA := hidd (He.out.2 (fun hh => hch hh.2))
          clear hch
          go_wp2_with fail
          refine (charOK_any _ _).mono ?_
          rintro e w1 ⟨rfl, rfl⟩
          go_wp2
          go_ret2
          rw [HA.out.1, HA.out.2]
          exact ⟨rfl, Below.refl _ _⟩


set_option maxHeartbeats 2000000 in
set_option maxRecDepth 100000 in
theorem at_walk4 (s : ByteArray) (p : Nat) (w : World) (hs : s.size ≤ 1048576) (hp : p < s.size) (h : 240 ≤ byteAt s p) :
    Calls Tryd.prog 24 #[.string s, .int .i64 p] w fun e w' => e = .returned (.tuple #[.int .i64 (atC s p), .int .i64 (atW s p)]) ∧ Below w.heap.size w w' := by
  have bd := byteAt_bd s p
  have Hb := hidd (byteAt_get s p hp)
  by_cases hsz : s.size < p + 4
  · have HA := hidd (at_cut s p 4 (Or.inr (Or.inr ⟨rfl, h⟩)) (Or.inl hsz))
    have hszz : (s.size : Int) < (p : Int) + 4 := by omega
    rw [← Hb.out] at h bd
    go_enter Tryd.func24, Tryd.ntmps24
    go_wp2
    go_ret2
    rw [HA.out.1, HA.out.2]
    exact ⟨rfl, Below.refl _ _⟩
  · have hszz : ¬ (s.size : Int) < (p : Int) + 4 := by omega
    have Hcut := hidd (fun hb => at_cut s p 4 (Or.inr (Or.inr ⟨rfl, h⟩)) (Or.inr hb))
    have Hend := hidd (fun hc => at_4 s p h (by omega) hc)
    generalize hv0 : byteAt s p - 240 = v0 at Hend
    have Hv0 := hidd hv0
    have hv0l : 0 ≤ v0 := by omega
    have hv0h : v0 ≤ 31 := by omega
    have Hv1 : Hid (((s[p]'hp).toNat : Int) - 240 = v0) := by show _ = _; rw [Hb.out]; exact hv0
    rw [← Hb.out] at h bd
    clear hv0
    go_enter Tryd.func24, Tryd.ntmps24
    go_wp2
    rw [Hv1.out]
    go_loop [8, 9] (fun v i => ∃ k : Nat, 1 ≤ k ∧ k ≤ 4 ∧ i = .int .i64 k ∧ v = .int .i64 (vAt s p v0 k) ∧ contTo s p k) (fun _ i => 4 - (intOf i).toNat)
    case atStart => exact ⟨1, by omega, by omega, rfl, rfl, contTo_one s p⟩
    case round =>
      obtain ⟨k, hk1, hk, rfl, rfl, hcont⟩ := hrel
      have vb := vAt_bd s p v0 hv0l hv0h k hk1 (by omega) hcont
      have HC := hidd hcont
      clear hcont
      by_cases hlt : k < 4
      · have hpk : p + k < s.size := by omega
        have Hk := hidd (byteAt_get s (p + k) hpk)
        have bdk := byteAt_bd s (p + k)
        have hpkz : (p : Int) + (k : Int) < (s.size : Int) := by omega
        by_cases hc1 : byteAt s (p + k) < 128
        · have HA := hidd (Hcut.out ⟨k, hk1, hlt, Or.inl hc1⟩)
          rw [← Hk.out] at hc1 bdk
          go_wp2
          go_ret2
          rw [HA.out.1, HA.out.2]
          exact ⟨rfl, Below.refl _ _⟩
        · by_cases hc2 : 191 < byteAt s (p + k)
          · have HA := hidd (Hcut.out ⟨k, hk1, hlt, Or.inr hc2⟩)
            rw [← Hk.out] at hc1 hc2 bdk
            go_wp2
            go_ret2
            rw [HA.out.1, HA.out.2]
            exact ⟨rfl, Below.refl _ _⟩
          · have HS := hidd (vAt_step s p v0 k hk1)
            have HC2 := hidd (contTo_step s p k HC.out (by omega) (by omega))
            rw [← Hk.out] at hc1 hc2 bdk
            go_wp2
            go_round
            case rel => exact ⟨k + 1, by omega, by omega, by go_num, by rw [HS.out, Hk.out], HC2.out⟩
            case measure => simp [intOf]; omega
      · obtain rfl : k = 4 := by omega
        have He := hidd (Hend.out HC.out)
        skip
        generalize vAt s p v0 4 = v at He vb
        by_cases hch : chr v = true
        · have hrl := hidd (runes_len v hch)
          by_cases hv : 65536 ≤ v
          · have HA := hidd (He.out.1 ⟨hv, hch⟩)
            skip
            have hlen : (((Lib.runeCells v).length : Int) != 4) = false := by rw [hrl.out, if_neg (by omega), if_neg (by omega), if_neg (by omega)]; rfl
            go_wp2_with fail
            refine (charOK_any _ _).mono ?_
            rintro e w1 ⟨rfl, rfl⟩
            go_wp2_with fail
            refine (bytes_any v _ hch).mono ?_
            rintro e w1 ⟨rfl, rfl⟩
            go_wp2
            go_ret2
            rw [HA.out.1, HA.out.2]
            exact ⟨rfl, (Below.refl _ _).alloc (Nat.le_refl _) _⟩
          · have HA := hidd (He.out.2 (fun hh => hv hh.1))
            have hlen : (((Lib.runeCells v).length : Int) != 4) = true := by
              rw [bne_iff_ne, hrl.out]
              repeat' split
              all_goals omega
            go_wp2_with fail
            refine (charOK_any _ _).mono ?_
            rintro e w1 ⟨rfl, rfl⟩
            go_wp2_with fail
            refine (bytes_any v _ hch).mono ?_
            rintro e w1 ⟨rfl, rfl⟩
            go_wp2
            go_ret2
            rw [HA.out.1, HA.out.2]
            exact ⟨rfl, (Below.refl _ _).alloc (Nat.le_refl _) _⟩
        · have hch' : chr v = false := by simpa using hch
          have HA := hidd (He.out.2 (fun hh => hch hh.2))
          clear hch
          go_wp2_with fail
          refine (charOK_any _ _).mono ?_
          rintro e w1 ⟨rfl, rfl⟩
          go_wp2
          go_ret2
          rw [HA.out.1, HA.out.2]
          exact ⟨rfl, Below.refl _ _⟩


theorem at_any (s : ByteArray) (p : Nat) (w : World) (hs : s.size ≤ 1048576) (hp : p < s.size) :
    Calls Tryd.prog 24 #[.string s, .int .i64 p] w fun e w' => e = .returned (.tuple #[.int .i64 (atC s p), .int .i64 (atW s p)]) ∧ Below w.heap.size w w' := by
  by_cases h1 : byteAt s p < 128
  · exact at_walk1 s p w hs hp h1
  by_cases h2 : byteAt s p < 192
  · exact at_walk0 s p w hs hp (by omega) h2
  by_cases h3 : byteAt s p < 224
  · exact at_walk2 s p w hs hp (by omega) h3
  by_cases h4 : byteAt s p < 240
  · exact at_walk3 s p w hs hp (by omega) h4
  · exact at_walk4 s p w hs hp (by omega)
end Go.Proofs.YtebffdfalbjmhaaDoor
