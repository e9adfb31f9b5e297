import Derived.Test.YtgoklapafidpkaaGreatDoorTermsJ12
import Derived.Test.YtgoklapafidpkaaGreatDoorTermsJ00
import Derived.Test.YtgoklapafidpkaaGreatDoorTermsJ03
import Derived.Test.YtgoklapafidpkaaGreatDoorTermsJ05
import Derived.Test.YtgoklapafidpkaaGreatDoorProg
import Derived.Test.YtgoklapafidpkaaGreatDoorTermsJ01
import Derived.WalkLawsBesides
import Derived.Deep.QuietTactic
import Derived.BigQuiet
import Derived.Deep.DeepCutAuto
namespace Go.Proofs.YtgoklapafidpkaaGreatDoor
open Go Go.RowKit
set_option linter.unusedVariables false

theorem runes_len (r : Int) (h : chr r = true) : ((Lib.runeCells r).length : Int) = if r < 128 then 1 else if r < 2048 then 2 else if r < 65536 then 3 else 4 := by
  rw [chr_iff] at h
  unfold Lib.runeCells
  rw [List.length_map]
  by_cases h1 : r < 128
  · rw [Lib.encodeRuneZ_one h.1 (by omega), if_pos h1]; rfl
  · by_cases h2 : r < 2048
    · rw [Lib.encodeRuneZ_two (by omega) (by omega), if_neg h1, if_pos h2]; rfl
    · by_cases h3 : r < 65536
      · rw [Lib.encodeRuneZ_three (by omega), if_neg h1, if_neg h2, if_pos h3]; rfl
      · rw [Lib.encodeRuneZ_four (by omega) (by omega), if_neg h1, if_neg h2, if_neg h3]; rfl
set_option maxHeartbeats 400000 in
set_option maxRecDepth 100000 in
theorem at_walk1 (s : ByteArray) (p : Nat) (w : World) (hs : s.size ≤ 1048576) (hp : p < s.size) (h : byteAt s p < 128) :
    Calls Tryz.prog 134 #[.string s, .int .i64 p] w fun e w' => e = .returned (.tuple #[.int .i64 (atC s p), .int .i64 (atW s p)]) ∧ Below w.heap.size w w' := by
  have HA := hidd (at_1 s p h)
  have Hb := hidd (byteAt_get s p hp)
  rw [← Hb.out] at h
  go_enter Tryz.func134, Tryz.ntmps134
  go_wp2
  go_ret2
  rw [HA.out.1, HA.out.2, ← Hb.out]
  exact ⟨rfl, Below.refl _ _⟩
set_option maxHeartbeats 400000 in
set_option maxRecDepth 100000 in
theorem at_walk0 (s : ByteArray) (p : Nat) (w : World) (hs : s.size ≤ 1048576) (hp : p < s.size) (h : 128 ≤ byteAt s p) (h2 : byteAt s p < 192) :
    Calls Tryz.prog 134 #[.string s, .int .i64 p] w fun e w' => e = .returned (.tuple #[.int .i64 (atC s p), .int .i64 (atW s p)]) ∧ Below w.heap.size w w' := by
  have HA := hidd (at_low s p h h2)
  have Hb := hidd (byteAt_get s p hp)
  rw [← Hb.out] at h h2
  go_enter Tryz.func134, Tryz.ntmps134
  go_wp2
  go_ret2
  rw [HA.out.1, HA.out.2]
  exact ⟨rfl, Below.refl _ _⟩
set_option maxHeartbeats 2000000 in
set_option maxRecDepth 100000 in
theorem at_walk2 (s : ByteArray) (p : Nat) (w : World) (hs : s.size ≤ 1048576) (hp : p < s.size) (h : 192 ≤ byteAt s p) (h2 : byteAt s p < 224) :
    Calls Tryz.prog 134 #[.string s, .int .i64 p] w fun e w' => e = .returned (.tuple #[.int .i64 (atC s p), .int .i64 (atW s p)]) ∧ Below w.heap.size w w' := by
  have bd := byteAt_bd s p
  have Hb := hidd (byteAt_get s p hp)
  by_cases hsz : s.size < p + 2
  · have HA := hidd (at_cut s p 2 (Or.inl ⟨rfl, h, h2⟩) (Or.inl hsz))
    have hszz : (s.size : Int) < (p : Int) + 2 := by omega
    rw [← Hb.out] at h h2 bd
    go_enter Tryz.func134, Tryz.ntmps134
    go_wp2
    go_ret2
    rw [HA.out.1, HA.out.2]
    exact ⟨rfl, Below.refl _ _⟩
  · have hszz : ¬ (s.size : Int) < (p : Int) + 2 := by omega
    have Hcut := hidd (fun hb => at_cut s p 2 (Or.inl ⟨rfl, h, h2⟩) (Or.inr hb))
    have Hend := hidd (fun hc => at_2 s p h h2 (by omega) hc)
    generalize hv0 : byteAt s p - 192 = v0 at Hend
    have Hv0 := hidd hv0
    have hv0l : 0 ≤ v0 := by omega
    have hv0h : v0 ≤ 31 := by omega
    have Hv1 : Hid (((s[p]'hp).toNat : Int) - 192 = v0) := by show _ = _; rw [Hb.out]; exact hv0
    rw [← Hb.out] at h h2 bd
    clear hv0
    go_enter Tryz.func134, Tryz.ntmps134
    go_wp2
    rw [Hv1.out]
    go_loop [8, 9] (fun v i => ∃ k : Nat, 1 ≤ k ∧ k ≤ 2 ∧ i = .int .i64 k ∧ v = .int .i64 (vAt s p v0 k) ∧ contTo s p k) (fun _ i => 2 - (intOf i).toNat)
    case atStart => exact ⟨1, by omega, by omega, rfl, rfl, contTo_one s p⟩
    case round =>
      obtain ⟨k, hk1, hk, rfl, rfl, hcont⟩ := hrel
      have vb := vAt_bd s p v0 hv0l hv0h k hk1 (by omega) hcont
      have HC := hidd hcont
      clear hcont
      by_cases hlt : k < 2
      · have hpk : p + k < s.size := by omega
        have Hk := hidd (byteAt_get s (p + k) hpk)
        have bdk := byteAt_bd s (p + k)
        have hpkz : (p : Int) + (k : Int) < (s.size : Int) := by omega
        by_cases hc1 : byteAt s (p + k) < 128
        · have HA := hidd (Hcut.out ⟨k, hk1, hlt, Or.inl hc1⟩)
          rw [← Hk.out] at hc1 bdk
          go_wp2
          go_ret2
          rw [HA.out.1, HA.out.2]
          exact ⟨rfl, Below.refl _ _⟩
        · by_cases hc2 : 191 < byteAt s (p + k)
          · have HA := hidd (Hcut.out ⟨k, hk1, hlt, Or.inr hc2⟩)
            rw [← Hk.out] at hc1 hc2 bdk
            go_wp2
            go_ret2
            rw [HA.out.1, HA.out.2]
            exact ⟨rfl, Below.refl _ _⟩
          · have HS := hidd (vAt_step s p v0 k hk1)
            have HC2 := hidd (contTo_step s p k HC.out (by omega) (by omega))
            rw [← Hk.out] at hc1 hc2 bdk
            go_wp2
            go_round
            case rel => exact ⟨k + 1, by omega, by omega, by go_num, by rw [HS.out, Hk.out], HC2.out⟩
            case measure => simp [intOf]; omega
      · obtain rfl : k = 2 := by omega
        have He := hidd (Hend.out HC.out)
        have HVU := hidd (vAt2_lt s p v0 hv0h HC.out)
        generalize vAt s p v0 2 = v at He vb HVU
        by_cases hch : chr v = true
        · have hrl := hidd (runes_len v hch)
          by_cases hv : 128 ≤ v
          · have HA := hidd (He.out.1 hv)
            have hvu : v < 2048 := HVU.out
            have hlen : (((Lib.runeCells v).length : Int) != 2) = false := by rw [hrl.out, if_neg (by omega), if_pos (by omega)]; rfl
            go_wp2_with fail
            refine (charOK_any _ _).mono ?_
            rintro e w1 ⟨rfl, rfl⟩
            go_wp2_with fail
            refine (bytes_any v _ hch).mono ?_
            rintro e w1 ⟨rfl, rfl⟩
            go_wp2
            go_ret2
            rw [HA.out.1, HA.out.2]
            exact ⟨rfl, (Below.refl _ _).alloc (Nat.le_refl _) _⟩
          · have HA := hidd (He.out.2 (by omega))
            have hlen : (((Lib.runeCells v).length : Int) != 2) = true := by
              rw [bne_iff_ne, hrl.out]
              repeat' split
              all_goals omega
            go_wp2_with fail
            refine (charOK_any _ _).mono ?_
            rintro e w1 ⟨rfl, rfl⟩
            go_wp2_with fail
            refine (bytes_any v _ hch).mono ?_
            rintro e w1 ⟨rfl, rfl⟩
            go_wp2
            go_ret2
            rw [HA.out.1, HA.out.2]
            exact ⟨rfl, (Below.refl _ _).alloc (Nat.le_refl _) _⟩
        · have hch' : chr v = false := by simpa using hch
          exact absurd ((chr_iff v).2 (by have := HVU.out; omega)) hch
set_option maxHeartbeats 2000000 in
set_option maxRecDepth 100000 in
theorem at_walk3 (s : ByteArray) (p : Nat) (w : World) (hs : s.size ≤ 1048576) (hp : p < s.size) (h : 224 ≤ byteAt s p) (h2 : byteAt s p < 240) :
    Calls Tryz.prog 134 #[.string s, .int .i64 p] w fun e w' => e = .returned (.tuple #[.int .i64 (atC s p), .int .i64 (atW s p)]) ∧ Below w.heap.size w w' := by
  have bd := byteAt_bd s p
  have Hb := hidd (byteAt_get s p hp)
  by_cases hsz : s.size < p + 3
  · have HA := hidd (at_cut s p 3 (Or.inr (Or.inl ⟨rfl, h, h2⟩)) (Or.inl hsz))
    have hszz : (s.size : Int) < (p : Int) + 3 := by omega
    rw [← Hb.out] at h h2 bd
    go_enter Tryz.func134, Tryz.ntmps134
    go_wp2
    go_ret2
    rw [HA.out.1, HA.out.2]
    exact ⟨rfl, Below.refl _ _⟩
  · have hszz : ¬ (s.size : Int) < (p : Int) + 3 := by omega
    have Hcut := hidd (fun hb => at_cut s p 3 (Or.inr (Or.inl ⟨rfl, h, h2⟩)) (Or.inr hb))
    have Hend := hidd (fun hc => at_3 s p h h2 (by omega) hc)
    generalize hv0 : byteAt s p - 224 = v0 at Hend
    have Hv0 := hidd hv0
    have hv0l : 0 ≤ v0 := by omega
    have hv0h : v0 ≤ 31 := by omega
    have Hv1 : Hid (((s[p]'hp).toNat : Int) - 224 = v0) := by show _ = _; rw [Hb.out]; exact hv0
    rw [← Hb.out] at h h2 bd
    clear hv0
    go_enter Tryz.func134, Tryz.ntmps134
    go_wp2
    rw [Hv1.out]
    go_loop [8, 9] (fun v i => ∃ k : Nat, 1 ≤ k ∧ k ≤ 3 ∧ i = .int .i64 k ∧ v = .int .i64 (vAt s p v0 k) ∧ contTo s p k) (fun _ i => 3 - (intOf i).toNat)
    case atStart => exact ⟨1, by omega, by omega, rfl, rfl, contTo_one s p⟩
    case round =>
      obtain ⟨k, hk1, hk, rfl, rfl, hcont⟩ := hrel
      have vb := vAt_bd s p v0 hv0l hv0h k hk1 (by omega) hcont
      have HC := hidd hcont
      clear hcont
      by_cases hlt : k < 3
      · have hpk : p + k < s.size := by omega
        have Hk := hidd (byteAt_get s (p + k) hpk)
        have bdk := byteAt_bd s (p + k)
        have hpkz : (p : Int) + (k : Int) < (s.size : Int) := by omega
        by_cases hc1 : byteAt s (p + k) < 128
        · have HA := hidd (Hcut.out ⟨k, hk1, hlt, Or.inl hc1⟩)
          rw [← Hk.out] at hc1 bdk
          go_wp2
          go_ret2
          rw [HA.out.1, HA.out.2]
          exact ⟨rfl, Below.refl _ _⟩
        · by_cases hc2 : 191 < byteAt s (p + k)
          · have HA := hidd (Hcut.out ⟨k, hk1, hlt, Or.inr hc2⟩)
            rw [← Hk.out] at hc1 hc2 bdk
            go_wp2
            go_ret2
            rw [HA.out.1, HA.out.2]
            exact ⟨rfl, Below.refl _ _⟩
          · have HS := hidd (vAt_step s p v0 k hk1)
            have HC2 := hidd (contTo_step s p k HC.out (by omega) (by omega))
            rw [← Hk.out] at hc1 hc2 bdk
            go_wp2
            go_round
            case rel => exact ⟨k + 1, by omega, by omega, by go_num, by rw [HS.out, Hk.out], HC2.out⟩
            case measure => simp [intOf]; omega
      · obtain rfl : k = 3 := by omega
        have He := hidd (Hend.out HC.out)
        have HVU := hidd (vAt3_lt s p v0 (by have := Hv1.out; omega) HC.out)
        generalize vAt s p v0 3 = v at He vb HVU
        by_cases hch : chr v = true
        · have hrl := hidd (runes_len v hch)
          by_cases hv : 2048 ≤ v
          · have HA := hidd (He.out.1 ⟨hv, hch⟩)
            have hvu : v < 65536 := HVU.out
            have hlen : (((Lib.runeCells v).length : Int) != 3) = false := by rw [hrl.out, if_neg (by omega), if_neg (by omega), if_pos (by omega)]; rfl
            go_wp2_with fail
            refine (charOK_any _ _).mono ?_
            rintro e w1 ⟨rfl, rfl⟩
            go_wp2_with fail
            refine (bytes_any v _ hch).mono ?_
            rintro e w1 ⟨rfl, rfl⟩
            go_wp2
            go_ret2
            rw [HA.out.1, HA.out.2]
            exact ⟨rfl, (Below.refl _ _).alloc (Nat.le_refl _) _⟩
          · have HA := hidd (He.out.2 (fun hh => hv hh.1))
            have hlen : (((Lib.runeCells v).length : Int) != 3) = true := by
              rw [bne_iff_ne, hrl.out]
              repeat' split
              all_goals omega
            go_wp2_with fail
            refine (charOK_any _ _).mono ?_
            rintro e w1 ⟨rfl, rfl⟩
            go_wp2_with fail
            refine (bytes_any v _ hch).mono ?_
            rintro e w1 ⟨rfl, rfl⟩
            go_wp2
            go_ret2
            rw [HA.out.1, HA.out.2]
            exact ⟨rfl, (Below.refl _ _).alloc (Nat.le_refl _) _⟩
        · have hch' : chr v = false := by simpa using hch
          have HA := hidd (He.out.2 (fun hh => hch hh.2))
          clear hch
          go_wp2_with fail
          refine (charOK_any _ _).mono ?_
          rintro e w1 ⟨rfl, rfl⟩
          go_wp2
          go_ret2
          rw [HA.out.1, HA.out.2]
          exact ⟨rfl, Below.refl _ _⟩
set_option maxHeartbeats 2000000 in
set_option maxRecDepth 100000 in
theorem at_walk4 (s : ByteArray) (p : Nat) (w : World) (hs : s.size ≤ 1048576) (hp : p < s.size) (h : 240 ≤ byteAt s p) :
    Calls Tryz.prog 134 #[.string s, .int .i64 p] w fun e w' => e = .returned (.tuple #[.int .i64 (atC s p), .int .i64 (atW s p)]) ∧ Below w.heap.size w w' := by
  have bd := byteAt_bd s p
  have Hb := hidd (byteAt_get s p hp)
  by_cases hsz : s.size < p + 4
  · have HA := hidd (at_cut s p 4 (Or.inr (Or.inr ⟨rfl, h⟩)) (Or.inl hsz))
    have hszz : (s.size : Int) < (p : Int) + 4 := by omega
    rw [← Hb.out] at h bd
    go_enter Tryz.func134, Tryz.ntmps134
    go_wp2
    go_ret2
    rw [HA.out.1, HA.out.2]
    exact ⟨rfl, Below.refl _ _⟩
  · have hszz : ¬ (s.size : Int) < (p : Int) + 4 := by omega
    have Hcut := hidd (fun hb => at_cut s p 4 (Or.inr (Or.inr ⟨rfl, h⟩)) (Or.inr hb))
    have Hend := hidd (fun hc => at_4 s p h (by omega) hc)
    generalize hv0 : byteAt s p - 240 = v0 at Hend
    have Hv0 := hidd hv0
    have hv0l : 0 ≤ v0 := by omega
    have hv0h : v0 ≤ 31 := by omega
    have Hv1 : Hid (((s[p]'hp).toNat : Int) - 240 = v0) := by show _ = _; rw [Hb.out]; exact hv0
    rw [← Hb.out] at h bd
    clear hv0
    go_enter Tryz.func134, Tryz.ntmps134
    go_wp2
    rw [Hv1.out]
    go_loop [8, 9] (fun v i => ∃ k : Nat, 1 ≤ k ∧ k ≤ 4 ∧ i = .int .i64 k ∧ v = .int .i64 (vAt s p v0 k) ∧ contTo s p k) (fun _ i => 4 - (intOf i).toNat)
    case atStart => exact ⟨1, by omega, by omega, rfl, rfl, contTo_one s p⟩
    case round =>
      obtain ⟨k, hk1, hk, rfl, rfl, hcont⟩ := hrel
      have vb := vAt_bd s p v0 hv0l hv0h k hk1 (by omega) hcont
      have HC := hidd hcont
      clear hcont
      by_cases hlt : k < 4
      · have hpk : p + k < s.size := by omega
        have Hk := hidd (byteAt_get s (p + k) hpk)
        have bdk := byteAt_bd s (p + k)
        have hpkz : (p : Int) + (k : Int) < (s.size : Int) := by omega
        by_cases hc1 : byteAt s (p + k) < 128
        · have HA := hidd (Hcut.out ⟨k, hk1, hlt, Or.inl hc1⟩)
          rw [← Hk.out] at hc1 bdk
          go_wp2
          go_ret2
          rw [HA.out.1, HA.out.2]
          exact ⟨rfl, Below.refl _ _⟩
        · by_cases hc2 : 191 < byteAt s (p + k)
          · have HA := hidd (Hcut.out ⟨k, hk1, hlt, Or.inr hc2⟩)
            rw [← Hk.out] at hc1 hc2 bdk
            go_wp2
            go_ret2
            rw [HA.out.1, HA.out.2]
            exact ⟨rfl, Below.refl _ _⟩
          · have HS := hidd (vAt_step s p v0 k hk1)
            have HC2 := hidd (contTo_step s p k HC.out (by omega) (by omega))
            rw [← Hk.out] at hc1 hc2 bdk
            go_wp2
            go_round
            case rel => exact ⟨k + 1, by omega, by omega, by go_num, by rw [HS.out, Hk.out], HC2.out⟩
            case measure => simp [intOf]; omega
      · obtain rfl : k = 4 := by omega
        have He := hidd (Hend.out HC.out)
        skip
        generalize vAt s p v0 4 = v at He vb
        by_cases hch : chr v = true
        · have hrl := hidd (runes_len v hch)
          by_cases hv : 65536 ≤ v
          · have HA := hidd (He.out.1 ⟨hv, hch⟩)
            skip
            have hlen : (((Lib.runeCells v).length : Int) != 4) = false := by rw [hrl.out, if_neg (by omega), if_neg (by omega), if_neg (by omega)]; rfl
            go_wp2_with fail
            refine (charOK_any _ _).mono ?_
            rintro e w1 ⟨rfl, rfl⟩
            go_wp2_with fail
            refine (bytes_any v _ hch).mono ?_
            rintro e w1 ⟨rfl, rfl⟩
            go_wp2
            go_ret2
            rw [HA.out.1, HA.out.2]
            exact ⟨rfl, (Below.refl _ _).alloc (Nat.le_refl _) _⟩
          · have HA := hidd (He.out.2 (fun hh => hv hh.1))
            have hlen : (((Lib.runeCells v).length : Int) != 4) = true := by
              rw [bne_iff_ne, hrl.out]
              repeat' split
              all_goals omega
            go_wp2_with fail
            refine (charOK_any _ _).mono ?_
            rintro e w1 ⟨rfl, rfl⟩
            go_wp2_with fail
            refine (bytes_any v _ hch).mono ?_
            rintro e w1 ⟨rfl, rfl⟩
            go_wp2
            go_ret2
            rw [HA.out.1, HA.out.2]
            exact ⟨rfl, (Below.refl _ _).alloc (Nat.le_refl _) _⟩
        · have hch' : chr v = false := by simpa using hch
          have HA := hidd (He.out.2 (fun hh => hch hh.2))
          clear hch
          go_wp2_with fail
          refine (charOK_any _ _).mono ?_
          rintro e w1 ⟨rfl, rfl⟩
          go_wp2
          go_ret2
          rw [HA.out.1, HA.out.2]
          exact ⟨rfl, Below.refl _ _⟩
theorem at_any (s : ByteArray) (p : Nat) (w : World) (hs : s.size ≤ 1048576) (hp : p < s.size) :
    Calls Tryz.prog 134 #[.string s, .int .i64 p] w fun e w' => e = .returned (.tuple #[.int .i64 (atC s p), .int .i64 (atW s p)]) ∧ Below w.heap.size w w' := by
  by_cases h1 : byteAt s p < 128
  · exact at_walk1 s p w hs hp h1
  by_cases h2 : byteAt s p < 192
  · exact at_walk0 s p w hs hp (by omega) h2
  by_cases h3 : byteAt s p < 224
  · exact at_walk2 s p w hs hp (by omega) h3
  by_cases h4 : byteAt s p < 240
  · exact at_walk3 s p w hs hp (by omega) h4
  · exact at_walk4 s p w hs hp (by omega)
end Go.Proofs.YtgoklapafidpkaaGreatDoor

namespace Go.Proofs.YtgoklapafidpkaaGreatDoor
open Go Go.RowKit
set_option linter.unusedVariables false
theorem Tryz.infoInt : (Tryz.prog.info? 3).map (fun i => (i.zero, i.size, i.bytes)) = some (some (.int .i64 0), 1, 8) := by kernel_rfl
set_option maxHeartbeats 1000000 in
set_option maxRecDepth 100000 in
theorem decode_any (s : ByteArray) (w : World) (hs : s.size ≤ 1048576) :
    Calls Tryz.prog 103 #[.string s] w fun e w' => ∃ v, e = .returned (.tuple #[v, .bool (validB s)]) ∧ w'.ownsRow w.heap.size 3 1 v (decL s).length ((decL s).map (Value.int .i64)) ∧ Below w.heap.size w w' := by
  obtain ⟨i0, hi, hz0, hz1, hz2⟩ := info_parts Tryz.infoInt
  go_enter Tryz.func103, Tryz.ntmps103
  go_wp2
  go_loopw [4, 5] (fun v i wr => ∃ (p f : Nat) (acc : List Int), p ≤ s.size ∧ i = .int .i64 p ∧ wr.ownsRow w.heap.size 3 1 v acc.length (acc.map (Value.int .i64)) ∧ Below w.heap.size w wr ∧ acc ++ runesFrom s f p = runes s ∧ s.size ≤ p + f ∧ vFrom s p = validB s) (fun _ i _ => s.size - (intOf i).toNat)
  case atStart => exact ⟨0, s.size, [], Nat.zero_le _, rfl, own_empty w _, (Below.refl _ _).alloc (Nat.le_refl _) _, rfl, by omega, vFrom_zero s⟩
  case round =>
    obtain ⟨p, f, acc, hp, rfl, hown, hbel, hacc, hf, hv⟩ := hrel
    have hlen : acc.length ≤ s.size := by have := congrArg List.length hacc; rw [List.length_append] at this; have := runes_le s; omega
    by_cases hlt : p < s.size
    · have hw := width_le s p hlt
      have hr := rune_le s p
      have HO := hidd hown
      by_cases hb : bad s p
      · have HV : Hid (validB s = false) := by show _ = _; rw [← hv]; exact vFrom_bad s p hlt hb
        have HL : Hid (decL s = []) := by show _ = _; rw [decL, if_neg (by rw [HV.out]; simp)]
        have HW := hidd (atW_bad s p hb)
        clear hown hacc hv
        go_wp2_with fail
        refine (at_any s p _ hs hlt).mono ?_
        rintro e w1 ⟨rfl, hb1⟩
        rw [HW.out]
        have hbel1 : Below w.heap.size w w1 := hbel.trans (hb1.mono hbel.size)
        clear hb1
        go_wp2
        go_ret2
        rw [HV.out, HL.out]
        refine ⟨_, rfl, own_mono (own_empty _ _) hbel1.size, hbel1.alloc hbel1.size _⟩
      · have HW := hidd (atW_good s p hb)
        have HC := hidd (atC_good s p hb)
        have Hst : Hid (acc ++ [((Utf8.decode s p).1 : Int)] ++ runesFrom s (f - 1) (p + (Utf8.decode s p).2) = runes s) := by
          show _ = _
          obtain ⟨g, rfl⟩ : ∃ g, f = g + 1 := ⟨f - 1, by omega⟩
          rw [runesFrom_step s g p hlt] at hacc
          rw [← hacc]
          simp
        have Hv2 : Hid (vFrom s (p + (Utf8.decode s p).2) = validB s) := by show _ = _; rw [vFrom_good s p hlt hb, hv]
        clear hown hacc hv
        go_wp2_with fail
        refine (at_any s p _ hs hlt).mono ?_
        rintro e w1 ⟨rfl, hb1⟩
        rw [HW.out, HC.out]
        have hbel1 : Below w.heap.size w w1 := hbel.trans (hb1.mono hbel.size)
        have HO1 := hidd (own_below HO.out hb1)
        clear hb1 HO
        generalize (Utf8.decode s p).1 = r at *
        generalize (Utf8.decode s p).2 = n at *
        go_wp2_with (at_builtin; refine wpList_append_own _ rfl _ _ 58 rfl w.heap.size 3 i0 (.int .i64 0) 1 8 Tryz.underlying58 hi hz0 hz1 hz2 rfl (by decide) _ _ _ rfl (HO1.out.alloc _) ⟨w1.heap.size, 0, none⟩ 1 1 [.int .i64 (r : Int)] rfl rfl ?c1 ?c2 ?c3 ?c4 ?c5 ?_)
        case c1 =>
          intro j u hj
          match j, hj with
          | 0, hj => simp at hj; subst hj; simp [Addr.add]
        case c2 => intro u hu; simp at hu; subst hu; rfl
        case c3 => unfold maxLen; omega
        case c4 => omega
        case c5 => have := hbel1.size; simp; omega
        intro v' w2 hown' hgrow hne
        have R : Hid (w2.ownsRow w.heap.size 3 1 v' (acc ++ [(r : Int)]).length ((acc ++ [(r : Int)]).map (Value.int .i64)) ∧ Below w.heap.size w w2) := by
          refine ⟨?_, (hbel1.alloc hbel1.size _).grown hgrow (by have := hbel1.size; simp; omega) (own_block HO1.out)⟩
          rw [List.length_append, List.map_append]
          exact hown'
        clear hown' hgrow HO1
        go_wp2
        go_roundw
        case rel => exact ⟨p + n, f - 1, acc ++ [(r : Int)], by omega, by go_num, R.out.1, R.out.2, Hst.out, by omega, Hv2.out⟩
        case measure => simp [intOf]; omega
    · have HV : Hid (validB s = true) := by show _ = _; rw [← hv]; exact vFrom_end s p hlt
      have HL : Hid (decL s = acc) := by show _ = _; rw [decL, if_pos HV.out, ← hacc, runesFrom_end s f p hlt, List.append_nil]
      clear hacc hv
      have HO := hidd hown
      clear hown
      go_wp2
      go_ret2
      rw [HV.out, HL.out]
      exact ⟨_, rfl, HO.out, hbel⟩
end Go.Proofs.YtgoklapafidpkaaGreatDoor

namespace Go.Proofs.YtgoklapafidpkaaGreatDoor
open Go Go.RowKit
set_option linter.unusedVariables false

set_option maxHeartbeats 1000000 in
theorem specTermOK_any (t : List UInt8) (w : World) (hs : (bs t).size ≤ 1048576) :
    Calls Tryz.prog 102 #[.string (bs t)] w fun e w' => e = .returned (.bool (tOK t)) ∧ Below w.heap.size w w' := by
  have HZ : Hid (t.length = (bs t).size) := (bs_size t).symm
  have HT : Hid (tOK t = (decide (1 ≤ t.length) && decide (t.length ≤ 64) && validB (bs t))) := rfl
  rw [HZ.out] at HT
  generalize bs t = s at *
  clear HZ
  by_cases h1 : 1 ≤ s.size
  · have h1z : (1 : Int) ≤ (s.size : Int) := by omega
    by_cases h64 : s.size ≤ 64
    · have h64z : (s.size : Int) ≤ 64 := by omega
      have HR : Hid (tOK t = validB s) := by show _ = _; rw [HT.out, decide_eq_true h1, decide_eq_true h64]; rfl
      clear HT
      go_enter Tryz.func102, Tryz.ntmps102
      go_wp2_with fail
      refine (decode_any s _ hs).mono ?_
      rintro e w1 ⟨v, rfl, _, hb1⟩
      go_wp2_with fail
      go_ret
      rw [HR.out]
      exact ⟨rfl, hb1⟩
    · have h64b : decide ((s.size : Int) ≤ 64) = false := decide_eq_false (by omega)
      have HR : Hid (tOK t = false) := by show _ = _; rw [HT.out, decide_eq_false h64]; simp
      clear HT
      go_enter Tryz.func102, Tryz.ntmps102
      go_wp2_with fail
      refine (decode_any s _ hs).mono ?_
      rintro e w1 ⟨v, rfl, _, hb1⟩
      go_wp2_with fail
      go_ret
      rw [HR.out]
      exact ⟨rfl, hb1⟩
  · have h1b : decide ((1 : Int) ≤ (s.size : Int)) = false := decide_eq_false (by omega)
    have HR : Hid (tOK t = false) := by show _ = _; rw [HT.out, decide_eq_false h1]; simp
    clear HT
    go_enter Tryz.func102, Tryz.ntmps102
    go_wp2_with fail
    refine (decode_any s _ hs).mono ?_
    rintro e w1 ⟨v, rfl, _, hb1⟩
    go_wp2_with fail
    go_ret
    rw [HR.out]
    exact ⟨rfl, hb1⟩
set_option maxHeartbeats 1000000 in
theorem implTermOK_any (t : List UInt8) (w : World) (hs : (bs t).size ≤ 1048576) (hT : Tabs w) :
    Calls Tryz.prog 137 #[.string (bs t)] w fun e w' => e = .returned (.bool (tOK t)) ∧ Below w.heap.size w w' := by
  have HTb := hidd hT
  clear hT
  have HZ : Hid (t.length = (bs t).size) := (bs_size t).symm
  have HT : Hid (tOK t = (decide (1 ≤ t.length) && decide (t.length ≤ 64) && validB (bs t))) := rfl
  rw [HZ.out] at HT
  generalize bs t = s at *
  clear HZ
  by_cases hin : 1 ≤ s.size ∧ s.size ≤ 64
  · have HR : Hid (tOK t = validB s) := by show _ = _; rw [HT.out, decide_eq_true hin.1, decide_eq_true hin.2]; rfl
    have HW : Hid ((decide ((1 : Int) ≤ (s.size : Int)) && decide ((s.size : Int) ≤ 64)) = true) := by show _ = _; rw [decide_eq_true (by omega), decide_eq_true (by omega)]; rfl
    clear HT hin
    go_enter Tryz.func137, Tryz.ntmps137
    go_wp2_with fail
    refine (within_any _ _ _ _).mono ?_
    rintro e w' ⟨rfl, hw⟩
    obtain rfl := hw.symm
    clear hw
    rw [HW.out]
    go_wp2_with fail
    refine (valid_any s _ hs HTb.out).mono ?_
    rintro e w1 ⟨rfl, hb1⟩
    go_wp2_with fail
    go_ret
    rw [HR.out]
    exact ⟨rfl, hb1⟩
  · have HR : Hid (tOK t = false) := by
      show _ = _
      rw [HT.out]
      by_cases h1 : 1 ≤ s.size
      · rw [decide_eq_false (p := s.size ≤ 64) (by omega)]; simp
      · rw [decide_eq_false h1]; simp
    have HW : Hid ((decide ((1 : Int) ≤ (s.size : Int)) && decide ((s.size : Int) ≤ 64)) = false) := by
      show _ = _
      by_cases h1 : 1 ≤ s.size
      · rw [decide_eq_false (p := (s.size : Int) ≤ 64) (by omega), Bool.and_false]
      · rw [decide_eq_false (p := (1 : Int) ≤ (s.size : Int)) (by omega), Bool.false_and]
    clear HT hin
    go_enter Tryz.func137, Tryz.ntmps137
    go_wp2_with fail
    refine (within_any _ _ _ _).mono ?_
    rintro e w' ⟨rfl, hw⟩
    obtain rfl := hw.symm
    clear hw
    rw [HW.out]
    go_wp2_with fail
    go_ret
    rw [HR.out]
    exact ⟨rfl, Below.refl _ _⟩
end Go.Proofs.YtgoklapafidpkaaGreatDoor

namespace Go.Proofs.YtgoklapafidpkaaGreatDoor
open Go Go.RowKit
set_option linter.unusedVariables false

def vz (z : Int) : Bool := z == 97 || z == 101 || z == 105 || z == 111 || z == 117 || z == 121
theorem vz_vow (c : UInt8) : vz (c.toNat : Int) = vow c := by
  have key : ∀ k : Nat, k < 256 → (((c.toNat : Int) == (k : Int)) = (c == UInt8.ofNat k)) := by
    intro k hk
    rw [Bool.eq_iff_iff, beq_iff_eq, beq_iff_eq]
    constructor
    · intro h
      have h' : c.toNat = k := by omega
      rw [← h', UInt8.ofNat_toNat]
    · intro h
      subst h
      rw [UInt8.toNat_ofNat']
      omega
  unfold vz vow
  have k1 := key 97 (by decide)
  have k2 := key 101 (by decide)
  have k3 := key 105 (by decide)
  have k4 := key 111 (by decide)
  have k5 := key 117 (by decide)
  have k6 := key 121 (by decide)
  rw [show (97 : Int) = ((97 : Nat) : Int) from rfl, show (101 : Int) = ((101 : Nat) : Int) from rfl, show (105 : Int) = ((105 : Nat) : Int) from rfl, show (111 : Int) = ((111 : Nat) : Int) from rfl, show (117 : Int) = ((117 : Nat) : Int) from rfl, show (121 : Int) = ((121 : Nat) : Int) from rfl, k1, k2, k3, k4, k5, k6]
  rfl
set_option maxHeartbeats 400000 in
theorem vowel_z (z : Int) (w : World) : Calls Tryz.prog 168 #[.int .u8 z] w fun e w' => e = .returned (.bool (vz z)) ∧ w' = w := by
  go_enter Tryz.func168, Tryz.ntmps168
  go_wp2
  all_goals (go_ret; refine ⟨?_, rfl⟩; simp [vz, *])
set_option maxHeartbeats 400000 in
theorem ends_any (s p : ByteArray) (w : World) (hs : s.size ≤ 1048576) (hp : p.size ≤ 1048576) :
    Calls Tryz.prog 164 #[.string s, .string p] w fun e w' => e = .returned (.bool (ends (lst s) (lst p))) ∧ w' = w := by
  have HR : Hid (_ = Lib.hasSuffix (lst s) (lst p)) := Lib.hasSuffix_raw s p
  by_cases hl : p.size ≤ s.size
  · have hlz : (p.size : Int) ≤ (s.size : Int) := by omega
    go_enter Tryz.func164, Tryz.ntmps164
    go_wp2
    go_ret
    rw [ends, ← HR.out, decide_eq_true hl, Bool.true_and]
    exact ⟨rfl, rfl⟩
  · have hlz : ¬ (p.size : Int) ≤ (s.size : Int) := by omega
    go_enter Tryz.func164, Tryz.ntmps164
    go_wp2
    go_ret
    rw [ends, ← HR.out, decide_eq_false hl, Bool.false_and]
    exact ⟨rfl, rfl⟩
theorem extract_cut (s : ByteArray) (n : Nat) : s.extract 0 (s.size - n) = bs (cutB (lst s) n) := by
  rw [Lib.extract_eq, cutB, lst_len]
  simp [bs, lst]
set_option maxHeartbeats 400000 in
theorem drop_any (s : ByteArray) (n : Nat) (w : World) (hs : s.size ≤ 1048576) (hn : n ≤ s.size) :
    Calls Tryz.prog 165 #[.string s, .int .i64 n] w fun e w' => e = .returned (.string (bs (cutB (lst s) n))) ∧ w' = w := by
  go_enter Tryz.func165, Tryz.ntmps165
  go_wp2
  go_ret
  rw [extract_cut]
  exact ⟨rfl, rfl⟩
theorem get_list (s : ByteArray) (k : Nat) (h : k < s.size) : s[k] = (lst s).getD k 0 := by
  have h' : k < (lst s).length := by rw [lst_len]; exact h
  rw [List.getD_eq_getElem?_getD, List.getElem?_eq_getElem h', Option.getD_some]
  simp [lst]
  rfl
theorem any_take_succ (l : List UInt8) (f : UInt8 → Bool) (k : Nat) (h : k < l.length) : (l.take (k + 1)).any f = ((l.take k).any f || f (l.getD k 0)) := by
  rw [List.take_succ_eq_append_getElem h, List.any_append, List.getD_eq_getElem?_getD, List.getElem?_eq_getElem h]
  simp only [List.any_cons, List.any_nil, Bool.or_false, Option.getD_some]
set_option maxHeartbeats 1000000 in
theorem hasVowel_any (s : ByteArray) (w : World) (hs : s.size ≤ 1048576) :
    Calls Tryz.prog 166 #[.string s] w fun e w' => e = .returned (.bool (hasV (lst s))) ∧ w' = w := by
  go_enter Tryz.func166, Tryz.ntmps166
  go_wp2
  go_loop [3] (fun i => ∃ k : Nat, k ≤ s.size ∧ i = .int .i64 k ∧ hasV ((lst s).take k) = false) (fun i => s.size - (intOf i).toNat)
  case atStart => exact ⟨0, Nat.zero_le _, rfl, by rfl⟩
  case round =>
    obtain ⟨k, hk, rfl, hany⟩ := hrel
    have HA := hidd hany
    clear hany
    by_cases hlt : k < s.size
    · have hkl : k < (lst s).length := by rw [lst_len]; exact hlt
      have HG := hidd (get_list s k hlt)
      by_cases hv : vow ((lst s).getD k 0) = true
      · have HV : Hid (vz ((s[k]'hlt).toNat : Int) = true) := by show _ = _; rw [vz_vow, HG.out]; exact hv
        have HR : Hid (hasV (lst s) = true) := by
          show _ = _
          rw [hasV, List.any_eq_true]
          refine ⟨(lst s).getD k 0, ?_, hv⟩
          rw [List.getD_eq_getElem?_getD, List.getElem?_eq_getElem hkl, Option.getD_some]
          exact List.getElem_mem _
        clear hv
        go_wp2_with fail
        refine (vowel_z _ _).mono ?_
        rintro e w' ⟨rfl, rfl⟩
        rw [HV.out]
        go_wp2
        go_ret
        rw [HR.out]
        exact ⟨rfl, rfl⟩
      · have hv' : vow ((lst s).getD k 0) = false := by simpa using hv
        have HV : Hid (vz ((s[k]'hlt).toNat : Int) = false) := by show _ = _; rw [vz_vow, HG.out]; exact hv'
        have HN : Hid (hasV ((lst s).take (k + 1)) = false) := by show _ = _; rw [hasV, any_take_succ _ _ _ hkl, ← hasV, HA.out, hv']; rfl
        clear hv hv'
        go_wp2_with fail
        refine (vowel_z _ _).mono ?_
        rintro e w' ⟨rfl, rfl⟩
        rw [HV.out]
        go_wp2
        go_round
        case rel => exact ⟨k + 1, by omega, by go_num, HN.out⟩
        case measure => simp [intOf]; omega
    · have HR : Hid (hasV (lst s) = false) := by
        have := HA.out
        rw [List.take_of_length_le (by rw [lst_len]; omega)] at this
        exact this
      go_wp2
      go_ret
      rw [HR.out]
      exact ⟨rfl, rfl⟩
end Go.Proofs.YtgoklapafidpkaaGreatDoor
