import Derived.Test.YtoinajfliogcdaaDoorNearJ05
import Derived.Test.YtoinajfliogcdaaDoorNearJ00
import Derived.Test.YtoinajfliogcdaaDoorNearJ20
namespace Go.Proofs.YtoinajfliogcdaaDoor
open Go Go.RowKit
set_option linter.unusedVariables false

theorem runes_len (r : Int) (h : chr r = true) : ((Lib.runeCells r).length : Int) = if r < 128 then 1 else if r < 2048 then 2 else if r < 65536 then 3 else 4 := by
 rw [chr_iff] at h
 unfold Lib.runeCells
 rw [List.length_map]
 by_cases h1 : r < 128
 ·rw [Lib.encodeRuneZ_one h.1 (by omega), if_pos h1]; rfl
 ·by_cases h2 : r < 2048
  ·rw [Lib.encodeRuneZ_two (by omega) (by omega), if_neg h1, if_pos h2]; rfl
  ·by_cases h3 : r < 65536
   ·rw [Lib.encodeRuneZ_three (by omega), if_neg h1, if_neg h2, if_pos h3]; rfl
   ·rw [Lib.encodeRuneZ_four (by omega) (by omega), if_neg h1, if_neg h2, if_neg h3]; rfl
set_option maxHeartbeats 400000 in
set_option maxRecDepth 100000 in
theorem at_walk1 (s : ByteArray) (p : Nat) (w : World) (hs : s.size ≤ 1048576) (hp : p < s.size) (h : byteAt s p < 128) :
  Calls Tryd.prog 90 #[.string s, .int .i64 p] w fun e w' => e = .returned (.tuple #[.int .i64 (atC s p), .int .i64 (atW s p)]) ∧ Below w.heap.size w w' := by
 have HA := hidd (at_1 s p h)
 have Hb := hidd (byteAt_get s p hp)
 rw [← Hb.out] at h
 go_enter Tryd.func90, Tryd.ntmps90
 go_wp2
 go_ret2
 rw [HA.out.1, HA.out.2, ← Hb.out]
 exact ⟨rfl, Below.refl _ _⟩
set_option maxHeartbeats 400000 in
set_option maxRecDepth 100000 in
theorem at_walk0 (s : ByteArray) (p : Nat) (w : World) (hs : s.size ≤ 1048576) (hp : p < s.size) (h : 128 ≤ byteAt s p) (h2 : byteAt s p < 192) :
  Calls Tryd.prog 90 #[.string s, .int .i64 p] w fun e w' => e = .returned (.tuple #[.int .i64 (atC s p), .int .i64 (atW s p)]) ∧ Below w.heap.size w w' := by
 have HA := hidd (at_low s p h h2)
 have Hb := hidd (byteAt_get s p hp)
 rw [← Hb.out] at h h2
 go_enter Tryd.func90, Tryd.ntmps90
 go_wp2
 go_ret2
 rw [HA.out.1, HA.out.2]
 exact ⟨rfl, Below.refl _ _⟩
set_option maxHeartbeats 2000000 in
set_option maxRecDepth 100000 in
theorem at_walk2 (s : ByteArray) (p : Nat) (w : World) (hs : s.size ≤ 1048576) (hp : p < s.size) (h : 192 ≤ byteAt s p) (h2 : byteAt s p < 224) :
  Calls Tryd.prog 90 #[.string s, .int .i64 p] w fun e w' => e = .returned (.tuple #[.int .i64 (atC s p), .int .i64 (atW s p)]) ∧ Below w.heap.size w w' := by
 have bd := byteAt_bd s p
 have Hb := hidd (byteAt_get s p hp)
 by_cases hsz : s.size < p + 2
 ·have HA := hidd (at_cut s p 2 (Or.inl ⟨rfl, h, h2⟩) (Or.inl hsz))
  have hszz : (s.size : Int) < (p : Int) + 2 := by omega
  rw [← Hb.out] at h h2 bd
  go_enter Tryd.func90, Tryd.ntmps90
  go_wp2
  go_ret2
  rw [HA.out.1, HA.out.2]
  exact ⟨rfl, Below.refl _ _⟩
 ·have hszz : ¬ (s.size : Int) < (p : Int) + 2 := by omega
  have Hcut := hidd (fun hb => at_cut s p 2 (Or.inl ⟨rfl, h, h2⟩) (Or.inr hb))
  have Hend := hidd (fun hc => at_2 s p h h2 (by omega) hc)
  generalize hv0 : byteAt s p - 192 = v0 at Hend
  have Hv0 := hidd hv0
  have hv0l : 0 ≤ v0 := by omega
  have hv0h : v0 ≤ 31 := by omega
  have Hv1 : Hid (((s[p]'hp).toNat : Int) - 192 = v0) := by show _ = _; rw [Hb.out]; exact hv0
  rw [← Hb.out] at h h2 bd
  clear hv0
  go_enter Tryd.func90, Tryd.ntmps90
  go_wp2
  rw [Hv1.out]
  go_loop [8, 9] (fun v i => ∃ k : Nat, 1 ≤ k ∧ k ≤ 2 ∧ i = .int .i64 k ∧ v = .int .i64 (vAt s p v0 k) ∧ contTo s p k) (fun _ i => 2 - (intOf i).toNat)
  case atStart => exact ⟨1, by omega, by omega, rfl, rfl, contTo_one s p⟩
  case round =>
   obtain ⟨k, hk1, hk, rfl, rfl, hcont⟩ := hrel
   have vb := vAt_bd s p v0 hv0l hv0h k hk1 (by omega) hcont
   have HC := hidd hcont
   clear hcont
   by_cases hlt : k < 2
   ·have hpk : p + k < s.size := by omega
    have Hk := hidd (byteAt_get s (p + k) hpk)
    have bdk := byteAt_bd s (p + k)
    have hpkz : (p : Int) + (k : Int) < (s.size : Int) := by omega
    by_cases hc1 : byteAt s (p + k) < 128
    ·have HA := hidd (Hcut.out ⟨k, hk1, hlt, Or.inl hc1⟩)
     rw [← Hk.out] at hc1 bdk
     go_wp2
     go_ret2
     rw [HA.out.1, HA.out.2]
     exact ⟨rfl, Below.refl _ _⟩
    ·by_cases hc2 : 191 < byteAt s (p + k)
     ·have HA := hidd (Hcut.out ⟨k, hk1, hlt, Or.inr hc2⟩)
      rw [← Hk.out] at hc1 hc2 bdk
      go_wp2
      go_ret2
      rw [HA.out.1, HA.out.2]
      exact ⟨rfl, Below.refl _ _⟩
     ·have HS := hidd (vAt_step s p v0 k hk1)
      have HC2 := hidd (contTo_step s p k HC.out (by omega) (by omega))
      rw [← Hk.out] at hc1 hc2 bdk
      go_wp2
      go_round
      case rel => exact ⟨k + 1, by omega, by omega, by go_num, by rw [HS.out, Hk.out], HC2.out⟩
      case measure => simp [intOf]; omega
   ·obtain rfl : k = 2 := by omega
    have He := hidd (Hend.out HC.out)
    have HVU := hidd (vAt2_lt s p v0 hv0h HC.out)
    generalize vAt s p v0 2 = v at He vb HVU
    by_cases hch : chr v = true
    ·have hrl := hidd (runes_len v hch)
     by_cases hv : 128 ≤ v
     ·have HA := hidd (He.out.1 hv)
      have hvu : v < 2048 := HVU.out
      have hlen : (((Lib.runeCells v).length : Int) != 2) = false := by rw [hrl.out, if_neg (by omega), if_pos (by omega)]; rfl
      go_wp2_with fail
      refine (charOK_any _ _).mono ?_
      rintro e w1 ⟨rfl, rfl⟩
      go_wp2_with fail
      refine (bytes_any v _ hch).mono ?_
      rintro e w1 ⟨rfl, rfl⟩
      go_wp2
      go_ret2
      rw [HA.out.1, HA.out.2]
      exact ⟨rfl, (Below.refl _ _).alloc (Nat.le_refl _) _⟩
     ·have HA := hidd (He.out.2 (by omega))
      have hlen : (((Lib.runeCells v).length : Int) != 2) = true := by
       rw [bne_iff_ne, hrl.out]
       repeat' split
       all_goals omega
      go_wp2_with fail
      refine (charOK_any _ _).mono ?_
      rintro e w1 ⟨rfl, rfl⟩
      go_wp2_with fail
      refine (bytes_any v _ hch).mono ?_
      rintro e w1 ⟨rfl, rfl⟩
      go_wp2
      go_ret2
      rw [HA.out.1, HA.out.2]
      exact ⟨rfl, (Below.refl _ _).alloc (Nat.le_refl _) _⟩
    ·have hch' : chr v = false := by simpa using hch
     exact absurd ((chr_iff v).2 (by have := HVU.out; omega)) hch
set_option maxHeartbeats 2000000 in
set_option maxRecDepth 100000 in
theorem at_walk3 (s : ByteArray) (p : Nat) (w : World) (hs : s.size ≤ 1048576) (hp : p < s.size) (h : 224 ≤ byteAt s p) (h2 : byteAt s p < 240) :
  Calls Tryd.prog 90 #[.string s, .int .i64 p] w fun e w' => e = .returned (.tuple #[.int .i64 (atC s p), .int .i64 (atW s p)]) ∧ Below w.heap.size w w' := by
 have bd := byteAt_bd s p
 have Hb := hidd (byteAt_get s p hp)
 by_cases hsz : s.size < p + 3
 ·have HA := hidd (at_cut s p 3 (Or.inr (Or.inl ⟨rfl, h, h2⟩)) (Or.inl hsz))
  have hszz : (s.size : Int) < (p : Int) + 3 := by omega
  rw [← Hb.out] at h h2 bd
  go_enter Tryd.func90, Tryd.ntmps90
  go_wp2
  go_ret2
  rw [HA.out.1, HA.out.2]
  exact ⟨rfl, Below.refl _ _⟩
 ·have hszz : ¬ (s.size : Int) < (p : Int) + 3 := by omega
  have Hcut := hidd (fun hb => at_cut s p 3 (Or.inr (Or.inl ⟨rfl, h, h2⟩)) (Or.inr hb))
  have Hend := hidd (fun hc => at_3 s p h h2 (by omega) hc)
  generalize hv0 : byteAt s p - 224 = v0 at Hend
  have Hv0 := hidd hv0
  have hv0l : 0 ≤ v0 := by omega
  have hv0h : v0 ≤ 31 := by omega
  have Hv1 : Hid (((s[p]'hp).toNat : Int) - 224 = v0) := by show _ = _; rw [Hb.out]; exact hv0
  rw [← Hb.out] at h h2 bd
  clear hv0
  go_enter Tryd.func90, Tryd.ntmps90
  go_wp2
  rw [Hv1.out]
  go_loop [8, 9] (fun v i => ∃ k : Nat, 1 ≤ k ∧ k ≤ 3 ∧ i = .int .i64 k ∧ v = .int .i64 (vAt s p v0 k) ∧ contTo s p k) (fun _ i => 3 - (intOf i).toNat)
  case atStart => exact ⟨1, by omega, by omega, rfl, rfl, contTo_one s p⟩
  case round =>
   obtain ⟨k, hk1, hk, rfl, rfl, hcont⟩ := hrel
   have vb := vAt_bd s p v0 hv0l hv0h k hk1 (by omega) hcont
   have HC := hidd hcont
   clear hcont
   by_cases hlt : k < 3
   ·have hpk : p + k < s.size := by omega
    have Hk := hidd (byteAt_get s (p + k) hpk)
    have bdk := byteAt_bd s (p + k)
    have hpkz : (p : Int) + (k : Int) < (s.size : Int) := by omega
    by_cases hc1 : byteAt s (p + k) < 128
    ·have HA := hidd (Hcut.out ⟨k, hk1, hlt, Or.inl hc1⟩)
     rw [← Hk.out] at hc1 bdk
     go_wp2
     go_ret2
     rw [HA.out.1, HA.out.2]
     exact ⟨rfl, Below.refl _ _⟩
    ·by_cases hc2 : 191 < byteAt s (p + k)
     ·have HA := hidd (Hcut.out ⟨k, hk1, hlt, Or.inr hc2⟩)
      rw [← Hk.out] at hc1 hc2 bdk
      go_wp2
      go_ret2
      rw [HA.out.1, HA.out.2]
      exact ⟨rfl, Below.refl _ _⟩
     ·have HS := hidd (vAt_step s p v0 k hk1)
      have HC2 := hidd (contTo_step s p k HC.out (by omega) (by omega))
      rw [← Hk.out] at hc1 hc2 bdk
      go_wp2
      go_round
      case rel => exact ⟨k + 1, by omega, by omega, by go_num, by rw [HS.out, Hk.out], HC2.out⟩
      case measure => simp [intOf]; omega
   ·obtain rfl : k = 3 := by omega
    have He := hidd (Hend.out HC.out)
    have HVU := hidd (vAt3_lt s p v0 (by have := Hv1.out; omega) HC.out)
    generalize vAt s p v0 3 = v at He vb HVU
    by_cases hch : chr v = true
    ·have hrl := hidd (runes_len v hch)
     by_cases hv : 2048 ≤ v
     ·have HA := hidd (He.out.1 ⟨hv, hch⟩)
      have hvu : v < 65536 := HVU.out
      have hlen : (((Lib.runeCells v).length : Int) != 3) = false := by rw [hrl.out, if_neg (by omega), if_neg (by omega), if_pos (by omega)]; rfl
      go_wp2_with fail
      refine (charOK_any _ _).mono ?_
      rintro e w1 ⟨rfl, rfl⟩
      go_wp2_with fail
      refine (bytes_any v _ hch).mono ?_
      rintro e w1 ⟨rfl, rfl⟩
      go_wp2
      go_ret2
      rw [HA.out.1, HA.out.2]
      exact ⟨rfl, (Below.refl _ _).alloc (Nat.le_refl _) _⟩
     ·have HA := hidd (He.out.2 (fun hh => hv hh.1))
      have hlen : (((Lib.runeCells v).length : Int) != 3) = true := by
       rw [bne_iff_ne, hrl.out]
       repeat' split
       all_goals omega
      go_wp2_with fail
      refine (charOK_any _ _).mono ?_
      rintro e w1 ⟨rfl, rfl⟩
      go_wp2_with fail
      refine (bytes_any v _ hch).mono ?_
      rintro e w1 ⟨rfl, rfl⟩
      go_wp2
      go_ret2
      rw [HA.out.1, HA.out.2]
      exact ⟨rfl, (Below.refl _ _).alloc (Nat.le_refl _) _⟩
    ·have hch' : chr v = false := by simpa using hch
     have HA := hidd (He.out.2 (fun hh => hch hh.2))
     clear hch
     go_wp2_with fail
     refine (charOK_any _ _).mono ?_
     rintro e w1 ⟨rfl, rfl⟩
     go_wp2
     go_ret2
     rw [HA.out.1, HA.out.2]
     exact ⟨rfl, Below.refl _ _⟩
set_option maxHeartbeats 2000000 in
set_option maxRecDepth 100000 in
theorem at_walk4 (s : ByteArray) (p : Nat) (w : World) (hs : s.size ≤ 1048576) (hp : p < s.size) (h : 240 ≤ byteAt s p) :
  Calls Tryd.prog 90 #[.string s, .int .i64 p] w fun e w' => e = .returned (.tuple #[.int .i64 (atC s p), .int .i64 (atW s p)]) ∧ Below w.heap.size w w' := by
 have bd := byteAt_bd s p
 have Hb := hidd (byteAt_get s p hp)
 by_cases hsz : s.size < p + 4
 ·have HA := hidd (at_cut s p 4 (Or.inr (Or.inr ⟨rfl, h⟩)) (Or.inl hsz))
  have hszz : (s.size : Int) < (p : Int) + 4 := by omega
  rw [← Hb.out] at h bd
  go_enter Tryd.func90, Tryd.ntmps90
  go_wp2
  go_ret2
  rw [HA.out.1, HA.out.2]
  exact ⟨rfl, Below.refl _ _⟩
 ·have hszz : ¬ (s.size : Int) < (p : Int) + 4 := by omega
  have Hcut := hidd (fun hb => at_cut s p 4 (Or.inr (Or.inr ⟨rfl, h⟩)) (Or.inr hb))
  have Hend := hidd (fun hc => at_4 s p h (by omega) hc)
  generalize hv0 : byteAt s p - 240 = v0 at Hend
  have Hv0 := hidd hv0
  have hv0l : 0 ≤ v0 := by omega
  have hv0h : v0 ≤ 31 := by omega
  have Hv1 : Hid (((s[p]'hp).toNat : Int) - 240 = v0) := by show _ = _; rw [Hb.out]; exact hv0
  rw [← Hb.out] at h bd
  clear hv0
  go_enter Tryd.func90, Tryd.ntmps90
  go_wp2
  rw [Hv1.out]
  go_loop [8, 9] (fun v i => ∃ k : Nat, 1 ≤ k ∧ k ≤ 4 ∧ i = .int .i64 k ∧ v = .int .i64 (vAt s p v0 k) ∧ contTo s p k) (fun _ i => 4 - (intOf i).toNat)
  case atStart => exact ⟨1, by omega, by omega, rfl, rfl, contTo_one s p⟩
  case round =>
   obtain ⟨k, hk1, hk, rfl, rfl, hcont⟩ := hrel
   have vb := vAt_bd s p v0 hv0l hv0h k hk1 (by omega) hcont
   have HC := hidd hcont
   clear hcont
   by_cases hlt : k < 4
   ·have hpk : p + k < s.size := by omega
    have Hk := hidd (byteAt_get s (p + k) hpk)
    have bdk := byteAt_bd s (p + k)
    have hpkz : (p : Int) + (k : Int) < (s.size : Int) := by omega
    by_cases hc1 : byteAt s (p + k) < 128
    ·have HA := hidd (Hcut.out ⟨k, hk1, hlt, Or.inl hc1⟩)
     rw [← Hk.out] at hc1 bdk
     go_wp2
     go_ret2
     rw [HA.out.1, HA.out.2]
     exact ⟨rfl, Below.refl _ _⟩
    ·by_cases hc2 : 191 < byteAt s (p + k)
     ·have HA := hidd (Hcut.out ⟨k, hk1, hlt, Or.inr hc2⟩)
      rw [← Hk.out] at hc1 hc2 bdk
      go_wp2
      go_ret2
      rw [HA.out.1, HA.out.2]
      exact ⟨rfl, Below.refl _ _⟩
     ·have HS := hidd (vAt_step s p v0 k hk1)
      have HC2 := hidd (contTo_step s p k HC.out (by omega) (by omega))
      rw [← Hk.out] at hc1 hc2 bdk
      go_wp2
      go_round
      case rel => exact ⟨k + 1, by omega, by omega, by go_num, by rw [HS.out, Hk.out], HC2.out⟩
      case measure => simp [intOf]; omega
   ·obtain rfl : k = 4 := by omega
    have He := hidd (Hend.out HC.out)
    skip
    generalize vAt s p v0 4 = v at He vb
    by_cases hch : chr v = true
    ·have hrl := hidd (runes_len v hch)
     by_cases hv : 65536 ≤ v
     ·have HA := hidd (He.out.1 ⟨hv, hch⟩)
      skip
      have hlen : (((Lib.runeCells v).length : Int) != 4) = false := by rw [hrl.out, if_neg (by omega), if_neg (by omega), if_neg (by omega)]; rfl
      go_wp2_with fail
      refine (charOK_any _ _).mono ?_
      rintro e w1 ⟨rfl, rfl⟩
      go_wp2_with fail
      refine (bytes_any v _ hch).mono ?_
      rintro e w1 ⟨rfl, rfl⟩
      go_wp2
      go_ret2
      rw [HA.out.1, HA.out.2]
      exact ⟨rfl, (Below.refl _ _).alloc (Nat.le_refl _) _⟩
     ·have HA := hidd (He.out.2 (fun hh => hv hh.1))
      have hlen : (((Lib.runeCells v).length : Int) != 4) = true := by
       rw [bne_iff_ne, hrl.out]
       repeat' split
       all_goals omega
      go_wp2_with fail
      refine (charOK_any _ _).mono ?_
      rintro e w1 ⟨rfl, rfl⟩
      go_wp2_with fail
      refine (bytes_any v _ hch).mono ?_
      rintro e w1 ⟨rfl, rfl⟩
      go_wp2
      go_ret2
      rw [HA.out.1, HA.out.2]
      exact ⟨rfl, (Below.refl _ _).alloc (Nat.le_refl _) _⟩
    ·have hch' : chr v = false := by simpa using hch
     have HA := hidd (He.out.2 (fun hh => hch hh.2))
     clear hch
     go_wp2_with fail
     refine (charOK_any _ _).mono ?_
     rintro e w1 ⟨rfl, rfl⟩
     go_wp2
     go_ret2
     rw [HA.out.1, HA.out.2]
     exact ⟨rfl, Below.refl _ _⟩
theorem at_any (s : ByteArray) (p : Nat) (w : World) (hs : s.size ≤ 1048576) (hp : p < s.size) :
  Calls Tryd.prog 90 #[.string s, .int .i64 p] w fun e w' => e = .returned (.tuple #[.int .i64 (atC s p), .int .i64 (atW s p)]) ∧ Below w.heap.size w w' := by
 by_cases h1 : byteAt s p < 128
 ·exact at_walk1 s p w hs hp h1
 by_cases h2 : byteAt s p < 192
 ·exact at_walk0 s p w hs hp (by omega) h2
 by_cases h3 : byteAt s p < 224
 ·exact at_walk2 s p w hs hp (by omega) h3
 by_cases h4 : byteAt s p < 240
 ·exact at_walk3 s p w hs hp (by omega) h4
 ·exact at_walk4 s p w hs hp (by omega)
end Go.Proofs.YtoinajfliogcdaaDoor

namespace Go.Proofs.YtoinajfliogcdaaDoor
open Go Go.RowKit
set_option linter.unusedVariables false
theorem Tryd.infoInt : (Tryd.prog.info? 3).map (fun i => (i.zero, i.size, i.bytes)) = some (some (.int .i64 0), 1, 8) := by kernel_rfl
set_option maxHeartbeats 1000000 in
set_option maxRecDepth 100000 in
theorem decode_any (s : ByteArray) (w : World) (hs : s.size ≤ 1048576) :
  Calls Tryd.prog 45 #[.string s] w fun e w' => ∃ v, e = .returned (.tuple #[v, .bool (validB s)]) ∧ w'.ownsRow w.heap.size 3 1 v (decL s).length ((decL s).map (Value.int .i64)) ∧ Below w.heap.size w w' := by
 obtain ⟨i0, hi, hz0, hz1, hz2⟩ := info_parts Tryd.infoInt
 go_enter Tryd.func45, Tryd.ntmps45
 go_wp2
 go_loopw [4, 5] (fun v i wr => ∃ (p f : Nat) (acc : List Int), p ≤ s.size ∧ i = .int .i64 p ∧ wr.ownsRow w.heap.size 3 1 v acc.length (acc.map (Value.int .i64)) ∧ Below w.heap.size w wr ∧ acc ++ runesFrom s f p = runes s ∧ s.size ≤ p + f ∧ vFrom s p = validB s) (fun _ i _ => s.size - (intOf i).toNat)
 case atStart => exact ⟨0, s.size, [], Nat.zero_le _, rfl, own_empty w _, (Below.refl _ _).alloc (Nat.le_refl _) _, rfl, by omega, vFrom_zero s⟩
 case round =>
  obtain ⟨p, f, acc, hp, rfl, hown, hbel, hacc, hf, hv⟩ := hrel
  have hlen : acc.length ≤ s.size := by have := congrArg List.length hacc; rw [List.length_append] at this; have := runes_le s; omega
  by_cases hlt : p < s.size
  ·have hw := width_le s p hlt
   have hr := rune_le s p
   have HO := hidd hown
   by_cases hb : bad s p
   ·have HV : Hid (validB s = false) := by show _ = _; rw [← hv]; exact vFrom_bad s p hlt hb
    have HL : Hid (decL s = []) := by show _ = _; rw [decL, if_neg (by rw [HV.out]; simp)]
    have HW := hidd (atW_bad s p hb)
    clear hown hacc hv
    go_wp2_with fail
    refine (at_any s p _ hs hlt).mono ?_
    rintro e w1 ⟨rfl, hb1⟩
    rw [HW.out]
    have hbel1 : Below w.heap.size w w1 := hbel.trans (hb1.mono hbel.size)
    clear hb1
    go_wp2
    go_ret2
    rw [HV.out, HL.out]
    refine ⟨_, rfl, own_mono (own_empty _ _) hbel1.size, hbel1.alloc hbel1.size _⟩
   ·have HW := hidd (atW_good s p hb)
    have HC := hidd (atC_good s p hb)
    have Hst : Hid (acc ++ [((Utf8.decode s p).1 : Int)] ++ runesFrom s (f - 1) (p + (Utf8.decode s p).2) = runes s) := by
     show _ = _
     obtain ⟨g, rfl⟩ : ∃ g, f = g + 1 := ⟨f - 1, by omega⟩
     rw [runesFrom_step s g p hlt] at hacc
     rw [← hacc]
     simp
    have Hv2 : Hid (vFrom s (p + (Utf8.decode s p).2) = validB s) := by show _ = _; rw [vFrom_good s p hlt hb, hv]
    clear hown hacc hv
    go_wp2_with fail
    refine (at_any s p _ hs hlt).mono ?_
    rintro e w1 ⟨rfl, hb1⟩
    rw [HW.out, HC.out]
    have hbel1 : Below w.heap.size w w1 := hbel.trans (hb1.mono hbel.size)
    have HO1 := hidd (own_below HO.out hb1)
    clear hb1 HO
    generalize (Utf8.decode s p).1 = r at *
    generalize (Utf8.decode s p).2 = n at *
    go_wp2_with (at_builtin; refine wpList_append_own _ rfl _ _ 30 rfl w.heap.size 3 i0 (.int .i64 0) 1 8 Tryd.underlying30 hi hz0 hz1 hz2 rfl (by decide) _ _ _ rfl (HO1.out.alloc _) ⟨w1.heap.size, 0, none⟩ 1 1 [.int .i64 (r : Int)] rfl rfl ?c1 ?c2 ?c3 ?c4 ?c5 ?_)
    case c1 =>
     intro j u hj
     match j, hj with
     | 0, hj => simp at hj; subst hj; simp [Addr.add]
    case c2 => intro u hu; simp at hu; subst hu; rfl
    case c3 => unfold maxLen; omega
    case c4 => omega
    case c5 => have := hbel1.size; simp; omega
    intro v' w2 hown' hgrow hne
    have R : Hid (w2.ownsRow w.heap.size 3 1 v' (acc ++ [(r : Int)]).length ((acc ++ [(r : Int)]).map (Value.int .i64)) ∧ Below w.heap.size w w2) := by
     refine ⟨?_, (hbel1.alloc hbel1.size _).grown hgrow (by have := hbel1.size; simp; omega) (own_block HO1.out)⟩
     rw [List.length_append, List.map_append]
     exact hown'
    clear hown' hgrow HO1
    go_wp2
    go_roundw
    case rel => exact ⟨p + n, f - 1, acc ++ [(r : Int)], by omega, by go_num, R.out.1, R.out.2, Hst.out, by omega, Hv2.out⟩
    case measure => simp [intOf]; omega
  ·have HV : Hid (validB s = true) := by show _ = _; rw [← hv]; exact vFrom_end s p hlt
   have HL : Hid (decL s = acc) := by show _ = _; rw [decL, if_pos HV.out, ← hacc, runesFrom_end s f p hlt, List.append_nil]
   clear hacc hv
   have HO := hidd hown
   clear hown
   go_wp2
   go_ret2
   rw [HV.out, HL.out]
   exact ⟨_, rfl, HO.out, hbel⟩
end Go.Proofs.YtoinajfliogcdaaDoor

namespace Go.Proofs.YtoinajfliogcdaaDoor
open Go Go.RowKit
set_option linter.unusedVariables false

set_option maxHeartbeats 1000000 in
theorem specDecode_any (s : ByteArray) (w : World) (hs : s.size ≤ 1048576) :
  Calls Tryd.prog 10 #[.string s] w fun e w' => ∃ v, e = .returned (.tuple #[v, .int .i64 (decCode s)]) ∧ w'.ownsRow w.heap.size 3 1 v (decList s).length ((decList s).map (Value.int .i64)) ∧ Below w.heap.size w w' := by
 by_cases hlong : 65536 < s.size
 ·have HL : Hid (decList s = []) := by show _ = _; rw [decList, if_pos hlong]
  have HC : Hid (decCode s = 2) := by show _ = _; rw [decCode, if_pos hlong]
  have hlz : (65536 : Int) < (s.size : Int) := by omega
  go_enter Tryd.func10, Tryd.ntmps10
  go_wp2
  go_ret2
  rw [HL.out, HC.out]
  exact ⟨_, rfl, own_empty _ _, (Below.refl _ _).alloc (Nat.le_refl _) _⟩
 ·have hlz : ¬ (65536 : Int) < (s.size : Int) := by omega
  by_cases hv : validB s = true
  ·have HL : Hid (decList s = decL s) := by show _ = _; rw [decList, if_neg hlong]
   have HC : Hid (decCode s = 0) := by show _ = _; rw [decCode, if_neg hlong, if_pos hv]
   go_enter Tryd.func10, Tryd.ntmps10
   go_wp2_with fail
   refine (decode_any s _ hs).mono ?_
   rintro e w1 ⟨v, rfl, hown, hb1⟩
   have HO := hidd hown
   clear hown
   go_wp2
   go_ret2
   rw [HL.out, HC.out]
   exact ⟨_, rfl, HO.out, hb1⟩
  ·have hv' : validB s = false := by simpa using hv
   have HL : Hid (decList s = []) := by show _ = _; rw [decList, if_neg hlong, decL, if_neg hv]
   have HC : Hid (decCode s = 3) := by show _ = _; rw [decCode, if_neg hlong, if_neg hv]
   clear hv
   go_enter Tryd.func10, Tryd.ntmps10
   go_wp2_with fail
   refine (decode_any s _ hs).mono ?_
   rintro e w1 ⟨v, rfl, hown, hb1⟩
   clear hown
   go_wp2
   go_ret2
   rw [HL.out, HC.out]
   exact ⟨_, rfl, own_mono (own_empty _ _) hb1.size, hb1.alloc hb1.size _⟩
end Go.Proofs.YtoinajfliogcdaaDoor
