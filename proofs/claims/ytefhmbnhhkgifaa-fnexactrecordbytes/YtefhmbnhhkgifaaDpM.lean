import Derived.Test.YtefhmbnhhkgifaaRbL
namespace Go.Proofs.Ytefhmbnhhkgifaa
open Go Go.RowKit
set_option linter.unusedVariables false
set_option maxRecDepth 100000

set_option maxHeartbeats 1000000 in
theorem szInts_any (a : Option Addr) (n c : Nat) (left : Int) (w : World) (h0 : 0 ≤ left) (h1 : left ≤ 1048576) (hn : n ≤ 9223372036854775807) :
    Calls Try.prog 52 #[.slice a n c, .int .i64 left] w fun e w' => e = .returned (.int .i64 (szN left n)) ∧ w' = w := by
  by_cases h : left - (n : Int) < 0
  · have HE : Hid (szN left n = -1) := by show _ = _; rw [szN, if_pos h]
    go_enter Try.func52, Try.ntmps52
    go_wp2_with fail
    go_ret
    rw [HE.out]
    exact ⟨rfl, rfl⟩
  · have HE : Hid (szN left n = left - (n : Int)) := by show _ = _; rw [szN, if_neg h]
    go_enter Try.func52, Try.ntmps52
    go_wp2_with fail
    go_ret
    rw [HE.out]
    exact ⟨rfl, rfl⟩
set_option maxHeartbeats 2000000 in
theorem szTxs_any (a : Option Addr) (c : Nat) (l : List (List UInt8)) (left : Int) (w : World) (h0 : 0 ≤ left) (h1 : left ≤ 1048576) (hn : l.length ≤ 9223372036854775807) (hA : ∀ i, (l.getD i []).length ≤ 9223372036854775807) (hS : HoldTx w a l) :
    Calls Try.prog 51 #[.slice a l.length c, .int .i64 left] w fun e w' => e = .returned (.int .i64 (szTx left l)) ∧ w' = w := by
  have HS := hidd hS
  have HA := hidd hA
  clear hS hA
  by_cases h : left - (l.length : Int) < 0
  · have HE : Hid (szTx left l = -1) := by show _ = _; rw [szTx, if_pos h]
    go_enter Try.func51, Try.ntmps51
    go_wp2_with fail
    go_ret
    rw [HE.out]
    exact ⟨rfl, rfl⟩
  · obtain ⟨R, hR⟩ : ∃ R, szTx left l = R := ⟨_, rfl⟩
    rw [hR]
    have HE : Hid (szG (fun a t => szN a t.length) (left - (l.length : Int)) l = R) := by show _ = _; rw [← hR, szTx, if_neg h]
    clear hR
    go_enter Try.func51, Try.ntmps51
    go_wp2_with fail
    go_loopw [1, 5] (fun lv iv wr => ∃ (k : Nat) (x : Int), k ≤ l.length ∧ iv = .int .i64 (k : Int) ∧ lv = .int .i64 x ∧ 0 ≤ x ∧ x ≤ 1048576 ∧ szG (fun a t => szN a t.length) x (l.drop k) = R ∧ wr = w) (fun _ iv _ => l.length - (intOf iv).toNat)
    case atStart => exact ⟨0, _, Nat.zero_le _, rfl, rfl, by omega, by omega, by rw [List.drop_zero]; exact HE.out, rfl⟩
    case round =>
      clear HE
      obtain ⟨k, x, hk, rfl, rfl, hx0, hx1, hgo, hww⟩ := hrel
      have hww' := hww.symm
      subst hww'
      clear hww
      have HG := hidd hgo
      clear hgo
      by_cases hlt : k < l.length
      · have hkz : (k : Int) < (l.length : Int) := by omega
        obtain ⟨b, off, rfl, hbl, hc⟩ := HS.out.resolve_left (fun h => by rw [h] at hlt; simp at hlt)
        have x0 := hc k hlt
        rw [szG_step _ l [] k x hlt] at HG
        have hal := HA.out k
        clear hc
        generalize l.getD k [] = t at *
        have htl : (⟨t.toArray⟩ : ByteArray).size = t.length := by rw [Lib.size_eq]
        by_cases hX : x - (t.length : Int) < 0
        · have HR : Hid (R = -1) := by show _ = _; have := HG.out; rw [szN, if_pos hX, if_pos (by omega)] at this; exact this.symm
          go_wp2_with fail
          go_ret
          rw [HR.out]
          exact ⟨rfl, rfl⟩
        · have HR : Hid (szG (fun a (t : List UInt8) => szN a t.length) (x - (t.length : Int)) (l.drop (k + 1)) = R) := by show _ = _; have := HG.out; rw [szN, if_neg hX, if_neg hX] at this; exact this
          go_wp2_with fail
          go_roundw
          case rel => exact ⟨k + 1, x - (t.length : Int), by omega, by go_num, by go_num, by omega, by omega, HR.out, by first | trivial | rfl⟩
          case measure => simp [intOf]; omega
      · have hkz : ¬ (k : Int) < (l.length : Int) := by omega
        rw [List.drop_of_length_le (by omega), szG] at HG
        go_wp2_with fail
        go_ret
        rw [← HG.out]
        exact ⟨rfl, rfl⟩
/-- Lengths as the machine bounds them. -/
def VlLen (v : Vl) : Prop := v.1.length ≤ 9223372036854775807 ∧ v.2.1.length ≤ 9223372036854775807 ∧ v.2.2.length ≤ 9223372036854775807 ∧ ∀ i, (v.2.1.getD i []).length ≤ 9223372036854775807
set_option maxHeartbeats 2000000 in
theorem szVal_any (f : List UInt8) (at_ an : Option Addr) (ct cn : Nat) (tx : List (List UInt8)) (nz : List Int) (left : Int) (w : World) (h0 : 0 ≤ left) (h1 : left ≤ 1048576) (hL : VlLen (f, tx, nz)) (hT : HoldTx w at_ tx) :
    Calls Try.prog 42 #[.agg #[.string ⟨f.toArray⟩, .slice at_ tx.length ct, .slice an nz.length cn], .int .i64 left] w fun e w' => e = .returned (.int .i64 (szVl left (f, tx, nz))) ∧ Below w.heap.size w w' := by
  obtain ⟨hL1, hL2, hL3, hL4⟩ := hL
  dsimp only at hL1 hL2 hL3 hL4
  have HT := hidd hT
  have HL4 := hidd hL4
  clear hT hL4
  have hfl : (⟨f.toArray⟩ : ByteArray).size = f.length := by rw [Lib.size_eq]
  have HBa := hidd ((Below.refl w.heap.size w).alloc (Nat.le_refl _) (.cells #[.string ⟨f.toArray⟩, .slice at_ tx.length ct, .slice an nz.length cn] 72))
  obtain ⟨R, hR⟩ : ∃ R, szVl left (f, tx, nz) = R := ⟨_, rfl⟩
  have HR := hidd hR
  rw [hR]
  clear hR
  go_enter Try.func42, Try.ntmps42
  by_cases hf : left - (f.length : Int) < 0
  · have HE : Hid (R = -1) := by show _ = _; rw [← HR.out, szVl]; dsimp only; rw [szN, if_pos hf, if_pos (by omega)]
    go_wp2_with fail
    go_ret
    rw [HE.out]
    exact ⟨rfl, HBa.out⟩
  · have HR2 : Hid ((if szTx (left - (f.length : Int)) tx < 0 then -1 else szN (szTx (left - (f.length : Int)) tx) nz.length) = R) := by show _ = _; have := HR.out; rw [szVl] at this; dsimp only at this; rw [show szN left f.length = left - (f.length : Int) by rw [szN, if_neg hf], if_neg hf] at this; exact this
    clear HR
    have hle := szTx_le (left - (f.length : Int)) tx (by omega)
    have HS1 := hidd (fun W (hW : HoldTx W at_ tx) => szTxs_any at_ ct tx (left - (f.length : Int)) W (by omega) (by omega) hL2 HL4.out hW)
    generalize szTx (left - (f.length : Int)) tx = Y at *
    go_wp2_with fail
    refine (HS1.out _ (HT.out.below HBa.out)).mono ?_
    rintro e w3 ⟨rfl, hw3⟩
    subst hw3
    dsimp only
    by_cases hY : Y < 0
    · obtain rfl : Y = -1 := by omega
      rw [if_pos hY] at HR2
      go_wp2_with fail
      go_ret
      rw [← HR2.out]
      exact ⟨rfl, HBa.out⟩
    · rw [if_neg hY] at HR2
      have HS2 := hidd (fun W => szInts_any an nz.length cn Y W (by omega) (by omega) hL3)
      have hle2 := szN_le Y nz.length (by omega)
      rw [HR2.out] at HS2 hle2
      clear HR2
      go_wp2_with fail
      refine (HS2.out _).mono ?_
      rintro e w4 ⟨rfl, hw4⟩
      subst hw4
      dsimp only
      by_cases hRn : R < 0
      · obtain rfl : R = -1 := by omega
        go_wp2_with fail
        go_ret
        exact ⟨rfl, HBa.out⟩
      · go_wp2_with fail
        go_ret
        exact ⟨rfl, HBa.out⟩
set_option maxHeartbeats 2000000 in
theorem szVals_any (a : Option Addr) (c : Nat) (V : List Vl) (left : Int) (w : World) (h0 : 0 ≤ left) (h1 : left ≤ 1048576) (hn : V.length ≤ 9223372036854775807) (hA : ∀ i, VlLen (V.getD i vl0)) (hS : HoldV w a V) :
    Calls Try.prog 24 #[.slice a V.length c, .int .i64 left] w fun e w' => e = .returned (.int .i64 (szVs left V)) ∧ Below w.heap.size w w' := by
  have HS := hidd hS
  have HA := hidd hA
  clear hS hA
  by_cases h : left - (V.length : Int) < 0
  · have HE : Hid (szVs left V = -1) := by show _ = _; rw [szVs, if_pos h]
    go_enter Try.func24, Try.ntmps24
    go_wp2_with fail
    go_ret
    rw [HE.out]
    exact ⟨rfl, Below.refl _ _⟩
  · obtain ⟨R, hR⟩ : ∃ R, szVs left V = R := ⟨_, rfl⟩
    rw [hR]
    have HE : Hid (szG szVl (left - (V.length : Int)) V = R) := by show _ = _; rw [← hR, szVs, if_neg h]
    clear hR
    go_enter Try.func24, Try.ntmps24
    go_wp2_with fail
    go_loopw [1, 5] (fun lv iv wr => ∃ (k : Nat) (x : Int), k ≤ V.length ∧ iv = .int .i64 (k : Int) ∧ lv = .int .i64 x ∧ 0 ≤ x ∧ x ≤ 1048576 ∧ szG szVl x (V.drop k) = R ∧ Below w.heap.size w wr) (fun _ iv _ => V.length - (intOf iv).toNat)
    case atStart => exact ⟨0, _, Nat.zero_le _, rfl, rfl, by omega, by omega, by rw [List.drop_zero]; exact HE.out, Below.refl _ _⟩
    case round =>
      clear HE
      obtain ⟨k, x, hk, rfl, rfl, hx0, hx1, hgo, hbel⟩ := hrel
      have HG := hidd hgo
      have HB := hidd hbel
      clear hgo hbel
      by_cases hlt : k < V.length
      · have hkz : (k : Int) < (V.length : Int) := by omega
        obtain ⟨b, off, rfl, hbl, hc⟩ := (HS.out.below HB.out).resolve_left (fun h => by rw [h] at hlt; simp at hlt)
        obtain ⟨x0, ⟨at_, ct, x1, hTx⟩, an, cn, x2, hZ⟩ := hc k hlt
        clear hc hZ
        rw [szG_step szVl V vl0 k x hlt] at HG
        have hal := HA.out k
        generalize V.getD k vl0 = s at *
        obtain ⟨f, tx, nz⟩ := s
        dsimp only at x0 x1 x2 HG hTx
        have hs := szVl_le x (f, tx, nz) hx0
        have HV := hidd (szVal_any f at_ an ct cn tx nz x wr hx0 hx1 hal hTx)
        clear hTx hal
        generalize szVl x (f, tx, nz) = X at *
        go_wp2_with fail
        refine HV.out.mono ?_
        rintro e w3 ⟨rfl, hb3⟩
        have HB3 := hidd (HB.out.trans (hb3.mono HB.out.size))
        clear hb3 HV
        dsimp only
        by_cases hX : X < 0
        · obtain rfl : X = -1 := by omega
          rw [if_pos hX] at HG
          go_wp2_with fail
          go_ret
          rw [← HG.out]
          exact ⟨rfl, HB3.out⟩
        · rw [if_neg hX] at HG
          go_wp2_with fail
          go_roundw
          case rel => exact ⟨k + 1, X, by omega, by go_num, rfl, by omega, by omega, HG.out, HB3.out⟩
          case measure => simp [intOf]; omega
      · have hkz : ¬ (k : Int) < (V.length : Int) := by omega
        rw [List.drop_of_length_le (by omega), szG] at HG
        go_wp2_with fail
        go_ret
        rw [← HG.out]
        exact ⟨rfl, HB.out⟩
set_option maxHeartbeats 1000000 in
theorem szDoc_any (id : List UInt8) (a : Option Addr) (cap : Nat) (V : List Vl) (left : Int) (w : World) (h0 : 0 ≤ left) (h1 : left ≤ 1048576) (hi : id.length ≤ 9223372036854775807) (hn : V.length ≤ 9223372036854775807) (hA : ∀ i, VlLen (V.getD i vl0)) (hS : HoldV w a V) :
    Calls Try.prog 13 #[.agg #[.string ⟨id.toArray⟩, .slice a V.length cap], .int .i64 left] w fun e w' => e = .returned (.int .i64 (szDcL left (id, V))) ∧ Below w.heap.size w w' := by
  have HBa := hidd ((Below.refl w.heap.size w).alloc (Nat.le_refl _) (.cells #[.string ⟨id.toArray⟩, .slice a V.length cap] 24))
  have HS := hidd hS
  have HA := hidd hA
  clear hS hA
  have hfl : (⟨id.toArray⟩ : ByteArray).size = id.length := by rw [Lib.size_eq]
  obtain ⟨R, hR⟩ : ∃ R, szDcL left (id, V) = R := ⟨_, rfl⟩
  have HR := hidd hR
  rw [hR]
  clear hR
  go_enter Try.func13, Try.ntmps13
  by_cases hf : left - (id.length : Int) < 0
  · have HE : Hid (R = -1) := by show _ = _; rw [← HR.out, szDcL]; dsimp only; rw [szN, if_pos hf, if_pos (by omega)]
    go_wp2_with fail
    go_ret
    rw [HE.out]
    exact ⟨rfl, HBa.out⟩
  · have HR2 : Hid (szVs (left - (id.length : Int)) V = R) := by show _ = _; have := HR.out; rw [szDcL] at this; dsimp only at this; rw [show szN left id.length = left - (id.length : Int) by rw [szN, if_neg hf], if_neg hf] at this; exact this
    clear HR
    have hle := szVs_le (left - (id.length : Int)) V (by omega)
    have HS1 := hidd (fun W (hW : HoldV W a V) => szVals_any a cap V (left - (id.length : Int)) W (by omega) (by omega) hn HA.out hW)
    rw [HR2.out] at hle HS1
    clear HR2
    go_wp2_with fail
    refine (HS1.out _ (HS.out.below HBa.out)).mono ?_
    rintro e w3 ⟨rfl, hb3⟩
    have HB3 := hidd (HBa.out.trans (hb3.mono HBa.out.size))
    clear hb3
    dsimp only
    by_cases hX : R < 0
    · obtain rfl : R = -1 := by omega
      go_wp2_with fail
      go_ret
      exact ⟨rfl, HB3.out⟩
    · go_wp2_with fail
      go_ret
      exact ⟨rfl, HB3.out⟩
end Go.Proofs.Ytefhmbnhhkgifaa
