import Derived.Test.YtgoklapafidpkaaGreatDoorDocOKJ44
import Derived.Test.YtgoklapafidpkaaGreatDoorDocOKJ00
namespace Go.Proofs.YtgoklapafidpkaaGreatDoor
open Go Go.RowKit
set_option linter.unusedVariables false
set_option maxRecDepth 100000

set_option maxHeartbeats 1000000 in
theorem szInts_any (a : Option Addr) (n c : Nat) (left : Int) (w : World) (h0 : 0 ≤ left) (h1 : left ≤ 1048576) (hn : n ≤ 9223372036854775807) :
    Calls Tryz.prog 101 #[.slice a n c, .int .i64 left] w fun e w' => e = .returned (.int .i64 (szN left n)) ∧ w' = w := by
  by_cases h : left - (n : Int) < 0
  · have HE : Hid (szN left n = -1) := by show _ = _; rw [szN, if_pos h]
    go_enter Tryz.func101, Tryz.ntmps101
    go_wp2_with fail
    go_ret
    rw [HE.out]
    exact ⟨rfl, rfl⟩
  · have HE : Hid (szN left n = left - (n : Int)) := by show _ = _; rw [szN, if_neg h]
    go_enter Tryz.func101, Tryz.ntmps101
    go_wp2_with fail
    go_ret
    rw [HE.out]
    exact ⟨rfl, rfl⟩
set_option maxHeartbeats 2000000 in
theorem szTxs_any (a : Option Addr) (c : Nat) (l : List (List UInt8)) (left : Int) (w : World) (h0 : 0 ≤ left) (h1 : left ≤ 1048576) (hn : l.length ≤ 9223372036854775807) (hA : ∀ i, (l.getD i []).length ≤ 9223372036854775807) (hS : HoldTx w a l) :
    Calls Tryz.prog 100 #[.slice a l.length c, .int .i64 left] w fun e w' => e = .returned (.int .i64 (szTx left l)) ∧ w' = w := by
  have HS := hidd hS
  have HA := hidd hA
  clear hS hA
  by_cases h : left - (l.length : Int) < 0
  · have HE : Hid (szTx left l = -1) := by show _ = _; rw [szTx, if_pos h]
    go_enter Tryz.func100, Tryz.ntmps100
    go_wp2_with fail
    go_ret
    rw [HE.out]
    exact ⟨rfl, rfl⟩
  · obtain ⟨R, hR⟩ : ∃ R, szTx left l = R := ⟨_, rfl⟩
    rw [hR]
    have HE : Hid (szG (fun a t => szN a t.length) (left - (l.length : Int)) l = R) := by show _ = _; rw [← hR, szTx, if_neg h]
    clear hR
    go_enter Tryz.func100, Tryz.ntmps100
    go_wp2_with fail
    go_loopw [1, 5] (fun lv iv wr => ∃ (k : Nat) (x : Int), k ≤ l.length ∧ iv = .int .i64 (k : Int) ∧ lv = .int .i64 x ∧ 0 ≤ x ∧ x ≤ 1048576 ∧ szG (fun a t => szN a t.length) x (l.drop k) = R ∧ wr = w) (fun _ iv _ => l.length - (intOf iv).toNat)
    case atStart => exact ⟨0, _, Nat.zero_le _, rfl, rfl, by omega, by omega, by rw [List.drop_zero]; exact HE.out, rfl⟩
    case round =>
      clear HE
      obtain ⟨k, x, hk, rfl, rfl, hx0, hx1, hgo, hww⟩ := hrel
      have hww' := hww.symm
      subst hww'
      clear hww
      have HG := hidd hgo
      clear hgo
      by_cases hlt : k < l.length
      · have hkz : (k : Int) < (l.length : Int) := by omega
        obtain ⟨b, off, rfl, hbl, hc⟩ := HS.out.resolve_left (fun h => by rw [h] at hlt; simp at hlt)
        have x0 := hc k hlt
        rw [szG_step _ l [] k x hlt] at HG
        have hal := HA.out k
        clear hc
        generalize l.getD k [] = t at *
        have htl : (⟨t.toArray⟩ : ByteArray).size = t.length := by rw [Lib.size_eq]
        by_cases hX : x - (t.length : Int) < 0
        · have HR : Hid (R = -1) := by show _ = _; have := HG.out; rw [szN, if_pos hX, if_pos (by omega)] at this; exact this.symm
          go_wp2_with fail
          go_ret
          rw [HR.out]
          exact ⟨rfl, rfl⟩
        · have HR : Hid (szG (fun a (t : List UInt8) => szN a t.length) (x - (t.length : Int)) (l.drop (k + 1)) = R) := by show _ = _; have := HG.out; rw [szN, if_neg hX, if_neg hX] at this; exact this
          go_wp2_with fail
          go_roundw
          case rel => exact ⟨k + 1, x - (t.length : Int), by omega, by go_num, by go_num, by omega, by omega, HR.out, by first | trivial | rfl⟩
          case measure => simp [intOf]; omega
      · have hkz : ¬ (k : Int) < (l.length : Int) := by omega
        rw [List.drop_of_length_le (by omega), szG] at HG
        go_wp2_with fail
        go_ret
        rw [← HG.out]
        exact ⟨rfl, rfl⟩
/-- Lengths as the machine bounds them. -/
def VlLen (v : Vl) : Prop := v.1.length ≤ 9223372036854775807 ∧ v.2.1.length ≤ 9223372036854775807 ∧ v.2.2.length ≤ 9223372036854775807 ∧ ∀ i, (v.2.1.getD i []).length ≤ 9223372036854775807
set_option maxHeartbeats 2000000 in
theorem szVal_any (f : List UInt8) (at_ an : Option Addr) (ct cn : Nat) (tx : List (List UInt8)) (nz : List Int) (left : Int) (w : World) (h0 : 0 ≤ left) (h1 : left ≤ 1048576) (hL : VlLen (f, tx, nz)) (hT : HoldTx w at_ tx) :
    Calls Tryz.prog 61 #[.agg #[.string ⟨f.toArray⟩, .slice at_ tx.length ct, .slice an nz.length cn], .int .i64 left] w fun e w' => e = .returned (.int .i64 (szVl left (f, tx, nz))) ∧ Below w.heap.size w w' := by
  obtain ⟨hL1, hL2, hL3, hL4⟩ := hL
  dsimp only at hL1 hL2 hL3 hL4
  have HT := hidd hT
  have HL4 := hidd hL4
  clear hT hL4
  have hfl : (⟨f.toArray⟩ : ByteArray).size = f.length := by rw [Lib.size_eq]
  have HBa := hidd ((Below.refl w.heap.size w).alloc (Nat.le_refl _) (.cells #[.string ⟨f.toArray⟩, .slice at_ tx.length ct, .slice an nz.length cn] 115))
  obtain ⟨R, hR⟩ : ∃ R, szVl left (f, tx, nz) = R := ⟨_, rfl⟩
  have HR := hidd hR
  rw [hR]
  clear hR
  go_enter Tryz.func61, Tryz.ntmps61
  by_cases hf : left - (f.length : Int) < 0
  · have HE : Hid (R = -1) := by show _ = _; rw [← HR.out, szVl]; dsimp only; rw [szN, if_pos hf, if_pos (by omega)]
    go_wp2_with fail
    go_ret
    rw [HE.out]
    exact ⟨rfl, HBa.out⟩
  · have HR2 : Hid ((if szTx (left - (f.length : Int)) tx < 0 then -1 else szN (szTx (left - (f.length : Int)) tx) nz.length) = R) := by show _ = _; have := HR.out; rw [szVl] at this; dsimp only at this; rw [show szN left f.length = left - (f.length : Int) by rw [szN, if_neg hf], if_neg hf] at this; exact this
    clear HR
    have hle := szTx_le (left - (f.length : Int)) tx (by omega)
    have HS1 := hidd (fun W (hW : HoldTx W at_ tx) => szTxs_any at_ ct tx (left - (f.length : Int)) W (by omega) (by omega) hL2 HL4.out hW)
    generalize szTx (left - (f.length : Int)) tx = Y at *
    go_wp2_with fail
    refine (HS1.out _ (HT.out.below HBa.out)).mono ?_
    rintro e w3 ⟨rfl, hw3⟩
    subst hw3
    dsimp only
    by_cases hY : Y < 0
    · obtain rfl : Y = -1 := by omega
      rw [if_pos hY] at HR2
      go_wp2_with fail
      go_ret
      rw [← HR2.out]
      exact ⟨rfl, HBa.out⟩
    · rw [if_neg hY] at HR2
      have HS2 := hidd (fun W => szInts_any an nz.length cn Y W (by omega) (by omega) hL3)
      have hle2 := szN_le Y nz.length (by omega)
      rw [HR2.out] at HS2 hle2
      clear HR2
      go_wp2_with fail
      refine (HS2.out _).mono ?_
      rintro e w4 ⟨rfl, hw4⟩
      subst hw4
      dsimp only
      by_cases hRn : R < 0
      · obtain rfl : R = -1 := by omega
        go_wp2_with fail
        go_ret
        exact ⟨rfl, HBa.out⟩
      · go_wp2_with fail
        go_ret
        exact ⟨rfl, HBa.out⟩
set_option maxHeartbeats 2000000 in
theorem szVals_any (a : Option Addr) (c : Nat) (V : List Vl) (left : Int) (w : World) (h0 : 0 ≤ left) (h1 : left ≤ 1048576) (hn : V.length ≤ 9223372036854775807) (hA : ∀ i, VlLen (V.getD i vl0)) (hS : HoldV w a V) :
    Calls Tryz.prog 29 #[.slice a V.length c, .int .i64 left] w fun e w' => e = .returned (.int .i64 (szVs left V)) ∧ Below w.heap.size w w' := by
  have HS := hidd hS
  have HA := hidd hA
  clear hS hA
  by_cases h : left - (V.length : Int) < 0
  · have HE : Hid (szVs left V = -1) := by show _ = _; rw [szVs, if_pos h]
    go_enter Tryz.func29, Tryz.ntmps29
    go_wp2_with fail
    go_ret
    rw [HE.out]
    exact ⟨rfl, Below.refl _ _⟩
  · obtain ⟨R, hR⟩ : ∃ R, szVs left V = R := ⟨_, rfl⟩
    rw [hR]
    have HE : Hid (szG szVl (left - (V.length : Int)) V = R) := by show _ = _; rw [← hR, szVs, if_neg h]
    clear hR
    go_enter Tryz.func29, Tryz.ntmps29
    go_wp2_with fail
    go_loopw [1, 5] (fun lv iv wr => ∃ (k : Nat) (x : Int), k ≤ V.length ∧ iv = .int .i64 (k : Int) ∧ lv = .int .i64 x ∧ 0 ≤ x ∧ x ≤ 1048576 ∧ szG szVl x (V.drop k) = R ∧ Below w.heap.size w wr) (fun _ iv _ => V.length - (intOf iv).toNat)
    case atStart => exact ⟨0, _, Nat.zero_le _, rfl, rfl, by omega, by omega, by rw [List.drop_zero]; exact HE.out, Below.refl _ _⟩
    case round =>
      clear HE
      obtain ⟨k, x, hk, rfl, rfl, hx0, hx1, hgo, hbel⟩ := hrel
      have HG := hidd hgo
      have HB := hidd hbel
      clear hgo hbel
      by_cases hlt : k < V.length
      · have hkz : (k : Int) < (V.length : Int) := by omega
        obtain ⟨b, off, rfl, hbl, hc⟩ := (HS.out.below HB.out).resolve_left (fun h => by rw [h] at hlt; simp at hlt)
        obtain ⟨x0, ⟨at_, ct, x1, hTx⟩, an, cn, x2, hZ⟩ := hc k hlt
        clear hc hZ
        rw [szG_step szVl V vl0 k x hlt] at HG
        have hal := HA.out k
        generalize V.getD k vl0 = s at *
        obtain ⟨f, tx, nz⟩ := s
        dsimp only at x0 x1 x2 HG hTx
        have hs := szVl_le x (f, tx, nz) hx0
        have HV := hidd (szVal_any f at_ an ct cn tx nz x wr hx0 hx1 hal hTx)
        clear hTx hal
        generalize szVl x (f, tx, nz) = X at *
        go_wp2_with fail
        refine HV.out.mono ?_
        rintro e w3 ⟨rfl, hb3⟩
        have HB3 := hidd (HB.out.trans (hb3.mono HB.out.size))
        clear hb3 HV
        dsimp only
        by_cases hX : X < 0
        · obtain rfl : X = -1 := by omega
          rw [if_pos hX] at HG
          go_wp2_with fail
          go_ret
          rw [← HG.out]
          exact ⟨rfl, HB3.out⟩
        · rw [if_neg hX] at HG
          go_wp2_with fail
          go_roundw
          case rel => exact ⟨k + 1, X, by omega, by go_num, rfl, by omega, by omega, HG.out, HB3.out⟩
          case measure => simp [intOf]; omega
      · have hkz : ¬ (k : Int) < (V.length : Int) := by omega
        rw [List.drop_of_length_le (by omega), szG] at HG
        go_wp2_with fail
        go_ret
        rw [← HG.out]
        exact ⟨rfl, HB.out⟩
set_option maxHeartbeats 1000000 in
theorem szDoc_any (id : List UInt8) (a : Option Addr) (cap : Nat) (V : List Vl) (left : Int) (w : World) (h0 : 0 ≤ left) (h1 : left ≤ 1048576) (hi : id.length ≤ 9223372036854775807) (hn : V.length ≤ 9223372036854775807) (hA : ∀ i, VlLen (V.getD i vl0)) (hS : HoldV w a V) :
    Calls Tryz.prog 7 #[.agg #[.string ⟨id.toArray⟩, .slice a V.length cap], .int .i64 left] w fun e w' => e = .returned (.int .i64 (szDcL left (id, V))) ∧ Below w.heap.size w w' := by
  have HBa := hidd ((Below.refl w.heap.size w).alloc (Nat.le_refl _) (.cells #[.string ⟨id.toArray⟩, .slice a V.length cap] 27))
  have HS := hidd hS
  have HA := hidd hA
  clear hS hA
  have hfl : (⟨id.toArray⟩ : ByteArray).size = id.length := by rw [Lib.size_eq]
  obtain ⟨R, hR⟩ : ∃ R, szDcL left (id, V) = R := ⟨_, rfl⟩
  have HR := hidd hR
  rw [hR]
  clear hR
  go_enter Tryz.func7, Tryz.ntmps7
  by_cases hf : left - (id.length : Int) < 0
  · have HE : Hid (R = -1) := by show _ = _; rw [← HR.out, szDcL]; dsimp only; rw [szN, if_pos hf, if_pos (by omega)]
    go_wp2_with fail
    go_ret
    rw [HE.out]
    exact ⟨rfl, HBa.out⟩
  · have HR2 : Hid (szVs (left - (id.length : Int)) V = R) := by show _ = _; have := HR.out; rw [szDcL] at this; dsimp only at this; rw [show szN left id.length = left - (id.length : Int) by rw [szN, if_neg hf], if_neg hf] at this; exact this
    clear HR
    have hle := szVs_le (left - (id.length : Int)) V (by omega)
    have HS1 := hidd (fun W (hW : HoldV W a V) => szVals_any a cap V (left - (id.length : Int)) W (by omega) (by omega) hn HA.out hW)
    rw [HR2.out] at hle HS1
    clear HR2
    go_wp2_with fail
    refine (HS1.out _ (HS.out.below HBa.out)).mono ?_
    rintro e w3 ⟨rfl, hb3⟩
    have HB3 := hidd (HBa.out.trans (hb3.mono HBa.out.size))
    clear hb3
    dsimp only
    by_cases hX : R < 0
    · obtain rfl : R = -1 := by omega
      go_wp2_with fail
      go_ret
      exact ⟨rfl, HB3.out⟩
    · go_wp2_with fail
      go_ret
      exact ⟨rfl, HB3.out⟩
end Go.Proofs.YtgoklapafidpkaaGreatDoor

namespace Go.Proofs.YtgoklapafidpkaaGreatDoor
open Go Go.RowKit
set_option linter.unusedVariables false
set_option maxRecDepth 100000

theorem Tryz.infoStrD : (Tryz.prog.info? 9).map (fun i => (i.zero, i.size, i.bytes)) = some (some (.string ⟨#[]⟩), 1, 16) := by kernel_rfl
theorem Tryz.infoIntD : (Tryz.prog.info? 3).map (fun i => (i.zero, i.size, i.bytes)) = some (some (.int .i64 0), 1, 8) := by kernel_rfl
def mkS (t : List UInt8) : Value := .string ⟨t.toArray⟩
def mkI (z : Int) : Value := .int .i64 z
/-- A row of its own, of type ty, that begins with the cells of l. -/
def RowF {X : Type} (mk : X → Value) (ty : TypeId) (d : X) (w : World) (g : Nat) (l : List X) : Prop := ∃ cur, w.heap[g]? = some (Obj.cells cur ty) ∧ l.length ≤ cur.size ∧ ∀ i, i < l.length → cur[i]? = some (mk (l.getD i d))
abbrev RowTx (w : World) (g : Nat) (l : List (List UInt8)) : Prop := RowF mkS 9 [] w g l
abbrev RowNz (w : World) (g : Nat) (l : List Int) : Prop := RowF mkI 3 0 w g l
theorem RowF.keep {X : Type} {mk : X → Value} {ty : TypeId} {d : X} {w w' : World} {g : Nat} {l : List X} (h : RowF mk ty d w g l) (hk : w'.heap[g]? = w.heap[g]?) : RowF mk ty d w' g l := by
  obtain ⟨cur, h1, h2, h3⟩ := h
  exact ⟨cur, hk.trans h1, h2, h3⟩
theorem RowF.lt {X : Type} {mk : X → Value} {ty : TypeId} {d : X} {w : World} {g : Nat} {l : List X} (h : RowF mk ty d w g l) : g < w.heap.size := by
  obtain ⟨cur, h1, h2, h3⟩ := h
  exact (Array.getElem?_eq_some_iff.1 h1).1
theorem RowF.below {X : Type} {mk : X → Value} {ty : TypeId} {d : X} {w w' : World} {g : Nat} {l : List X} (h : RowF mk ty d w g l) (hb : Below w.heap.size w w') : RowF mk ty d w' g l := h.keep (hb.block g h.lt)
theorem RowTx.hold {w : World} {g : Nat} {l : List (List UInt8)} (h : RowTx w g l) : HoldTx w (some ⟨g, 0, none⟩) l := by
  refine Or.inr ⟨g, 0, rfl, h.lt, fun i hi => ?_⟩
  obtain ⟨cur, h1, h2, h3⟩ := h
  rw [Nat.zero_add, blkc h1, h3 i hi]; rfl
theorem RowNz.hold {w : World} {g : Nat} {l : List Int} (h : RowNz w g l) : HoldZ w (some ⟨g, 0, none⟩) l := by
  refine Or.inr ⟨g, 0, rfl, h.lt, fun i hi => ?_⟩
  obtain ⟨cur, h1, h2, h3⟩ := h
  rw [Nat.zero_add, blkc h1, h3 i hi]; rfl
theorem row_own {X : Type} (mk : X → Value) (l : List X) (d : X) {w : World} {base g : Nat} {ty : TypeId} (h : w.ownsRow base ty 1 (.slice (some ⟨g, 0, none⟩) l.length l.length) l.length (l.map mk)) : RowF mk ty d w g l := by
  rcases h.2 with ⟨h', _⟩ | ⟨g', cap, cur, h', _, hg, hc1, hc2, hc3, hc4⟩
  · simp at h'
  · simp only [Value.slice.injEq, Option.some.injEq, Addr.mk.injEq, and_true, true_and] at h'
    obtain ⟨rfl, rfl⟩ := h'
    refine ⟨cur, hg, by omega, fun i hi => ?_⟩
    have := h.cellAt i (by omega)
    rw [blkc hg] at this
    rw [this]
    simp [hi]
theorem setOne {X : Type} (mk : X → Value) (l : List X) (d : X) (k : Nat) (xs : List Value) (hx : xs.length = l.length) (hk : k < l.length) : ((l.take k).map mk ++ xs.drop k).set k (mk (l.getD k d)) = (l.take (k + 1)).map mk ++ xs.drop (k + 1) := by
  have e : ((l.take k).map mk).length = k := by simp; omega
  rw [List.set_append_right _ _ (by omega), e, Nat.sub_self, List.drop_eq_getElem_cons (l := xs) (i := k) (by omega), List.set_cons_zero, List.take_succ_eq_append_getElem hk, List.getD_eq_getElem?_getD, List.getElem?_eq_getElem hk, List.map_append, List.append_assoc]
  rfl
set_option maxHeartbeats 2000000 in
theorem toTx_any (a : Option Addr) (cap : Nat) (l : List (List UInt8)) (w : World) (hn : l.length ≤ 1048576) (hS : HoldTx w a l) :
    Calls Tryz.prog 105 #[.slice a l.length cap] w fun e w' => e = .returned (.slice (some ⟨w.heap.size, 0, none⟩) l.length l.length) ∧ RowTx w' w.heap.size l ∧ Below w.heap.size w w' := by
  obtain ⟨i0, hi, hz0, hz1, hz2⟩ := info_parts Tryz.infoStrD
  have HS := hidd hS
  clear hS
  go_enter Tryz.func105, Tryz.ntmps105
  go_wp2_with (at_make; refine wpList_make_full _ rfl _ _ 57 rfl w.heap.size 9 i0 (.string ⟨#[]⟩) 1 Tryz.underlying57 hi hz0 hz1 _ _ _ _ l.length rfl rfl (by omega) (by omega) ?b2 ?b3 (Nat.le_refl _) ?_)
  case b2 => (first | omega | (rw [hz2]; omega))
  case b3 => unfold maxLen; omega
  intro w0 hown0 hgrow0
  generalize (madeCells #[Value.string ⟨#[]⟩] l.length).toList = xs at hown0
  have hxl : xs.length = l.length := by have := hown0.1; omega
  have HO0 := hidd hown0
  have HB0 : Hid (Below w.heap.size w w0) := (Below.refl _ _).grown hgrow0 (Nat.le_refl _) (fun k h => by cases h)
  clear hown0 hgrow0
  go_wp2
  go_loopw [4] (fun i wr => ∃ k : Nat, k ≤ l.length ∧ i = .int .i64 k ∧ wr.ownsRow w.heap.size 9 1 (.slice (some ⟨w.heap.size, 0, none⟩) l.length l.length) l.length ((l.take k).map mkS ++ xs.drop k) ∧ Below w.heap.size w wr) (fun i _ => l.length - (intOf i).toNat)
  case atStart => exact ⟨0, Nat.zero_le _, rfl, HO0.out, HB0.out⟩
  case round =>
    obtain ⟨k, hk, rfl, hown, hbel⟩ := hrel
    have HO := hidd hown
    have HB := hidd hbel
    by_cases hlt : k < l.length
    · obtain ⟨b, off, rfl, hbl, hc⟩ := HS.out.resolve_left (fun h => by rw [h] at hlt; simp at hlt)
      have g1 := (hbel.cell (p := ⟨b, off + k, none⟩) hbl).trans (hc k hlt)
      have f1 := hown.frozenAt k
      have hex : ∃ u, wr.cell? ⟨w.heap.size, k, none⟩ = some u := by
        rw [hown.cellAt k (by omega)]
        have hlen : k < ((l.take k).map mkS ++ xs.drop k).length := by rw [List.length_append, List.length_map, List.length_take, List.length_drop]; omega
        exact ⟨_, List.getElem?_eq_getElem hlen⟩
      obtain ⟨u, q1⟩ := hex
      have HSet := hidd (setOne mkS l [] k xs hxl hlt)
      generalize l.getD k [] = t at *
      clear hown hbel hc
      go_wp2
      go_roundw
      case rel =>
        have st := (HO.out.stored k (mkS t)).1
        rw [HSet.out] at st
        exact ⟨k + 1, by omega, by go_num, st, HB.out.setCell (p := ⟨w.heap.size, k, none⟩) (Nat.le_refl _) _⟩
      case measure => simp [intOf]; omega
    · have HF := HO.out
      rw [List.take_of_length_le (by omega), List.drop_of_length_le (by omega), List.append_nil] at HF
      have HF2 := hidd (row_own mkS l [] HF)
      clear HF hown hbel
      go_wp2
      go_ret
      exact ⟨rfl, HF2.out, HB.out⟩
set_option maxHeartbeats 2000000 in
theorem toNz_any (a : Option Addr) (cap : Nat) (l : List Int) (w : World) (hn : l.length ≤ 1048576) (hS : HoldZ w a l) :
    Calls Tryz.prog 106 #[.slice a l.length cap] w fun e w' => e = .returned (.slice (some ⟨w.heap.size, 0, none⟩) l.length l.length) ∧ RowNz w' w.heap.size l ∧ Below w.heap.size w w' := by
  obtain ⟨i0, hi, hz0, hz1, hz2⟩ := info_parts Tryz.infoIntD
  have HS := hidd hS
  clear hS
  go_enter Tryz.func106, Tryz.ntmps106
  go_wp2_with (at_make; refine wpList_make_full _ rfl _ _ 58 rfl w.heap.size 3 i0 (.int .i64 0) 1 Tryz.underlying58 hi hz0 hz1 _ _ _ _ l.length rfl rfl (by omega) (by omega) ?b2 ?b3 (Nat.le_refl _) ?_)
  case b2 => (first | omega | (rw [hz2]; omega))
  case b3 => unfold maxLen; omega
  intro w0 hown0 hgrow0
  generalize (madeCells #[Value.int .i64 0] l.length).toList = xs at hown0
  have hxl : xs.length = l.length := by have := hown0.1; omega
  have HO0 := hidd hown0
  have HB0 : Hid (Below w.heap.size w w0) := (Below.refl _ _).grown hgrow0 (Nat.le_refl _) (fun k h => by cases h)
  clear hown0 hgrow0
  go_wp2
  go_loopw [4] (fun i wr => ∃ k : Nat, k ≤ l.length ∧ i = .int .i64 k ∧ wr.ownsRow w.heap.size 3 1 (.slice (some ⟨w.heap.size, 0, none⟩) l.length l.length) l.length ((l.take k).map mkI ++ xs.drop k) ∧ Below w.heap.size w wr) (fun i _ => l.length - (intOf i).toNat)
  case atStart => exact ⟨0, Nat.zero_le _, rfl, HO0.out, HB0.out⟩
  case round =>
    obtain ⟨k, hk, rfl, hown, hbel⟩ := hrel
    have HO := hidd hown
    have HB := hidd hbel
    by_cases hlt : k < l.length
    · obtain ⟨b, off, rfl, hbl, hc⟩ := HS.out.resolve_left (fun h => by rw [h] at hlt; simp at hlt)
      have g1 := (hbel.cell (p := ⟨b, off + k, none⟩) hbl).trans (hc k hlt)
      have f1 := hown.frozenAt k
      have hex : ∃ u, wr.cell? ⟨w.heap.size, k, none⟩ = some u := by
        rw [hown.cellAt k (by omega)]
        have hlen : k < ((l.take k).map mkI ++ xs.drop k).length := by rw [List.length_append, List.length_map, List.length_take, List.length_drop]; omega
        exact ⟨_, List.getElem?_eq_getElem hlen⟩
      obtain ⟨u, q1⟩ := hex
      have HSet := hidd (setOne mkI l 0 k xs hxl hlt)
      generalize l.getD k 0 = t at *
      clear hown hbel hc
      go_wp2
      go_roundw
      case rel =>
        have st := (HO.out.stored k (mkI t)).1
        rw [HSet.out] at st
        exact ⟨k + 1, by omega, by go_num, st, HB.out.setCell (p := ⟨w.heap.size, k, none⟩) (Nat.le_refl _) _⟩
      case measure => simp [intOf]; omega
    · have HF := HO.out
      rw [List.take_of_length_le (by omega), List.drop_of_length_le (by omega), List.append_nil] at HF
      have HF2 := hidd (row_own mkI l 0 HF)
      clear HF hown hbel
      go_wp2
      go_ret
      exact ⟨rfl, HF2.out, HB.out⟩
end Go.Proofs.YtgoklapafidpkaaGreatDoor

namespace Go.Proofs.YtgoklapafidpkaaGreatDoor
open Go Go.RowKit
set_option linter.unusedVariables false
set_option maxRecDepth 100000

set_option maxHeartbeats 4000000 in
theorem toVal_any (f : List UInt8) (at_ an : Option Addr) (ct cn : Nat) (tx : List (List UInt8)) (nz : List Int) (w : World) (hxl : tx.length ≤ 1048576) (hnl : nz.length ≤ 1048576) (hT : HoldTx w at_ tx) (hZ : HoldZ w an nz) :
    Calls Tryz.prog 69 #[.agg #[.string ⟨f.toArray⟩, .slice at_ tx.length ct, .slice an nz.length cn]] w fun e w' => ∃ gt gn, e = .returned (.agg #[.string ⟨f.toArray⟩, .slice (some ⟨gt, 0, none⟩) tx.length tx.length, .slice (some ⟨gn, 0, none⟩) nz.length nz.length]) ∧ w.heap.size ≤ gt ∧ w.heap.size ≤ gn ∧ RowTx w' gt tx ∧ RowNz w' gn nz ∧ Below w.heap.size w w' := by
  have HT := hidd hT
  have HZ := hidd hZ
  clear hT hZ
  go_enter Tryz.func69, Tryz.ntmps69
  go_upto_region 3 with fail
  obtain ⟨W3, hW3⟩ : ∃ W3, ((w.alloc (.cells #[.string ⟨f.toArray⟩, .slice at_ tx.length ct, .slice an nz.length cn] 115)).alloc (.cells #[.string ⟨#[]⟩, .slice none 0 0, .slice none 0 0] 60)).alloc (.cells #[.string ⟨f.toArray⟩, .slice none 0 0, .slice none 0 0] 60) = W3 := ⟨_, rfl⟩
  have hk0 : W3.heap[w.heap.size]? = some (.cells #[.string ⟨f.toArray⟩, .slice at_ tx.length ct, .slice an nz.length cn] 115) ∧ W3.heap[w.heap.size + 1]? = some (.cells #[.string ⟨#[]⟩, .slice none 0 0, .slice none 0 0] 60) ∧ W3.heap[w.heap.size + 1 + 1]? = some (.cells #[.string ⟨f.toArray⟩, .slice none 0 0, .slice none 0 0] 60) ∧ W3.heap.size = w.heap.size + 3 := by
    rw [← hW3]
    have h2 := box_two w (.cells #[.string ⟨f.toArray⟩, .slice at_ tx.length ct, .slice an nz.length cn] 115) (.cells #[.string ⟨#[]⟩, .slice none 0 0, .slice none 0 0] 60)
    refine ⟨?_, ?_, ?_, by simp⟩
    · rw [Below.heap_alloc _ _ _ (by simp; omega)]; exact h2.1
    · rw [Below.heap_alloc _ _ _ (by simp)]; exact h2.2
    · have := heap_alloc_new ((w.alloc (.cells #[.string ⟨f.toArray⟩, .slice at_ tx.length ct, .slice an nz.length cn] 115)).alloc (.cells #[.string ⟨#[]⟩, .slice none 0 0, .slice none 0 0] 60)) (.cells #[.string ⟨f.toArray⟩, .slice none 0 0, .slice none 0 0] 60)
      simpa using this
  have HB3 : Hid (Below w.heap.size w W3) := by
    show Below _ _ _
    rw [← hW3]
    exact (((Below.refl _ _).alloc (Nat.le_refl _) _).alloc (by simp) _).alloc (by simp; omega) _
  try rw [hW3]
  clear hW3
  have HK := hidd hk0
  clear hk0
  have hz3 := HK.out.2.2.2
  have q1 : W3.cell? ⟨w.heap.size, 1, none⟩ = some (.slice at_ tx.length ct) := blkc HK.out.1 1
  have HC1 := hidd (toTx_any at_ ct tx W3 hxl (HT.out.below HB3.out))
  go_wp2_with fail
  refine HC1.out.mono ?_
  rintro e w4 ⟨rfl, hr4, hb4⟩
  have HR4 := hidd hr4
  have HB4 := hidd (HB3.out.trans (hb4.mono HB3.out.size))
  have HK0 := hidd (blko HK.out.1 hb4)
  have HK1 := hidd (blko HK.out.2.1 hb4)
  have HK2 := hidd (blko HK.out.2.2.1 hb4)
  have c21 : w4.cell? ⟨w.heap.size + 1 + 1, 1, none⟩ = some (.slice none 0 0) := blkc HK2.out 1
  have f21 : w4.frozen? ⟨w.heap.size + 1 + 1, 1, none⟩ = false := frozen_of_row w4 _ 1 _ _ HK2.out
  rw [hz3] at HR4
  try rw [hz3]
  have hz4 : w.heap.size + 3 ≤ w4.heap.size := by have := hb4.size; omega
  clear hr4 hb4 HC1 q1 HB3
  dsimp only
  go_upto_region 4 with fail
  obtain ⟨w5, hw5⟩ : ∃ w5, w4.setCell ⟨w.heap.size + 1 + 1, 1, none⟩ (.slice (some ⟨w.heap.size + 3, 0, none⟩) tx.length tx.length) = w5 := ⟨_, rfl⟩
  have k0 := heap_set_other w4 (w.heap.size + 1 + 1) 1 (.slice (some ⟨w.heap.size + 3, 0, none⟩) tx.length tx.length) w.heap.size (by omega)
  have k1 := heap_set_other w4 (w.heap.size + 1 + 1) 1 (.slice (some ⟨w.heap.size + 3, 0, none⟩) tx.length tx.length) (w.heap.size + 1) (by omega)
  have k2 : (w4.setCell ⟨w.heap.size + 1 + 1, 1, none⟩ (.slice (some ⟨w.heap.size + 3, 0, none⟩) tx.length tx.length)).heap[w.heap.size + 1 + 1]? = some (.cells #[.string ⟨f.toArray⟩, .slice (some ⟨w.heap.size + 3, 0, none⟩) tx.length tx.length, .slice none 0 0] 60) := blk_setk HK2.out 1 (.slice (some ⟨w.heap.size + 3, 0, none⟩) tx.length tx.length)
  have r5 : RowTx (w4.setCell ⟨w.heap.size + 1 + 1, 1, none⟩ (.slice (some ⟨w.heap.size + 3, 0, none⟩) tx.length tx.length)) (w.heap.size + 3) tx := HR4.out.keep (heap_set_other w4 (w.heap.size + 1 + 1) 1 (.slice (some ⟨w.heap.size + 3, 0, none⟩) tx.length tx.length) (w.heap.size + 3) (by omega))
  have b5 : Below w.heap.size w (w4.setCell ⟨w.heap.size + 1 + 1, 1, none⟩ (.slice (some ⟨w.heap.size + 3, 0, none⟩) tx.length tx.length)) := HB4.out.setCell (p := ⟨w.heap.size + 1 + 1, 1, none⟩) (by dsimp only; omega) _
  have z5 : (w4.setCell ⟨w.heap.size + 1 + 1, 1, none⟩ (.slice (some ⟨w.heap.size + 3, 0, none⟩) tx.length tx.length)).heap.size = w4.heap.size := by simp
  rw [hw5] at k0 k1 k2 r5 b5 z5
  try rw [hw5]
  clear hw5
  have HJ0 := hidd (k0.trans HK0.out)
  have HJ1 := hidd (k1.trans HK1.out)
  have HJ2 := hidd k2
  have HR5 := hidd r5
  have HB5 := hidd b5
  clear k0 k1 k2 r5 b5 HK0 HK1 HK2 HR4 HB4 HK c21 f21
  have q2 : w5.cell? ⟨w.heap.size, 2, none⟩ = some (.slice an nz.length cn) := blkc HJ0.out 2
  have HC2 := hidd (toNz_any an cn nz w5 hnl (HZ.out.below HB5.out))
  go_wp2_with fail
  refine HC2.out.mono ?_
  rintro e w6 ⟨rfl, hr6, hb6⟩
  have HR6 := hidd hr6
  have HR6t := hidd (HR5.out.below hb6)
  have HB6 := hidd (HB5.out.trans (hb6.mono HB5.out.size))
  have k1 := blko HJ1.out hb6
  have k2 := blko HJ2.out hb6
  have hz6 := hb6.size
  have c10 := blkc k1 0
  have c11 := blkc k1 1
  have c12 := blkc k1 2
  have c20 := blkc k2 0
  have c21 := blkc k2 1
  have c22 := blkc k2 2
  have f10 := frozen_of_row w6 _ 0 _ _ k1
  have f11 := frozen_of_row w6 _ 1 _ _ k1
  have f12 := frozen_of_row w6 _ 2 _ _ k1
  have f22 := frozen_of_row w6 _ 2 _ _ k2
  clear hr6 hb6 HC2 q2 HJ0 HJ1 HJ2 HR5 HB5 k1 k2
  obtain ⟨G, hG⟩ : ∃ G, w5.heap.size = G := ⟨_, rfl⟩
  rw [hG] at HR6 z5 hz6
  try rw [hG]
  clear hG
  dsimp only
  go_wp2_with fail
  refine bodyPost_ret (v := .agg #[.string ⟨f.toArray⟩, .slice (some ⟨w.heap.size + 3, 0, none⟩) tx.length tx.length, .slice (some ⟨G, 0, none⟩) nz.length nz.length]) (by simp [results, Tryz.results69, go_sem, *]) rfl ?_
  refine ⟨w.heap.size + 3, G, rfl, by omega, by omega, ?_, ?_, ?_⟩
  · refine HR6t.out.keep ?_
    iterate 4 rw [heap_set_other _ _ _ _ _ (by omega)]
  · refine HR6.out.keep ?_
    iterate 4 rw [heap_set_other _ _ _ _ _ (by omega)]
  · iterate 4 refine Below.setCell ?_ (by dsimp only; omega) _
    exact HB6.out
end Go.Proofs.YtgoklapafidpkaaGreatDoor
