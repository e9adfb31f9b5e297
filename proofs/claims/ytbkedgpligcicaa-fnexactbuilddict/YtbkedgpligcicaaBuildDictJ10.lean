import Derived.Test.YtbkedgpligcicaaBuildDictJ09
import Derived.Deep.RegionHeld3
import Derived.Deep.AppendLies
import Derived.Deep.RegionLaw
import Derived.Deep.RegionWith
import Derived.Deep.DeepCutAuto
import Derived.Deep.CutBlock
import Derived.Test.YtbkedgpligcicaaBuildDictJ03
import Derived.Test.YtbkedgpligcicaaBuildDictJ07
import Derived.Test.YtbkedgpligcicaaBuildDictJ04
namespace Go.Proofs.Ytbkedgpligcicaa
open Go Go.RowKit
set_option linter.unusedVariables false
set_option maxRecDepth 100000

/-! Searching among arcs. -/
theorem isNaN_any (x : Int) (w : World) : Calls Try.prog 99 #[.int .i64 x] w fun e w' => e = .returned (.bool false) ∧ w' = w := by
  have hx : (x != x) = false := by simp
  go_enter Try.func99, Try.ntmps99
  go_wp2
  go_ret
  exact ⟨rfl, rfl⟩
set_option maxHeartbeats 1000000 in
theorem compare_any (x y : Int) (w : World) : Calls Try.prog 75 #[.int .i64 x, .int .i64 y] w fun e w' => e = .returned (.int .i64 (cmpI x y)) ∧ w' = w := by
  go_enter Try.func75, Try.ntmps75
  by_cases h1 : x < y
  · have hc : cmpI x y = -1 := by rw [cmpI, if_pos h1]
    have HC := hidd hc
    clear hc
    go_wp2_with (go_at_call 99; refine (isNaN_any _ _).mono ?_; rintro e w' ⟨rfl, rfl⟩)
    go_ret
    exact ⟨by rw [HC.out]; rfl, rfl⟩
  · by_cases h2 : y < x
    · have hc : cmpI x y = 1 := by rw [cmpI, if_neg h1, if_pos h2]
      have HC := hidd hc
      have h3 : x > y := h2
      clear hc h2
      go_wp2_with (go_at_call 99; refine (isNaN_any _ _).mono ?_; rintro e w' ⟨rfl, rfl⟩)
      go_ret
      exact ⟨by rw [HC.out]; rfl, rfl⟩
    · have hc : cmpI x y = 0 := by rw [cmpI, if_neg h1, if_neg h2]
      have HC := hidd hc
      have h3 : ¬ x > y := h2
      clear hc h2
      go_wp2_with (go_at_call 99; refine (isNaN_any _ _).mono ?_; rintro e w' ⟨rfl, rfl⟩)
      go_ret
      exact ⟨by rw [HC.out]; rfl, rfl⟩
theorem spell1_any (a0 a1 a2 T : Int) (w : World) : Calls Try.prog 74 #[.agg #[.int .i64 a0, .int .i64 a1, .int .i64 a2], .int .i64 T] w fun e w' => e = .returned (.int .i64 (cmpI a0 T)) ∧ Below w.heap.size w w' := by
  have HB := hidd ((Below.refl w.heap.size w).alloc (Nat.le_refl _) (.cells #[.int .i64 a0, .int .i64 a1, .int .i64 a2] 85))
  go_enter Try.func74, Try.ntmps74
  go_wp2_with (go_at_call 75; refine (compare_any _ _ _).mono ?_; rintro e w' ⟨rfl, rfl⟩)
  go_ret
  exact ⟨rfl, HB.out⟩
theorem half_any {i j : Nat} (h : i + j ≤ 4194304) : IntKind.i64.wrap ((i : Int) + (j : Int)) = ((i + j : Nat) : Int) := by
  have : (i : Int) + (j : Int) = ((i + j : Nat) : Int) := by omega
  rw [this]
  exact IntWalk.i64_in _ ⟨by omega, by omega⟩
end Go.Proofs.Ytbkedgpligcicaa

namespace Go.Proofs.Ytbkedgpligcicaa
open Go Go.RowKit
set_option linter.unusedVariables false
set_option maxRecDepth 100000

/-- What a comparing function is asked. -/
def CmpC (w : World) (g : Nat) (key : Ar → Int) (T : Int) : Prop := ∀ W, Below w.heap.size w W → ∀ x : Ar, Calls Try.prog g #[.agg #[.int .i64 x.1, .int .i64 x.2.1, .int .i64 x.2.2], .int .i64 T] W fun e w' => e = .returned (.int .i64 (cmpI (key x) T)) ∧ Below W.heap.size W w'
theorem cmpI_lt {x T : Int} : cmpI x T < 0 ↔ x < T := by
  unfold cmpI
  by_cases h : x < T
  · simp [h]
  · rw [if_neg h]
    by_cases h2 : T < x
    · simp [h2]; omega
    · simp [h2]; omega
theorem cmpI_eq {x T : Int} : (cmpI x T == 0) = decide (x = T) := by
  unfold cmpI
  by_cases h : x < T
  · have : ¬ x = T := by omega
    simp [h, this]
  · rw [if_neg h]
    by_cases h2 : T < x
    · have : ¬ x = T := by omega
      simp [h2, this]
    · have : x = T := by omega
      simp [this]
set_option maxHeartbeats 4000000 in
theorem bsf_any (g : Nat) (hg : ∀ args W, (callFunc g args).run Try.prog W = .ok (.enter g args) W) (key : Ar → Int) (T : Int) (a : Option Addr) (c : Nat) (l : List Ar) (w : World) (hl : l.length ≤ 1048576) (hA : HoldA w a l) (hC : CmpC w g key T) (hs : l.Pairwise fun x y => key x < key y) :
    Calls Try.prog 72 #[.slice a l.length c, .int .i64 T, .func (.func g) #[] #[]] w fun e w' => e = .returned (.tuple #[.int .i64 ((below key T l : Nat) : Int), .bool (foundAt key T l)]) ∧ Below w.heap.size w w' := by
  have HA := hidd hA
  have HC := hidd hC
  have HS := hidd hs
  clear hA hC hs
  go_enter Try.func72, Try.ntmps72
  go_wp2_with fail
  go_loopw [9, 10] (fun iv jv wr => ∃ i j : Nat, i ≤ j ∧ j ≤ l.length ∧ iv = .int .i64 (i : Int) ∧ jv = .int .i64 (j : Int) ∧ (∀ t, t < i → key (l.getD t ar0) < T) ∧ (∀ t, j ≤ t → t < l.length → ¬ key (l.getD t ar0) < T) ∧ Below w.heap.size w wr) (fun iv jv _ => (intOf jv).toNat - (intOf iv).toNat)
  case atStart => exact ⟨0, l.length, Nat.zero_le _, Nat.le_refl _, rfl, rfl, fun t h => by omega, fun t h1 h2 => by omega, Below.refl _ _⟩
  case round =>
    obtain ⟨i, j, hij, hj, rfl, rfl, hlo, hhi, hb⟩ := hrel
    have HLo := hidd hlo
    have HHi := hidd hhi
    have HB := hidd hb
    clear hlo hhi hb
    by_cases hlt : i < j
    · have hltz : (i : Int) < (j : Int) := by omega
      obtain ⟨b, off, rfl, hbl, hc⟩ := HA.out.resolve_left (fun h => by rw [h] at hj; simp at hj; omega)
      go_upto_region 5 with fail
      obtain ⟨h, hh⟩ : ∃ h : Nat, ((i : Int) + (j : Int)) / 2 = (h : Int) := ⟨(i + j) / 2, by omega⟩
      simp only [hh]
      have hi1 : i ≤ h := by omega
      have hj1 : h < j := by omega
      clear hh
      have hhl : (h : Int) < (l.length : Int) := by omega
      obtain ⟨p0, p1, p2⟩ := hc h (by omega)
      replace p0 := (HB.out.cell (p := ⟨b, off + h * 3, none⟩) hbl).trans p0
      replace p1 := (HB.out.cell (p := ⟨b, off + h * 3 + 1, none⟩) hbl).trans p1
      replace p2 := (HB.out.cell (p := ⟨b, off + h * 3 + 2, none⟩) hbl).trans p2
      clear hc
      obtain ⟨x, hx⟩ : ∃ x, l.getD h ar0 = x := ⟨_, rfl⟩
      rw [hx] at p0 p1 p2
      have Hx := hidd hx
      clear hx
      have HCx := hidd (HC.out wr HB.out x)
      obtain ⟨x0, x1, x2⟩ := x
      dsimp only at p0 p1 p2 HCx
      go_wp2_with fail
      refine HCx.out.mono ?_
      rintro e w1 ⟨rfl, hb1⟩
      have HB1 := hidd (HB.out.trans (hb1.mono HB.out.size))
      obtain ⟨K, hK⟩ : ∃ K, key (x0, x1, x2) = K := ⟨_, rfl⟩
      have HK := hidd hK
      try rw [hK]
      clear hb1 hK p0 p1 p2 HCx
      dsimp only
      by_cases hk : K < T
      · have hk0 : cmpI K T < 0 := cmpI_lt.2 hk
        have HLo2 : Hid (∀ t, t < h + 1 → key (l.getD t ar0) < T) := fun t ht => by
          by_cases e : t = h
          · rw [e, Hx.out, HK.out]; exact hk
          · have h1 := List.pairwise_iff_getElem.1 HS.out t h (by omega) (by omega) (by omega)
            have e1 : l.getD t ar0 = l[t] := by simp [List.getD_eq_getElem?_getD, List.getElem?_eq_getElem (show t < l.length by omega)]
            have e2 : l.getD h ar0 = l[h] := by simp [List.getD_eq_getElem?_getD, List.getElem?_eq_getElem (show h < l.length by omega)]
            rw [← e1, ← e2, Hx.out, HK.out] at h1
            omega
        go_wp2_with fail
        go_roundw
        case rel => exact ⟨h + 1, j, by omega, hj, by go_num, rfl, HLo2.out, fun t h1 h2 => by have := HHi.out t h1 h2; omega, HB1.out⟩
        case measure => simp [intOf]; omega
      · have hk0 : ¬ cmpI K T < 0 := fun e => hk (cmpI_lt.1 e)
        have HHi2 : Hid (∀ t, h ≤ t → t < l.length → ¬ key (l.getD t ar0) < T) := fun t ht1 ht2 => by
          by_cases e : t = h
          · rw [e, Hx.out, HK.out]; exact hk
          · have h1 := List.pairwise_iff_getElem.1 HS.out h t (by omega) (by omega) (by omega)
            have e1 : l.getD t ar0 = l[t] := by simp [List.getD_eq_getElem?_getD, List.getElem?_eq_getElem (show t < l.length by omega)]
            have e2 : l.getD h ar0 = l[h] := by simp [List.getD_eq_getElem?_getD, List.getElem?_eq_getElem (show h < l.length by omega)]
            rw [← e1, ← e2, Hx.out, HK.out] at h1
            omega
        go_wp2_with fail
        go_roundw
        case rel => exact ⟨i, h, hi1, by omega, rfl, rfl, HLo.out, HHi2.out, HB1.out⟩
        case measure => simp [intOf]; omega
    · have hltz : ¬ (i : Int) < (j : Int) := by omega
      obtain rfl : i = j := by omega
      have HBe := hidd (below_edge key T l i hj HLo.out HHi.out)
      by_cases hin : i < l.length
      · have hinz : (i : Int) < (l.length : Int) := by omega
        obtain ⟨b, off, rfl, hbl, hc⟩ := HA.out.resolve_left (fun h => by rw [h] at hin; simp at hin)
        obtain ⟨p0, p1, p2⟩ := hc i hin
        replace p0 := (HB.out.cell (p := ⟨b, off + i * 3, none⟩) hbl).trans p0
        replace p1 := (HB.out.cell (p := ⟨b, off + i * 3 + 1, none⟩) hbl).trans p1
        replace p2 := (HB.out.cell (p := ⟨b, off + i * 3 + 2, none⟩) hbl).trans p2
        clear hc
        obtain ⟨x, hx⟩ : ∃ x, l.getD i ar0 = x := ⟨_, rfl⟩
        rw [hx] at p0 p1 p2
        have HFo : Hid (foundAt key T l = decide (key x = T)) := by
          show _ = _
          have e : l[i]? = some x := by rw [← hx, List.getD_eq_getElem?_getD, List.getElem?_eq_getElem hin]; rfl
          rw [foundAt, HBe.out, e]
        clear hx
        have HCx := hidd (HC.out wr HB.out x)
        obtain ⟨x0, x1, x2⟩ := x
        dsimp only at p0 p1 p2 HCx
        go_wp2_with fail
        refine HCx.out.mono ?_
        rintro e w1 ⟨rfl, hb1⟩
        have HB1 := hidd (HB.out.trans (hb1.mono HB.out.size))
        obtain ⟨K, hK⟩ : ∃ K, key (x0, x1, x2) = K := ⟨_, rfl⟩
        rw [hK] at HFo
        try rw [hK]
        clear hb1 hK p0 p1 p2 HCx
        dsimp only
        go_wp2_with fail
        go_ret2
        exact ⟨by rw [HBe.out, HFo.out, ← cmpI_eq]; rfl, HB1.out⟩
      · have hinz : ¬ (i : Int) < (l.length : Int) := by omega
        have HFo : Hid (foundAt key T l = false) := by
          show _ = _
          rw [foundAt, HBe.out, List.getElem?_eq_none (by omega)]
        go_wp2_with fail
        go_ret2
        exact ⟨by rw [HBe.out, HFo.out]; rfl, HB.out⟩
end Go.Proofs.Ytbkedgpligcicaa

namespace Go.Proofs.Ytbkedgpligcicaa
open Go Go.RowKit
set_option linter.unusedVariables false
set_option maxRecDepth 100000

/-- A cursor as it lies in a world: at the state i, behind the bytes p, with the number k. -/
structure CurAt (w0 W : World) (B : Nat) (aS : Option Addr) (cS : Nat) (S : List St) (i k : Nat) (p : Tx) (gv : Value) : Prop where
  old : Below w0.heap.size w0 W
  hold : HoldS w0 aS S
  new : w0.heap.size ≤ B
  box : W.heap[B]? = some (.cells #[.slice aS S.length cS, .int .i64 (i : Int), gv, .int .i64 (k : Int)] 71)
  row : W.ownsRow (B + 1) 5 1 gv p.length (Lib.byteCells p)
theorem CurAt.below {w0 W W' : World} {B : Nat} {aS : Option Addr} {cS : Nat} {S : List St} {i k : Nat} {p : Tx} {gv : Value} (h : CurAt w0 W B aS cS S i k p gv) (hb : Below W.heap.size W W') : CurAt w0 W' B aS cS S i k p gv :=
  ⟨h.old.trans (hb.mono h.old.size), h.hold, h.new, blko h.box hb, own_below h.row hb⟩
section
variable {w0 W : World} {B : Nat} {aS : Option Addr} {cS : Nat} {S : List St} {i k : Nat} {p : Tx} {gv : Value}
set_option maxHeartbeats 1000000 in
theorem arcs_any (h : CurAt w0 W B aS cS S i k p gv) (hi : i < S.length) : Calls Try.prog 73 #[.pointer (some ⟨B, 0, none⟩)] W fun e w' => ∃ ai ci m, e = .returned (.slice ai (arcsAt S i).length ci) ∧ HoldA w0 ai (arcsAt S i) ∧ w' = W.drewN m := by
  obtain ⟨b, off, rfl, hb, hc⟩ := h.hold.resolve_left (fun e => by rw [e] at hi; simp at hi)
  obtain ⟨_, ai, ci, c1, hA⟩ := hc i hi
  have c1' := (h.old.cell (p := ⟨b, off + i * 2 + 1, none⟩) hb).trans c1
  have x0 := blkc h.box 0
  have x1 := blkc h.box 1
  have hiz : (i : Int) < (S.length : Int) := by omega
  have HA : Hid (HoldA w0 ai (arcsAt S i)) := hA
  clear h hc hA c1
  change W.cell? _ = some (.slice ai (arcsAt S i).length ci) at c1'
  generalize (arcsAt S i).length = n at *
  go_enter Try.func73, Try.ntmps73
  go_wp2_with fail
  go_quiet (fail)
  go_wp2_with fail
  go_ret
  exact ⟨ai, ci, nq, rfl, HA.out, rfl⟩
set_option maxHeartbeats 1000000 in
theorem final_any (h : CurAt w0 W B aS cS S i k p gv) (hi : i < S.length) : Calls Try.prog 44 #[.pointer (some ⟨B, 0, none⟩)] W fun e w' => e = .returned (.bool (finAt S i)) ∧ ∃ m, w' = W.drewN m := by
  obtain ⟨b, off, rfl, hb, hc⟩ := h.hold.resolve_left (fun e => by rw [e] at hi; simp at hi)
  obtain ⟨c0, _⟩ := hc i hi
  have c0' := (h.old.cell (p := ⟨b, off + i * 2, none⟩) hb).trans c0
  have x0 := blkc h.box 0
  have x1 := blkc h.box 1
  have hiz : (i : Int) < (S.length : Int) := by omega
  clear h hc c0
  change W.cell? _ = some (.bool (finAt S i)) at c0'
  generalize finAt S i = F at *
  go_enter Try.func44, Try.ntmps44
  go_wp2_with fail
  go_quiet (fail)
  go_wp2_with fail
  go_ret
  exact ⟨rfl, nq, rfl⟩
theorem byteCells_snoc (l : List UInt8) (b : UInt8) : Lib.byteCells (l ++ [b]) = Lib.byteCells l ++ [.int .u8 (b.toNat : Int)] := by simp [Lib.byteCells]
theorem CurAt.setSt (h : CurAt w0 W B aS cS S i k p gv) (j : Nat) : CurAt w0 (W.setCell ⟨B, 1, none⟩ (.int .i64 (j : Int))) B aS cS S j k p gv :=
  ⟨h.old.setCell (p := ⟨B, 1, none⟩) h.new _, h.hold, h.new, blk_setk h.box 1 _, own_congr h.row fun b hb => by have := (own_blk h.row hb).1; exact heap_set_other W B 1 _ b (by omega)⟩
theorem CurAt.setNum (h : CurAt w0 W B aS cS S i k p gv) (j : Nat) : CurAt w0 (W.setCell ⟨B, 3, none⟩ (.int .i64 (j : Int))) B aS cS S i j p gv :=
  ⟨h.old.setCell (p := ⟨B, 3, none⟩) h.new _, h.hold, h.new, blk_setk h.box 3 _, own_congr h.row fun b hb => by have := (own_blk h.row hb).1; exact heap_set_other W B 3 _ b (by omega)⟩
theorem CurAt.push {V w6 : World} {g6 cp6 : Nat} {x : UInt8} (h : CurAt w0 W B aS cS S i k p gv) (hV : Below W.heap.size W V) (hown : w6.ownsRow (B + 1) 5 1 (.slice (some ⟨g6, 0, none⟩) (p.length + 1) cp6) (p.length + 1) (Lib.byteCells p ++ [.int .u8 (x.toNat : Int)])) (hg : V.grownBy w6 gv.ownBlock) (hat : gv.ownBlock = some g6 ∨ g6 = V.heap.size) :
    w6.heap[B]? = some (.cells #[.slice aS S.length cS, .int .i64 (i : Int), gv, .int .i64 (k : Int)] 71) ∧ CurAt w0 (w6.setCell ⟨B, 2, none⟩ (.slice (some ⟨g6, 0, none⟩) (p.length + 1) cp6)) B aS cS S i k (p ++ [x]) (.slice (some ⟨g6, 0, none⟩) (p.length + 1) cp6) := by
  have hBl := (Array.getElem?_eq_some_iff.1 h.box).1
  have hVs := hV.size
  have hgv : ∀ b, gv.ownBlock = some b → B + 1 ≤ b := fun b hb => (own_blk h.row hb).1
  have hbox : w6.heap[B]? = some (.cells #[.slice aS S.length cS, .int .i64 (i : Int), gv, .int .i64 (k : Int)] 71) := by
    rw [hg.block B (by omega) (fun e => by have := hgv B e.symm; omega), hV.block B hBl]
    exact h.box
  have hg6 : g6 ≠ B := by
    rcases hat with e | e
    · have := hgv g6 e; omega
    · omega
  have hb2 : Below w0.heap.size w0 V := h.old.trans (hV.mono h.old.size)
  have hb3 : Below w0.heap.size w0 w6 := hb2.grown hg hb2.size (fun b e => by have := hgv b e; have := h.new; omega)
  refine ⟨hbox, hb3.setCell (p := ⟨B, 2, none⟩) h.new _, h.hold, h.new, blk_setk hbox 2 _, ?_⟩
  rw [List.length_append, byteCells_snoc]
  exact own_congr hown fun b hb => heap_set_other w6 B 2 _ b (by cases hb; exact hg6)
end
end Go.Proofs.Ytbkedgpligcicaa

namespace Go.Proofs.Ytbkedgpligcicaa
open Go Go.RowKit
set_option linter.unusedVariables false
set_option maxRecDepth 100000

set_option maxHeartbeats 4000000 in
theorem follow_any {w0 W : World} {B : Nat} {aS : Option Addr} {cS : Nat} {S : List St} {i k : Nat} {p : Tx} {gv : Value} {x : UInt8} {j m : Nat} (h : CurAt w0 W B aS cS S i k p gv) (hp : p.length ≤ 65536) (hk : k ≤ 4096) (hm : m ≤ 4096) :
    Calls Try.prog 76 #[.pointer (some ⟨B, 0, none⟩), .agg #[.int .i64 (x.toNat : Int), .int .i64 (j : Int), .int .i64 (m : Int)]] W fun e w' => ∃ gv', e = .returned (.tuple #[]) ∧ CurAt w0 w' B aS cS S j (k + m) (p ++ [x]) gv' ∧ ∀ b, b < W.heap.size → b ≠ B → gv.ownBlock ≠ some b → w'.heap[b]? = W.heap[b]? := by
  obtain ⟨i1, hi1, hy0, hy1, hy2⟩ := info_parts Try.infoByte
  have hBl := (Array.getElem?_eq_some_iff.1 h.box).1
  have HBa := hidd ((Below.refl W.heap.size W).alloc (Nat.le_refl _) (.cells #[.int .i64 (x.toNat : Int), .int .i64 (j : Int), .int .i64 (m : Int)] 85))
  have HQ := hidd (heap_alloc_new W (.cells #[.int .i64 (x.toNat : Int), .int .i64 (j : Int), .int .i64 (m : Int)] 85))
  have Hc := hidd h
  clear h
  go_enter Try.func76, Try.ntmps76
  go_upto_region 1 with fail
  obtain ⟨Q, hQ⟩ : ∃ Q, W.heap.size = Q := ⟨_, rfl⟩
  obtain ⟨wa, hwa⟩ : ∃ wa, W.alloc (.cells #[.int .i64 (x.toNat : Int), .int .i64 (j : Int), .int .i64 (m : Int)] 85) = wa := ⟨_, rfl⟩
  rw [hwa] at HBa HQ
  try rw [hwa]
  clear hwa
  have Hca := hidd (Hc.out.below HBa.out)
  rw [hQ] at HQ hBl
  try rw [hQ]
  have a1 := blkc HQ.out 1
  have x1 := blkc Hca.out.box 1
  have f1 := blkf Hca.out.box 1
  have Hcs := hidd (Hca.out.setSt j)
  have HQs := hidd ((heap_set_other wa B 1 (.int .i64 (j : Int)) Q (by omega)).trans HQ.out)
  go_upto_region 2 with fail
  obtain ⟨wb, hwb⟩ : ∃ wb, wa.setCell ⟨B, 1, none⟩ (.int .i64 (j : Int)) = wb := ⟨_, rfl⟩
  have HFr0 : Hid (∀ b, b < Q → b ≠ B → wb.heap[b]? = W.heap[b]?) := fun b hb hne => by
    rw [← hwb, heap_set_other wa B 1 _ b hne]
    exact HBa.out.block b (by omega)
  have hsz0 : Q < wb.heap.size := by
    rw [← hwb]
    have := (Array.getElem?_eq_some_iff.1 HQ.out).1
    simpa using this
  rw [hwb] at Hcs HQs
  try rw [hwb]
  clear hwb a1 x1 f1 Hca HBa HQ
  have c2 := blkc Hcs.out.box 2
  have a0 := blkc HQs.out 0
  have HO := hidd Hcs.out.row
  obtain ⟨ag, cg, rfl⟩ := own_form Hcs.out.row
  have hxl := UInt8.toNat_lt x
  have hwx : IntKind.u8.wrap (x.toNat : Int) = (x.toNat : Int) := u8_in_b hxl
  have hBb : B < wb.heap.size := by omega
  have HP := hidd (fun V w6 g6 cp6 => Hcs.out.push (V := V) (w6 := w6) (g6 := g6) (cp6 := cp6) (x := x))
  have HK : Hid (∀ V w6 : World, Below wb.heap.size wb V → V.grownBy w6 (Value.slice ag p.length cg).ownBlock → ∀ b, b < wb.heap.size → (Value.slice ag p.length cg).ownBlock ≠ some b → w6.heap[b]? = wb.heap[b]?) := fun V w6 hV hg b hb hne => by
    rw [hg.block b (Nat.lt_of_lt_of_le hb hV.size) (fun e => hne e.symm), hV.block b hb]
  go_cut [9] (fun v9 wy => ∃ gv', CurAt w0 wy B aS cS S j k (p ++ [x]) gv' ∧ wy.heap[Q]? = some (.cells #[.int .i64 (x.toNat : Int), .int .i64 (j : Int), .int .i64 (m : Int)] 85) ∧ ∀ b, b < Q → b ≠ B → (Value.slice ag p.length cg).ownBlock ≠ some b → wy.heap[b]? = W.heap[b]?)
  case first =>
    go_region_law (refine step_append_lies _ rfl (.tmp 13) (.tmp 17) 22 rfl (B + 1) 5 i1 (.int .u8 0) 1 1 Try.underlying22 hi1 hy0 hy1 hy2 rfl (by decide) (.slice ag p.length cg) p.length (Lib.byteCells p) (by simp [Act.eval]) (by first | exact HO.out.drew.alloc _ | exact HO.out.alloc _) ⟨wb.heap.size, 0, none⟩ 1 1 [.int .u8 (x.toNat : Int)] (by simp [Act.eval]) rfl (by intro j' u' hj'; match j', hj' with | 0, hj' => simp at hj'; subst hj'; simp [Addr.add]) (by intro u' hu'; simp at hu'; subst hu'; rfl) (by omega) (by unfold maxLen; omega) (by omega) (by first | omega | (simp; omega)) _ rfl ?_; intro g6 cp6 w6 hown6 hgrow6 hat6 hlt6; obtain ⟨t1, t2⟩ := HP.out _ w6 g6 cp6 (by first | exact (below_drewN (Below.refl _ _) 1).alloc (by simp) _ | exact (Below.refl _ _).alloc (by simp) _) hown6 hgrow6 hat6; have s2 := blkc t1 2; have sf := blkf t1 2; have HT2 := hidd t2; have HG6 := hidd hgrow6; clear t1 t2 hown6 hgrow6 hat6 hlt6)
    all_goals
      go_wp2_with fail
      go_meet
      refine ⟨_, HT2.out, ?_, fun b hb hne hg => ?_⟩
      · rw [heap_set_other w6 B 2 _ Q (by omega)]
        exact (HK.out _ w6 (by first | exact (below_drewN (Below.refl _ _) 1).alloc (by simp) _ | exact (Below.refl _ _).alloc (by simp) _) HG6.out Q hsz0 (fun e => by
          obtain ⟨_, cur, hc⟩ := own_blk HO.out e
          exact blk_ne hc HQs.out (by decide) rfl)).trans HQs.out
      · rw [heap_set_other w6 B 2 _ b hne]
        exact (HK.out _ w6 (by first | exact (below_drewN (Below.refl _ _) 1).alloc (by simp) _ | exact (Below.refl _ _).alloc (by simp) _) HG6.out b (by omega) hg).trans (HFr0.out b hb hne)
  case rest =>
    obtain ⟨gv', hcu, hq, hfr⟩ := hcut
    have Hcu := hidd hcu
    have Hq := hidd hq
    have Hfr := hidd hfr
    clear hcu hq hfr HO HP HFr0 Hcs HQs c2 a0 HK
    have a2 := blkc Hq.out 2
    have c3 := blkc Hcu.out.box 3
    have f3 := blkf Hcu.out.box 3
    have hsum : IntKind.i64.wrap ((k : Int) + (m : Int)) = ((k + m : Nat) : Int) := by
      have : (k : Int) + (m : Int) = ((k + m : Nat) : Int) := by omega
      rw [this]
      exact IntWalk.i64_in _ ⟨by omega, by omega⟩
    obtain ⟨km, hkm⟩ : ∃ km, k + m = km := ⟨_, rfl⟩
    rw [hkm] at hsum
    have Hkm := hidd hkm
    clear hkm
    have Hset := hidd (Hcu.out.setNum km)
    have hBc : B < wc.heap.size := (Array.getElem?_eq_some_iff.1 Hcu.out.box).1
    have hQc : Q < wc.heap.size := (Array.getElem?_eq_some_iff.1 Hq.out).1
    go_wp2_with fail
    go_region
    all_goals
      go_wp2_with fail
      go_end0
      refine ⟨gv', rfl, ?_, fun b hb hne hg => ?_⟩
      · rw [Hkm.out]
        first | exact Hset.out | exact Hset.out.below (below_drewN (Below.refl _ _) 1)
      · rw [hQ] at hb
        first
          | exact (heap_set_other wc B 3 _ b hne).trans (Hfr.out b hb hne hg)
end Go.Proofs.Ytbkedgpligcicaa

namespace Go.Proofs.Ytbkedgpligcicaa
open Go Go.RowKit
set_option linter.unusedVariables false
set_option maxRecDepth 100000

theorem rk_le (t : Tx) (L : List Tx) : rk t L ≤ L.length := List.countP_le_length
theorem ahead_le (n : Nat) (L : List Tx) : aheadT n L ≤ L.length := List.countP_le_length
theorem subs_len : ∀ (p : Tx) (L : List Tx), (subs p L).length ≤ L.length
  | [], L => Nat.le_refl _
  | b :: p, L => Nat.le_trans (subs_len p _) (subT_len _ _)
theorem take_next {t : Tx} {i : Nat} {b : UInt8} (h : i < t.length) (hb : t.getD i 0 = b) : t.take (i + 1) = t.take i ++ [b] := by
  rw [List.take_add_one, List.getElem?_eq_getElem h]
  rw [List.getD_eq_getElem?_getD, List.getElem?_eq_getElem h] at hb
  simp at hb
  rw [hb]; rfl
theorem subs_stop {t : Tx} {i : Nat} {L : List Tx} (h : subs (t.take i) L = []) : subs t L = [] := by
  rw [← List.take_append_drop i t, subs_append, h, subs_nil]
/-- A dictionary's states. -/
structure DictAt (ts : List Tx) (ord : List (List Tx)) (S : List St) : Prop where
  bfs : IsBfs nextT ts ord
  sts : S = ord.map (stOf ord)
  few : ts.length ≤ 4096
theorem IsDict.at {c : Int} {S : List St} {ts : List Tx} (h : IsDict (c, S) ts) : ∃ ord, DictAt ts ord S := by
  obtain ⟨hg, ord, hb, hl, hd⟩ := h
  unfold dictOf at hd
  exact ⟨ord, hb, (Prod.mk.inj hd).2, hg.2.1⟩
section
variable {ts : List Tx} {ord : List (List Tx)} {S : List St}
theorem DictAt.lt (h : DictAt ts ord S) {L : List Tx} (hL : L ∈ ord) : ord.idxOf L < S.length := by
  rw [h.sts, List.length_map]; exact List.idxOf_lt_length_of_mem hL
theorem DictAt.arcs (h : DictAt ts ord S) {L : List Tx} (hL : L ∈ ord) : arcsAt S (ord.idxOf L) = (stOf ord L).2 := by
  rw [arcsAt, h.sts, dict_at h.bfs hL]
theorem DictAt.fin (h : DictAt ts ord S) {L : List Tx} (hL : L ∈ ord) : finAt S (ord.idxOf L) = finT L := by
  rw [finAt, h.sts, dict_at h.bfs hL]; rfl
end
/-- What spell does. -/
def SpellPost (w0 : World) (B : Nat) (aS : Option Addr) (cS : Nat) (S : List St) (ts : List Tx) (ord : List (List Tx)) (t : Tx) (e : Ending) (w' : World) : Prop :=
  ∃ b : Bool, e = .returned (.bool b) ∧ Below w0.heap.size w0 w' ∧ ((b = true ∧ subs t ts ∈ ord ∧ ∃ gv', CurAt w0 w' B aS cS S (ord.idxOf (subs t ts)) (rk t ts) t gv') ∨ (b = false ∧ subs t ts = []))
set_option maxHeartbeats 8000000 in
theorem spell_any {w0 W : World} {B : Nat} {aS : Option Addr} {cS : Nat} {S : List St} {gv : Value} {ts : List Tx} {ord : List (List Tx)} (t : Tx) (ht : t.length ≤ 65536) (hd : DictAt ts ord S) (h : CurAt w0 W B aS cS S (ord.idxOf ts) 0 [] gv) :
    Calls Try.prog 43 #[.pointer (some ⟨B, 0, none⟩), .string ⟨t.toArray⟩] W fun e w' => SpellPost w0 B aS cS S ts ord t e w' := by
  have HD := hidd hd
  have HC := hidd h
  have hfew := hd.few
  clear hd h
  have hsl : (⟨t.toArray⟩ : ByteArray).size = t.length := by rw [Lib.size_eq]
  go_enter Try.func43, Try.ntmps43
  go_wp2_with fail
  go_loopw [10] (fun iv wr => ∃ (i : Nat) (gv : Value), i ≤ t.length ∧ iv = .int .i64 (i : Int) ∧ subs (t.take i) ts ∈ ord ∧ CurAt w0 wr B aS cS S (ord.idxOf (subs (t.take i) ts)) (rk (t.take i) ts) (t.take i) gv) (fun iv _ => t.length - (intOf iv).toNat)
  case atStart => exact ⟨0, gv, Nat.zero_le _, rfl, (dict_root HD.out.bfs).1, by rw [List.take_zero, rk_nil]; exact HC.out⟩
  case round =>
    obtain ⟨i, gv1, hi, rfl, hmem, hcu⟩ := hrel
    clear HC
    have HM := hidd hmem
    have HC := hidd hcu
    clear hmem hcu
    by_cases hlt : i < t.length
    · have hltz : (i : Int) < (t.length : Int) := by omega
      obtain ⟨b, hb⟩ : ∃ b, t.getD i 0 = b := ⟨_, rfl⟩
      have xi : ∀ W, (Instr.index 9 (.string ⟨t.toArray⟩) (.int .i64 (i : Int))).run Try.prog W = .ok (.int .u8 (b.toNat : Int)) W := fun W => by rw [idx_run _ _ W hlt, hb]
      have Hb := hidd (take_next hlt hb)
      clear hb
      have hpl : (t.take i).length ≤ 65536 := by rw [List.length_take]; omega
      have hkl := rk_le (t.take i) ts
      obtain ⟨p, hp⟩ : ∃ p, t.take i = p := ⟨_, rfl⟩
      rw [hp] at HM HC Hb hpl hkl
      have Hp := hidd hp
      clear hp
      obtain ⟨L, hL⟩ : ∃ L, subs p ts = L := ⟨_, rfl⟩
      rw [hL] at HM HC
      have HL := hidd hL
      have hLl : L.length ≤ 4096 := by have := subs_len p ts; rw [hL] at this; omega
      clear hL
      have hil := HD.out.lt HM.out
      have Har := hidd (HD.out.arcs HM.out)
      obtain ⟨ix, hix⟩ : ∃ ix, ord.idxOf L = ix := ⟨_, rfl⟩
      rw [hix] at HC hil Har
      clear hix
      have HAr := hidd (fun (W' : World) (hW : Below wr.heap.size wr W') => arcs_any (HC.out.below hW) hil)
      rw [Har.out] at HAr
      have hal : (stOf ord L).2.length ≤ 256 := by have := labelsT_len L; simpa [stOf] using this
      have Hrs := hidd (stOf_rise ord L)
      obtain ⟨l, hl⟩ : ∃ l, (stOf ord L).2 = l := ⟨_, rfl⟩
      rw [hl] at HAr hal Hrs
      have Hl := hidd hl
      clear hl
      have hbl := UInt8.toNat_lt b
      have hwb : IntKind.i64.wrap (b.toNat : Int) = (b.toNat : Int) := IntWalk.i64_in _ ⟨by omega, by omega⟩
      have HBs := hidd (fun (W' : World) (hW : Below wr.heap.size wr W') (ai : Option Addr) (ci : Nat) (hA : HoldA w0 ai l) => bsf_any 74 Try.call74 (fun a => a.1) (b.toNat : Int) ai ci l W' (by omega) (hA.below (HC.out.old.trans (hW.mono HC.out.old.size))) (fun W2 _ x => spell1_any x.1 x.2.1 x.2.2 _ W2) Hrs.out)
      go_wp2_with fail
      go_cut [6, 7] (fun av fv wy => av = .int .i64 ((below (fun a => a.1) (b.toNat : Int) l : Nat) : Int) ∧ fv = .bool (foundAt (fun a => a.1) (b.toNat : Int) l) ∧ Below wr.heap.size wr wy)
      case first =>
        go_region_with (first
          | (go_at_call 73; refine (HAr.out _ (by first | exact below_drewN (Below.refl _ _) 1 | exact Below.refl _ _)).mono ?_; rintro e w1 ⟨ai, ci, m1, rfl, hA1, hw1⟩; have HA1 := hidd hA1; have HB1 : Hid (Below wr.heap.size wr w1) := (by rw [hw1]; first | exact below_drewN (below_drewN (Below.refl _ _) 1) m1 | exact below_drewN (Below.refl _ _) m1); clear hA1 hw1)
          | (go_at_call 72; refine (HBs.out _ HB1.out _ _ HA1.out).mono ?_; rintro e w2 ⟨rfl, hb2⟩; have HB2 := hidd (HB1.out.trans (hb2.mono HB1.out.size)); clear hb2))
        all_goals
          go_wp2_with fail
          go_meet
          exact ⟨rfl, rfl, HB2.out⟩
      case rest =>
        obtain ⟨rfl, rfl, hbel⟩ := hcut
        have HBc := hidd hbel
        clear hbel
        have HC2 := hidd (HC.out.below HBc.out)
        have hold2 := HC2.out.old
        by_cases hlab : b.toNat ∈ labelsT L
        · obtain ⟨q1, q2⟩ := label_found (ord := ord) hlab
          rw [Hl.out] at q1 q2
          rw [q1]
          have HNx := hidd (dict_next HD.out.bfs HM.out hlab)
          have hah := ahead_le b.toNat L
          obtain ⟨at_, hat⟩ : ∃ at_, below (fun a => a.1) (b.toNat : Int) l = at_ := ⟨_, rfl⟩
          rw [hat] at q2
          try rw [hat]
          have hatl : at_ < l.length := (List.getElem?_eq_some_iff.1 q2).1
          have hatz : (at_ : Int) < (l.length : Int) := by omega
          have q3 : l.getD at_ ar0 = ((b.toNat : Int), ((ord.idxOf (subT b.toNat L) : Nat) : Int), ((aheadT b.toNat L : Nat) : Int)) := by rw [List.getD_eq_getElem?_getD, q2]; rfl
          have Q3 := hidd q3
          have HAr2 := hidd (arcs_any HC2.out hil)
          rw [Har.out, Hl.out] at HAr2
          have HFo := hidd (fun (W' : World) (hW : Below wc.heap.size wc W') => follow_any (x := b) (j := ord.idxOf (subT b.toNat L)) (m := aheadT b.toNat L) (HC2.out.below hW) hpl (by omega) (by omega))
          have HSt : Hid (subs (t.take (i + 1)) ts = subT b.toNat L ∧ rk (t.take (i + 1)) ts = rk p ts + aheadT b.toNat L) := by
            rw [Hb.out, subs_snoc, rk_snoc, HL.out]
            exact ⟨rfl, rfl⟩
          clear q1 q2 q3 hat hlab
          obtain ⟨nx, hnx⟩ : ∃ nx, ord.idxOf (subT b.toNat L) = nx := ⟨_, rfl⟩
          obtain ⟨ah, hah2⟩ : ∃ ah, aheadT b.toNat L = ah := ⟨_, rfl⟩
          rw [hnx] at Q3 HFo
          rw [hah2] at Q3 HFo hah
          have Hnx := hidd hnx
          have Hah := hidd hah2
          clear hnx hah2
          go_upto_region 7 with fail
          go_wp2_with (first
            | (go_at_call 73; refine HAr2.out.mono ?_; rintro e w1 ⟨ai, ci, m1, rfl, hA1, rfl⟩; obtain ⟨g1, o1, rfl, hg1, hc1⟩ := hA1.resolve_left (fun h => by rw [h] at hatl; simp at hatl); obtain ⟨p0, p1, p2⟩ := hc1 at_ hatl; have hbm := below_drewN hold2 m1; replace p0 := (hbm.cell (p := ⟨g1, o1 + at_ * 3, none⟩) hg1).trans p0; replace p1 := (hbm.cell (p := ⟨g1, o1 + at_ * 3 + 1, none⟩) hg1).trans p1; replace p2 := (hbm.cell (p := ⟨g1, o1 + at_ * 3 + 2, none⟩) hg1).trans p2; rw [Q3.out] at p0 p1 p2; dsimp only at p0 p1 p2; clear hA1 hc1 hbm)
            | (go_at_call 76; refine (HFo.out _ (below_drewN (Below.refl _ _) _)).mono ?_))
          rintro e w2 ⟨gv2, rfl, hcu2, _⟩
          have HC3 := hidd hcu2
          clear hcu2 p0 p1 p2
          dsimp only
          go_wp2_with fail
          go_roundw
          case rel => exact ⟨i + 1, gv2, by omega, by go_num, by rw [HSt.out.1]; exact HNx.out, by rw [HSt.out.1, HSt.out.2, Hb.out, Hnx.out, Hah.out]; exact HC3.out⟩
          case measure => simp [intOf]; omega
        · have q1 := label_not (ord := ord) hlab
          rw [Hl.out] at q1
          rw [q1]
          have HNo : Hid (subs t ts = []) := by
            refine subs_stop (i := i + 1) ?_
            rw [Hb.out, subs_snoc, HL.out]
            exact not_label hlab
          clear q1 hlab
          go_wp2_with fail
          go_ret
          exact ⟨false, rfl, HC2.out.old, Or.inr ⟨rfl, HNo.out⟩⟩
    · have hltz : ¬ (i : Int) < (t.length : Int) := by omega
      obtain rfl : i = t.length := by omega
      have e1 : t.take t.length = t := List.take_length
      rw [e1] at HM HC
      go_wp2_with fail
      go_ret
      exact ⟨true, rfl, HC.out.old, Or.inl ⟨rfl, HM.out, gv1, HC.out⟩⟩
end Go.Proofs.Ytbkedgpligcicaa

namespace Go.Proofs.Ytbkedgpligcicaa
open Go Go.RowKit
set_option linter.unusedVariables false
theorem terms_any {w0 : World} {aS : Option Addr} {cS : Nat} {c : Int} {S : List St} {D : List Int} {ρ : Nat → Nat} {M : Nat} (hn : S.length ≤ 16384) (hS : HoldS w0 aS S) (hok : CntOK S D ρ M) : ∀ f, TermsC w0 aS cS c S D ρ f
  | 0 => fun i bh hc head A v w _ _ hρ => absurd hρ (Nat.not_lt_zero _)
  | f + 1 => terms_step hn hS hok (terms_any hn hS hok f)
end Go.Proofs.Ytbkedgpligcicaa
