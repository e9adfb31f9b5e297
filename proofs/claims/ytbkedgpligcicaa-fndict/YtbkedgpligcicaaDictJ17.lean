import Derived.Test.YtbkedgpligcicaaDictJ16
import Derived.Test.YtbkedgpligcicaaDictJ01
import Derived.Deep.RegionHeld3
import Derived.Deep.AppendLies
import Derived.Deep.RegionLaw
import Derived.Deep.RegionWith
import Derived.Deep.DeepCutAuto
import Derived.Deep.CutBlock
import Derived.Test.YtbkedgpligcicaaDictJ05
import Derived.Test.YtbkedgpligcicaaDictJ12
import Derived.Lib.BitFns
import Derived.Lib.ItoaNum
namespace Go.Proofs.Ytbkedgpligcicaa
open Go
set_option linter.unusedVariables false

/-! Searching among arcs that rise. -/
def cmpI (x y : Int) : Int := if x < y then -1 else if y < x then 1 else 0
def below (key : Ar → Int) (T : Int) (l : List Ar) : Nat := l.countP fun a => decide (key a < T)
def foundAt (key : Ar → Int) (T : Int) (l : List Ar) : Bool := match l[below key T l]? with
  | some a => decide (key a = T)
  | none => false
theorem below_edge (key : Ar → Int) (T : Int) : ∀ (l : List Ar) (i : Nat), i ≤ l.length → (∀ t, t < i → key (l.getD t ar0) < T) → (∀ t, i ≤ t → t < l.length → ¬ key (l.getD t ar0) < T) → below key T l = i
  | [], i, hi, _, _ => by simp at hi; simp [below, hi]
  | a :: r, 0, _, _, h2 => by
    unfold below
    rw [List.countP_eq_zero]
    intro x hx
    obtain ⟨t, ht, rfl⟩ := List.getElem_of_mem hx
    have := h2 t (Nat.zero_le _) ht
    have e : (a :: r).getD t ar0 = (a :: r)[t] := by simp [List.getD_eq_getElem?_getD, List.getElem?_eq_getElem ht]
    rw [e] at this
    simpa using this
  | a :: r, i + 1, hi, h1, h2 => by
    have ha : key a < T := by simpa using h1 0 (Nat.succ_pos _)
    have ih := below_edge key T r i (by simpa using hi) (fun t ht => by simpa using h1 (t + 1) (by omega)) (fun t h3 h4 => by simpa using h2 (t + 1) (by omega) (by simpa using h4))
    unfold below at ih ⊢
    rw [List.countP_cons, ih]
    simp [ha]
theorem below_le (key : Ar → Int) (T : Int) (l : List Ar) : below key T l ≤ l.length := List.countP_le_length
/-- The labels of a set. -/
theorem nat_edge : ∀ {l : List Nat} (b : Nat), l.Pairwise (· < ·) → (b ∈ l → l[l.countP fun n => decide (n < b)]? = some b) ∧ (∀ n, l[l.countP fun n => decide (n < b)]? = some n → n = b → b ∈ l)
  | [], b, _ => ⟨fun h => by simp at h, fun n h => by simp at h⟩
  | a :: r, b, hp => by
    have hp' := List.pairwise_cons.1 hp
    refine ⟨fun h => ?_, fun n h e => ?_⟩
    · by_cases hab : a < b
      · rw [List.countP_cons_of_pos (by simpa using hab), List.getElem?_cons_succ]
        exact (nat_edge b hp'.2).1 ((List.mem_cons.1 h).resolve_left (by omega))
      · have hz : r.countP (fun n => decide (n < b)) = 0 := by
          rw [List.countP_eq_zero]
          intro x hx
          have := hp'.1 x hx
          simp; omega
        rw [List.countP_cons_of_neg (by simpa using hab), hz, List.getElem?_cons_zero]
        rcases List.mem_cons.1 h with h | h
        · rw [h]
        · have := hp'.1 b h; omega
    · rw [← e]; exact List.mem_of_getElem? h
theorem label_edge {ord : List (List Tx)} (L : List Tx) (b : Nat) : below (fun a => a.1) (b : Int) (stOf ord L).2 = (labelsT L).countP fun n => decide (n < b) := by
  unfold below stOf
  rw [List.countP_map]
  congr 1
  funext n
  simp
/-- What the search by a byte finds. -/
theorem label_found {ord : List (List Tx)} {L : List Tx} {b : Nat} (h : b ∈ labelsT L) : foundAt (fun a => a.1) (b : Int) (stOf ord L).2 = true ∧ (stOf ord L).2[below (fun a => a.1) (b : Int) (stOf ord L).2]? = some ((b : Int), ((ord.idxOf (subT b L) : Nat) : Int), ((aheadT b L : Nat) : Int)) := by
  have h1 := stOf_at (ord := ord) ((nat_edge b (labelsT_lt L)).1 h)
  rw [← label_edge (ord := ord)] at h1
  refine ⟨?_, h1⟩
  rw [foundAt, h1]
  simp
theorem label_not {ord : List (List Tx)} {L : List Tx} {b : Nat} (h : b ∉ labelsT L) : foundAt (fun a => a.1) (b : Int) (stOf ord L).2 = false := by
  rw [foundAt]
  cases e : (stOf ord L).2[below (fun a => a.1) (b : Int) (stOf ord L).2]? with
  | none => rfl
  | some a =>
    rw [label_edge] at e
    cases e2 : (labelsT L)[(labelsT L).countP fun n => decide (n < b)]? with
    | none =>
      have := congrArg (fun l => l[(labelsT L).countP fun n => decide (n < b)]?) (show (stOf ord L).2 = (labelsT L).map fun (n : Nat) => ((n : Int), ((ord.idxOf (subT n L) : Nat) : Int), ((aheadT n L : Nat) : Int)) from rfl)
      simp only [List.getElem?_map, e2, Option.map_none] at this
      rw [this] at e; cases e
    | some n =>
      have h1 := stOf_at (ord := ord) e2
      rw [e] at h1
      cases h1
      refine decide_eq_false fun e3 => h ?_
      have e4 : n = b := by have : (n : Int) = (b : Int) := e3; omega
      exact (nat_edge b (labelsT_lt L)).2 n e2 e4
theorem stOf_rise (ord : List (List Tx)) (L : List Tx) : (stOf ord L).2.Pairwise fun a b => a.1 < b.1 := by
  unfold stOf
  rw [List.pairwise_map]
  exact (labelsT_lt L).imp fun {a b} h => by show (a : Int) < (b : Int); omega
theorem not_label {L : List Tx} {b : UInt8} (h : b.toNat ∉ labelsT L) : subT b.toNat L = [] := by
  have hb := UInt8.toNat_lt b
  exact Classical.byContradiction fun e => h (labelsT_mem.2 ⟨hb, e⟩)
end Go.Proofs.Ytbkedgpligcicaa

namespace Go.Proofs.Ytbkedgpligcicaa
open Go Go.RowKit
set_option linter.unusedVariables false
set_option maxRecDepth 100000

/-! Searching among arcs. -/
theorem isNaN_any (x : Int) (w : World) : Calls Try.prog 99 #[.int .i64 x] w fun e w' => e = .returned (.bool false) ∧ w' = w := by
  have hx : (x != x) = false := by simp
  go_enter Try.func99, Try.ntmps99
  go_wp2
  go_ret
  exact ⟨rfl, rfl⟩
set_option maxHeartbeats 1000000 in
theorem compare_any (x y : Int) (w : World) : Calls Try.prog 75 #[.int .i64 x, .int .i64 y] w fun e w' => e = .returned (.int .i64 (cmpI x y)) ∧ w' = w := by
  go_enter Try.func75, Try.ntmps75
  by_cases h1 : x < y
  · have hc : cmpI x y = -1 := by rw [cmpI, if_pos h1]
    have HC := hidd hc
    clear hc
    go_wp2_with (go_at_call 99; refine (isNaN_any _ _).mono ?_; rintro e w' ⟨rfl, rfl⟩)
    go_ret
    exact ⟨by rw [HC.out]; rfl, rfl⟩
  · by_cases h2 : y < x
    · have hc : cmpI x y = 1 := by rw [cmpI, if_neg h1, if_pos h2]
      have HC := hidd hc
      have h3 : x > y := h2
      clear hc h2
      go_wp2_with (go_at_call 99; refine (isNaN_any _ _).mono ?_; rintro e w' ⟨rfl, rfl⟩)
      go_ret
      exact ⟨by rw [HC.out]; rfl, rfl⟩
    · have hc : cmpI x y = 0 := by rw [cmpI, if_neg h1, if_neg h2]
      have HC := hidd hc
      have h3 : ¬ x > y := h2
      clear hc h2
      go_wp2_with (go_at_call 99; refine (isNaN_any _ _).mono ?_; rintro e w' ⟨rfl, rfl⟩)
      go_ret
      exact ⟨by rw [HC.out]; rfl, rfl⟩
theorem spell1_any (a0 a1 a2 T : Int) (w : World) : Calls Try.prog 74 #[.agg #[.int .i64 a0, .int .i64 a1, .int .i64 a2], .int .i64 T] w fun e w' => e = .returned (.int .i64 (cmpI a0 T)) ∧ Below w.heap.size w w' := by
  have HB := hidd ((Below.refl w.heap.size w).alloc (Nat.le_refl _) (.cells #[.int .i64 a0, .int .i64 a1, .int .i64 a2] 85))
  go_enter Try.func74, Try.ntmps74
  go_wp2_with (go_at_call 75; refine (compare_any _ _ _).mono ?_; rintro e w' ⟨rfl, rfl⟩)
  go_ret
  exact ⟨rfl, HB.out⟩
theorem half_any {i j : Nat} (h : i + j ≤ 4194304) : IntKind.i64.wrap ((i : Int) + (j : Int)) = ((i + j : Nat) : Int) := by
  have : (i : Int) + (j : Int) = ((i + j : Nat) : Int) := by omega
  rw [this]
  exact IntWalk.i64_in _ ⟨by omega, by omega⟩
end Go.Proofs.Ytbkedgpligcicaa

namespace Go.Proofs.Ytbkedgpligcicaa
open Go Go.RowKit
set_option linter.unusedVariables false
set_option maxRecDepth 100000

/-- What a comparing function is asked. -/
def CmpC (w : World) (g : Nat) (key : Ar → Int) (T : Int) : Prop := ∀ W, Below w.heap.size w W → ∀ x : Ar, Calls Try.prog g #[.agg #[.int .i64 x.1, .int .i64 x.2.1, .int .i64 x.2.2], .int .i64 T] W fun e w' => e = .returned (.int .i64 (cmpI (key x) T)) ∧ Below W.heap.size W w'
theorem cmpI_lt {x T : Int} : cmpI x T < 0 ↔ x < T := by
  unfold cmpI
  by_cases h : x < T
  · simp [h]
  · rw [if_neg h]
    by_cases h2 : T < x
    · simp [h2]; omega
    · simp [h2]; omega
theorem cmpI_eq {x T : Int} : (cmpI x T == 0) = decide (x = T) := by
  unfold cmpI
  by_cases h : x < T
  · have : ¬ x = T := by omega
    simp [h, this]
  · rw [if_neg h]
    by_cases h2 : T < x
    · have : ¬ x = T := by omega
      simp [h2, this]
    · have : x = T := by omega
      simp [this]
set_option maxHeartbeats 4000000 in
theorem bsf_any (g : Nat) (hg : ∀ args W, (callFunc g args).run Try.prog W = .ok (.enter g args) W) (key : Ar → Int) (T : Int) (a : Option Addr) (c : Nat) (l : List Ar) (w : World) (hl : l.length ≤ 1048576) (hA : HoldA w a l) (hC : CmpC w g key T) (hs : l.Pairwise fun x y => key x < key y) :
    Calls Try.prog 72 #[.slice a l.length c, .int .i64 T, .func (.func g) #[] #[]] w fun e w' => e = .returned (.tuple #[.int .i64 ((below key T l : Nat) : Int), .bool (foundAt key T l)]) ∧ Below w.heap.size w w' := by
  have HA := hidd hA
  have HC := hidd hC
  have HS := hidd hs
  clear hA hC hs
  go_enter Try.func72, Try.ntmps72
  go_wp2_with fail
  go_loopw [9, 10] (fun iv jv wr => ∃ i j : Nat, i ≤ j ∧ j ≤ l.length ∧ iv = .int .i64 (i : Int) ∧ jv = .int .i64 (j : Int) ∧ (∀ t, t < i → key (l.getD t ar0) < T) ∧ (∀ t, j ≤ t → t < l.length → ¬ key (l.getD t ar0) < T) ∧ Below w.heap.size w wr) (fun iv jv _ => (intOf jv).toNat - (intOf iv).toNat)
  case atStart => exact ⟨0, l.length, Nat.zero_le _, Nat.le_refl _, rfl, rfl, fun t h => by omega, fun t h1 h2 => by omega, Below.refl _ _⟩
  case round =>
    obtain ⟨i, j, hij, hj, rfl, rfl, hlo, hhi, hb⟩ := hrel
    have HLo := hidd hlo
    have HHi := hidd hhi
    have HB := hidd hb
    clear hlo hhi hb
    by_cases hlt : i < j
    · have hltz : (i : Int) < (j : Int) := by omega
      obtain ⟨b, off, rfl, hbl, hc⟩ := HA.out.resolve_left (fun h => by rw [h] at hj; simp at hj; omega)
      go_upto_region 5 with fail
      obtain ⟨h, hh⟩ : ∃ h : Nat, ((i : Int) + (j : Int)) / 2 = (h : Int) := ⟨(i + j) / 2, by omega⟩
      simp only [hh]
      have hi1 : i ≤ h := by omega
      have hj1 : h < j := by omega
      clear hh
      have hhl : (h : Int) < (l.length : Int) := by omega
      obtain ⟨p0, p1, p2⟩ := hc h (by omega)
      replace p0 := (HB.out.cell (p := ⟨b, off + h * 3, none⟩) hbl).trans p0
      replace p1 := (HB.out.cell (p := ⟨b, off + h * 3 + 1, none⟩) hbl).trans p1
      replace p2 := (HB.out.cell (p := ⟨b, off + h * 3 + 2, none⟩) hbl).trans p2
      clear hc
      obtain ⟨x, hx⟩ : ∃ x, l.getD h ar0 = x := ⟨_, rfl⟩
      rw [hx] at p0 p1 p2
      have Hx := hidd hx
      clear hx
      have HCx := hidd (HC.out wr HB.out x)
      obtain ⟨x0, x1, x2⟩ := x
      dsimp only at p0 p1 p2 HCx
      go_wp2_with fail
      refine HCx.out.mono ?_
      rintro e w1 ⟨rfl, hb1⟩
      have HB1 := hidd (HB.out.trans (hb1.mono HB.out.size))
      obtain ⟨K, hK⟩ : ∃ K, key (x0, x1, x2) = K := ⟨_, rfl⟩
      have HK := hidd hK
      try rw [hK]
      clear hb1 hK p0 p1 p2 HCx
      dsimp only
      by_cases hk : K < T
      · have hk0 : cmpI K T < 0 := cmpI_lt.2 hk
        have HLo2 : Hid (∀ t, t < h + 1 → key (l.getD t ar0) < T) := fun t ht => by
          by_cases e : t = h
          · rw [e, Hx.out, HK.out]; exact hk
          · have h1 := List.pairwise_iff_getElem.1 HS.out t h (by omega) (by omega) (by omega)
            have e1 : l.getD t ar0 = l[t] := by simp [List.getD_eq_getElem?_getD, List.getElem?_eq_getElem (show t < l.length by omega)]
            have e2 : l.getD h ar0 = l[h] := by simp [List.getD_eq_getElem?_getD, List.getElem?_eq_getElem (show h < l.length by omega)]
            rw [← e1, ← e2, Hx.out, HK.out] at h1
            omega
        go_wp2_with fail
        go_roundw
        case rel => exact ⟨h + 1, j, by omega, hj, by go_num, rfl, HLo2.out, fun t h1 h2 => by have := HHi.out t h1 h2; omega, HB1.out⟩
        case measure => simp [intOf]; omega
      · have hk0 : ¬ cmpI K T < 0 := fun e => hk (cmpI_lt.1 e)
        have HHi2 : Hid (∀ t, h ≤ t → t < l.length → ¬ key (l.getD t ar0) < T) := fun t ht1 ht2 => by
          by_cases e : t = h
          · rw [e, Hx.out, HK.out]; exact hk
          · have h1 := List.pairwise_iff_getElem.1 HS.out h t (by omega) (by omega) (by omega)
            have e1 : l.getD t ar0 = l[t] := by simp [List.getD_eq_getElem?_getD, List.getElem?_eq_getElem (show t < l.length by omega)]
            have e2 : l.getD h ar0 = l[h] := by simp [List.getD_eq_getElem?_getD, List.getElem?_eq_getElem (show h < l.length by omega)]
            rw [← e1, ← e2, Hx.out, HK.out] at h1
            omega
        go_wp2_with fail
        go_roundw
        case rel => exact ⟨i, h, hi1, by omega, rfl, rfl, HLo.out, HHi2.out, HB1.out⟩
        case measure => simp [intOf]; omega
    · have hltz : ¬ (i : Int) < (j : Int) := by omega
      obtain rfl : i = j := by omega
      have HBe := hidd (below_edge key T l i hj HLo.out HHi.out)
      by_cases hin : i < l.length
      · have hinz : (i : Int) < (l.length : Int) := by omega
        obtain ⟨b, off, rfl, hbl, hc⟩ := HA.out.resolve_left (fun h => by rw [h] at hin; simp at hin)
        obtain ⟨p0, p1, p2⟩ := hc i hin
        replace p0 := (HB.out.cell (p := ⟨b, off + i * 3, none⟩) hbl).trans p0
        replace p1 := (HB.out.cell (p := ⟨b, off + i * 3 + 1, none⟩) hbl).trans p1
        replace p2 := (HB.out.cell (p := ⟨b, off + i * 3 + 2, none⟩) hbl).trans p2
        clear hc
        obtain ⟨x, hx⟩ : ∃ x, l.getD i ar0 = x := ⟨_, rfl⟩
        rw [hx] at p0 p1 p2
        have HFo : Hid (foundAt key T l = decide (key x = T)) := by
          show _ = _
          have e : l[i]? = some x := by rw [← hx, List.getD_eq_getElem?_getD, List.getElem?_eq_getElem hin]; rfl
          rw [foundAt, HBe.out, e]
        clear hx
        have HCx := hidd (HC.out wr HB.out x)
        obtain ⟨x0, x1, x2⟩ := x
        dsimp only at p0 p1 p2 HCx
        go_wp2_with fail
        refine HCx.out.mono ?_
        rintro e w1 ⟨rfl, hb1⟩
        have HB1 := hidd (HB.out.trans (hb1.mono HB.out.size))
        obtain ⟨K, hK⟩ : ∃ K, key (x0, x1, x2) = K := ⟨_, rfl⟩
        rw [hK] at HFo
        try rw [hK]
        clear hb1 hK p0 p1 p2 HCx
        dsimp only
        go_wp2_with fail
        go_ret2
        exact ⟨by rw [HBe.out, HFo.out, ← cmpI_eq]; rfl, HB1.out⟩
      · have hinz : ¬ (i : Int) < (l.length : Int) := by omega
        have HFo : Hid (foundAt key T l = false) := by
          show _ = _
          rw [foundAt, HBe.out, List.getElem?_eq_none (by omega)]
        go_wp2_with fail
        go_ret2
        exact ⟨by rw [HBe.out, HFo.out]; rfl, HB.out⟩
end Go.Proofs.Ytbkedgpligcicaa

namespace Go.Proofs.Ytbkedgpligcicaa
open Go Go.RowKit
set_option linter.unusedVariables false
set_option maxRecDepth 100000

/-- A cursor as it lies in a world: at the state i, behind the bytes p, with the number k. -/
structure CurAt (w0 W : World) (B : Nat) (aS : Option Addr) (cS : Nat) (S : List St) (i k : Nat) (p : Tx) (gv : Value) : Prop where
  old : Below w0.heap.size w0 W
  hold : HoldS w0 aS S
  new : w0.heap.size ≤ B
  box : W.heap[B]? = some (.cells #[.slice aS S.length cS, .int .i64 (i : Int), gv, .int .i64 (k : Int)] 71)
  row : W.ownsRow (B + 1) 5 1 gv p.length (Lib.byteCells p)
theorem CurAt.below {w0 W W' : World} {B : Nat} {aS : Option Addr} {cS : Nat} {S : List St} {i k : Nat} {p : Tx} {gv : Value} (h : CurAt w0 W B aS cS S i k p gv) (hb : Below W.heap.size W W') : CurAt w0 W' B aS cS S i k p gv :=
  ⟨h.old.trans (hb.mono h.old.size), h.hold, h.new, blko h.box hb, own_below h.row hb⟩
section
variable {w0 W : World} {B : Nat} {aS : Option Addr} {cS : Nat} {S : List St} {i k : Nat} {p : Tx} {gv : Value}
set_option maxHeartbeats 1000000 in
theorem arcs_any (h : CurAt w0 W B aS cS S i k p gv) (hi : i < S.length) : Calls Try.prog 73 #[.pointer (some ⟨B, 0, none⟩)] W fun e w' => ∃ ai ci m, e = .returned (.slice ai (arcsAt S i).length ci) ∧ HoldA w0 ai (arcsAt S i) ∧ w' = W.drewN m := by
  obtain ⟨b, off, rfl, hb, hc⟩ := h.hold.resolve_left (fun e => by rw [e] at hi; simp at hi)
  obtain ⟨_, ai, ci, c1, hA⟩ := hc i hi
  have c1' := (h.old.cell (p := ⟨b, off + i * 2 + 1, none⟩) hb).trans c1
  have x0 := blkc h.box 0
  have x1 := blkc h.box 1
  have hiz : (i : Int) < (S.length : Int) := by omega
  have HA : Hid (HoldA w0 ai (arcsAt S i)) := hA
  clear h hc hA c1
  change W.cell? _ = some (.slice ai (arcsAt S i).length ci) at c1'
  generalize (arcsAt S i).length = n at *
  go_enter Try.func73, Try.ntmps73
  go_wp2_with fail
  go_quiet (fail)
  go_wp2_with fail
  go_ret
  exact ⟨ai, ci, nq, rfl, HA.out, rfl⟩
set_option maxHeartbeats 1000000 in
theorem final_any (h : CurAt w0 W B aS cS S i k p gv) (hi : i < S.length) : Calls Try.prog 44 #[.pointer (some ⟨B, 0, none⟩)] W fun e w' => e = .returned (.bool (finAt S i)) ∧ ∃ m, w' = W.drewN m := by
  obtain ⟨b, off, rfl, hb, hc⟩ := h.hold.resolve_left (fun e => by rw [e] at hi; simp at hi)
  obtain ⟨c0, _⟩ := hc i hi
  have c0' := (h.old.cell (p := ⟨b, off + i * 2, none⟩) hb).trans c0
  have x0 := blkc h.box 0
  have x1 := blkc h.box 1
  have hiz : (i : Int) < (S.length : Int) := by omega
  clear h hc c0
  change W.cell? _ = some (.bool (finAt S i)) at c0'
  generalize finAt S i = F at *
  go_enter Try.func44, Try.ntmps44
  go_wp2_with fail
  go_quiet (fail)
  go_wp2_with fail
  go_ret
  exact ⟨rfl, nq, rfl⟩
theorem byteCells_snoc (l : List UInt8) (b : UInt8) : Lib.byteCells (l ++ [b]) = Lib.byteCells l ++ [.int .u8 (b.toNat : Int)] := by simp [Lib.byteCells]
theorem CurAt.setSt (h : CurAt w0 W B aS cS S i k p gv) (j : Nat) : CurAt w0 (W.setCell ⟨B, 1, none⟩ (.int .i64 (j : Int))) B aS cS S j k p gv :=
  ⟨h.old.setCell (p := ⟨B, 1, none⟩) h.new _, h.hold, h.new, blk_setk h.box 1 _, own_congr h.row fun b hb => by have := (own_blk h.row hb).1; exact heap_set_other W B 1 _ b (by omega)⟩
theorem CurAt.setNum (h : CurAt w0 W B aS cS S i k p gv) (j : Nat) : CurAt w0 (W.setCell ⟨B, 3, none⟩ (.int .i64 (j : Int))) B aS cS S i j p gv :=
  ⟨h.old.setCell (p := ⟨B, 3, none⟩) h.new _, h.hold, h.new, blk_setk h.box 3 _, own_congr h.row fun b hb => by have := (own_blk h.row hb).1; exact heap_set_other W B 3 _ b (by omega)⟩
theorem CurAt.push {V w6 : World} {g6 cp6 : Nat} {x : UInt8} (h : CurAt w0 W B aS cS S i k p gv) (hV : Below W.heap.size W V) (hown : w6.ownsRow (B + 1) 5 1 (.slice (some ⟨g6, 0, none⟩) (p.length + 1) cp6) (p.length + 1) (Lib.byteCells p ++ [.int .u8 (x.toNat : Int)])) (hg : V.grownBy w6 gv.ownBlock) (hat : gv.ownBlock = some g6 ∨ g6 = V.heap.size) :
    w6.heap[B]? = some (.cells #[.slice aS S.length cS, .int .i64 (i : Int), gv, .int .i64 (k : Int)] 71) ∧ CurAt w0 (w6.setCell ⟨B, 2, none⟩ (.slice (some ⟨g6, 0, none⟩) (p.length + 1) cp6)) B aS cS S i k (p ++ [x]) (.slice (some ⟨g6, 0, none⟩) (p.length + 1) cp6) := by
  have hBl := (Array.getElem?_eq_some_iff.1 h.box).1
  have hVs := hV.size
  have hgv : ∀ b, gv.ownBlock = some b → B + 1 ≤ b := fun b hb => (own_blk h.row hb).1
  have hbox : w6.heap[B]? = some (.cells #[.slice aS S.length cS, .int .i64 (i : Int), gv, .int .i64 (k : Int)] 71) := by
    rw [hg.block B (by omega) (fun e => by have := hgv B e.symm; omega), hV.block B hBl]
    exact h.box
  have hg6 : g6 ≠ B := by
    rcases hat with e | e
    · have := hgv g6 e; omega
    · omega
  have hb2 : Below w0.heap.size w0 V := h.old.trans (hV.mono h.old.size)
  have hb3 : Below w0.heap.size w0 w6 := hb2.grown hg hb2.size (fun b e => by have := hgv b e; have := h.new; omega)
  refine ⟨hbox, hb3.setCell (p := ⟨B, 2, none⟩) h.new _, h.hold, h.new, blk_setk hbox 2 _, ?_⟩
  rw [List.length_append, byteCells_snoc]
  exact own_congr hown fun b hb => heap_set_other w6 B 2 _ b (by cases hb; exact hg6)
end
end Go.Proofs.Ytbkedgpligcicaa

namespace Go.Proofs.Ytbkedgpligcicaa
open Go Go.RowKit
set_option linter.unusedVariables false
set_option maxRecDepth 100000

set_option maxHeartbeats 4000000 in
theorem follow_any {w0 W : World} {B : Nat} {aS : Option Addr} {cS : Nat} {S : List St} {i k : Nat} {p : Tx} {gv : Value} {x : UInt8} {j m : Nat} (h : CurAt w0 W B aS cS S i k p gv) (hp : p.length ≤ 65536) (hk : k ≤ 4096) (hm : m ≤ 4096) :
    Calls Try.prog 76 #[.pointer (some ⟨B, 0, none⟩), .agg #[.int .i64 (x.toNat : Int), .int .i64 (j : Int), .int .i64 (m : Int)]] W fun e w' => ∃ gv', e = .returned (.tuple #[]) ∧ CurAt w0 w' B aS cS S j (k + m) (p ++ [x]) gv' ∧ ∀ b, b < W.heap.size → b ≠ B → gv.ownBlock ≠ some b → w'.heap[b]? = W.heap[b]? := by
  obtain ⟨i1, hi1, hy0, hy1, hy2⟩ := info_parts Try.infoByte
  have hBl := (Array.getElem?_eq_some_iff.1 h.box).1
  have HBa := hidd ((Below.refl W.heap.size W).alloc (Nat.le_refl _) (.cells #[.int .i64 (x.toNat : Int), .int .i64 (j : Int), .int .i64 (m : Int)] 85))
  have HQ := hidd (heap_alloc_new W (.cells #[.int .i64 (x.toNat : Int), .int .i64 (j : Int), .int .i64 (m : Int)] 85))
  have Hc := hidd h
  clear h
  go_enter Try.func76, Try.ntmps76
  go_upto_region 1 with fail
  obtain ⟨Q, hQ⟩ : ∃ Q, W.heap.size = Q := ⟨_, rfl⟩
  obtain ⟨wa, hwa⟩ : ∃ wa, W.alloc (.cells #[.int .i64 (x.toNat : Int), .int .i64 (j : Int), .int .i64 (m : Int)] 85) = wa := ⟨_, rfl⟩
  rw [hwa] at HBa HQ
  try rw [hwa]
  clear hwa
  have Hca := hidd (Hc.out.below HBa.out)
  rw [hQ] at HQ hBl
  try rw [hQ]
  have a1 := blkc HQ.out 1
  have x1 := blkc Hca.out.box 1
  have f1 := blkf Hca.out.box 1
  have Hcs := hidd (Hca.out.setSt j)
  have HQs := hidd ((heap_set_other wa B 1 (.int .i64 (j : Int)) Q (by omega)).trans HQ.out)
  go_upto_region 2 with fail
  obtain ⟨wb, hwb⟩ : ∃ wb, wa.setCell ⟨B, 1, none⟩ (.int .i64 (j : Int)) = wb := ⟨_, rfl⟩
  have HFr0 : Hid (∀ b, b < Q → b ≠ B → wb.heap[b]? = W.heap[b]?) := fun b hb hne => by
    rw [← hwb, heap_set_other wa B 1 _ b hne]
    exact HBa.out.block b (by omega)
  have hsz0 : Q < wb.heap.size := by
    rw [← hwb]
    have := (Array.getElem?_eq_some_iff.1 HQ.out).1
    simpa using this
  rw [hwb] at Hcs HQs
  try rw [hwb]
  clear hwb a1 x1 f1 Hca HBa HQ
  have c2 := blkc Hcs.out.box 2
  have a0 := blkc HQs.out 0
  have HO := hidd Hcs.out.row
  obtain ⟨ag, cg, rfl⟩ := own_form Hcs.out.row
  have hxl := UInt8.toNat_lt x
  have hwx : IntKind.u8.wrap (x.toNat : Int) = (x.toNat : Int) := u8_in_b hxl
  have hBb : B < wb.heap.size := by omega
  have HP := hidd (fun V w6 g6 cp6 => Hcs.out.push (V := V) (w6 := w6) (g6 := g6) (cp6 := cp6) (x := x))
  have HK : Hid (∀ V w6 : World, Below wb.heap.size wb V → V.grownBy w6 (Value.slice ag p.length cg).ownBlock → ∀ b, b < wb.heap.size → (Value.slice ag p.length cg).ownBlock ≠ some b → w6.heap[b]? = wb.heap[b]?) := fun V w6 hV hg b hb hne => by
    rw [hg.block b (Nat.lt_of_lt_of_le hb hV.size) (fun e => hne e.symm), hV.block b hb]
  go_cut [9] (fun v9 wy => ∃ gv', CurAt w0 wy B aS cS S j k (p ++ [x]) gv' ∧ wy.heap[Q]? = some (.cells #[.int .i64 (x.toNat : Int), .int .i64 (j : Int), .int .i64 (m : Int)] 85) ∧ ∀ b, b < Q → b ≠ B → (Value.slice ag p.length cg).ownBlock ≠ some b → wy.heap[b]? = W.heap[b]?)
  case first =>
    go_region_law (refine step_append_lies _ rfl (.tmp 13) (.tmp 17) 22 rfl (B + 1) 5 i1 (.int .u8 0) 1 1 Try.underlying22 hi1 hy0 hy1 hy2 rfl (by decide) (.slice ag p.length cg) p.length (Lib.byteCells p) (by simp [Act.eval]) (by first | exact HO.out.drew.alloc _ | exact HO.out.alloc _) ⟨wb.heap.size, 0, none⟩ 1 1 [.int .u8 (x.toNat : Int)] (by simp [Act.eval]) rfl (by intro j' u' hj'; match j', hj' with | 0, hj' => simp at hj'; subst hj'; simp [Addr.add]) (by intro u' hu'; simp at hu'; subst hu'; rfl) (by omega) (by unfold maxLen; omega) (by omega) (by first | omega | (simp; omega)) _ rfl ?_; intro g6 cp6 w6 hown6 hgrow6 hat6 hlt6; obtain ⟨t1, t2⟩ := HP.out _ w6 g6 cp6 (by first | exact (below_drewN (Below.refl _ _) 1).alloc (by simp) _ | exact (Below.refl _ _).alloc (by simp) _) hown6 hgrow6 hat6; have s2 := blkc t1 2; have sf := blkf t1 2; have HT2 := hidd t2; have HG6 := hidd hgrow6; clear t1 t2 hown6 hgrow6 hat6 hlt6)
    all_goals
      go_wp2_with fail
      go_meet
      refine ⟨_, HT2.out, ?_, fun b hb hne hg => ?_⟩
      · rw [heap_set_other w6 B 2 _ Q (by omega)]
        exact (HK.out _ w6 (by first | exact (below_drewN (Below.refl _ _) 1).alloc (by simp) _ | exact (Below.refl _ _).alloc (by simp) _) HG6.out Q hsz0 (fun e => by
          obtain ⟨_, cur, hc⟩ := own_blk HO.out e
          exact blk_ne hc HQs.out (by decide) rfl)).trans HQs.out
      · rw [heap_set_other w6 B 2 _ b hne]
        exact (HK.out _ w6 (by first | exact (below_drewN (Below.refl _ _) 1).alloc (by simp) _ | exact (Below.refl _ _).alloc (by simp) _) HG6.out b (by omega) hg).trans (HFr0.out b hb hne)
  case rest =>
    obtain ⟨gv', hcu, hq, hfr⟩ := hcut
    have Hcu := hidd hcu
    have Hq := hidd hq
    have Hfr := hidd hfr
    clear hcu hq hfr HO HP HFr0 Hcs HQs c2 a0 HK
    have a2 := blkc Hq.out 2
    have c3 := blkc Hcu.out.box 3
    have f3 := blkf Hcu.out.box 3
    have hsum : IntKind.i64.wrap ((k : Int) + (m : Int)) = ((k + m : Nat) : Int) := by
      have : (k : Int) + (m : Int) = ((k + m : Nat) : Int) := by omega
      rw [this]
      exact IntWalk.i64_in _ ⟨by omega, by omega⟩
    obtain ⟨km, hkm⟩ : ∃ km, k + m = km := ⟨_, rfl⟩
    rw [hkm] at hsum
    have Hkm := hidd hkm
    clear hkm
    have Hset := hidd (Hcu.out.setNum km)
    have hBc : B < wc.heap.size := (Array.getElem?_eq_some_iff.1 Hcu.out.box).1
    have hQc : Q < wc.heap.size := (Array.getElem?_eq_some_iff.1 Hq.out).1
    go_wp2_with fail
    go_region
    all_goals
      go_wp2_with fail
      go_end0
      refine ⟨gv', rfl, ?_, fun b hb hne hg => ?_⟩
      · rw [Hkm.out]
        first | exact Hset.out | exact Hset.out.below (below_drewN (Below.refl _ _) 1)
      · rw [hQ] at hb
        first
          | exact (heap_set_other wc B 3 _ b hne).trans (Hfr.out b hb hne hg)
end Go.Proofs.Ytbkedgpligcicaa

namespace Go.Proofs.Ytbkedgpligcicaa
open Go Go.RowKit
set_option linter.unusedVariables false
set_option maxRecDepth 100000

theorem rk_le (t : Tx) (L : List Tx) : rk t L ≤ L.length := List.countP_le_length
theorem ahead_le (n : Nat) (L : List Tx) : aheadT n L ≤ L.length := List.countP_le_length
theorem subs_len : ∀ (p : Tx) (L : List Tx), (subs p L).length ≤ L.length
  | [], L => Nat.le_refl _
  | b :: p, L => Nat.le_trans (subs_len p _) (subT_len _ _)
theorem take_next {t : Tx} {i : Nat} {b : UInt8} (h : i < t.length) (hb : t.getD i 0 = b) : t.take (i + 1) = t.take i ++ [b] := by
  rw [List.take_add_one, List.getElem?_eq_getElem h]
  rw [List.getD_eq_getElem?_getD, List.getElem?_eq_getElem h] at hb
  simp at hb
  rw [hb]; rfl
theorem subs_stop {t : Tx} {i : Nat} {L : List Tx} (h : subs (t.take i) L = []) : subs t L = [] := by
  rw [← List.take_append_drop i t, subs_append, h, subs_nil]
/-- A dictionary's states. -/
structure DictAt (ts : List Tx) (ord : List (List Tx)) (S : List St) : Prop where
  bfs : IsBfs nextT ts ord
  sts : S = ord.map (stOf ord)
  few : ts.length ≤ 4096
theorem IsDict.at {c : Int} {S : List St} {ts : List Tx} (h : IsDict (c, S) ts) : ∃ ord, DictAt ts ord S := by
  obtain ⟨hg, ord, hb, hl, hd⟩ := h
  unfold dictOf at hd
  exact ⟨ord, hb, (Prod.mk.inj hd).2, hg.2.1⟩
section
variable {ts : List Tx} {ord : List (List Tx)} {S : List St}
theorem DictAt.lt (h : DictAt ts ord S) {L : List Tx} (hL : L ∈ ord) : ord.idxOf L < S.length := by
  rw [h.sts, List.length_map]; exact List.idxOf_lt_length_of_mem hL
theorem DictAt.arcs (h : DictAt ts ord S) {L : List Tx} (hL : L ∈ ord) : arcsAt S (ord.idxOf L) = (stOf ord L).2 := by
  rw [arcsAt, h.sts, dict_at h.bfs hL]
theorem DictAt.fin (h : DictAt ts ord S) {L : List Tx} (hL : L ∈ ord) : finAt S (ord.idxOf L) = finT L := by
  rw [finAt, h.sts, dict_at h.bfs hL]; rfl
end
/-- What spell does. -/
def SpellPost (w0 : World) (B : Nat) (aS : Option Addr) (cS : Nat) (S : List St) (ts : List Tx) (ord : List (List Tx)) (t : Tx) (e : Ending) (w' : World) : Prop :=
  ∃ b : Bool, e = .returned (.bool b) ∧ Below w0.heap.size w0 w' ∧ ((b = true ∧ subs t ts ∈ ord ∧ ∃ gv', CurAt w0 w' B aS cS S (ord.idxOf (subs t ts)) (rk t ts) t gv') ∨ (b = false ∧ subs t ts = []))
set_option maxHeartbeats 8000000 in
theorem spell_any {w0 W : World} {B : Nat} {aS : Option Addr} {cS : Nat} {S : List St} {gv : Value} {ts : List Tx} {ord : List (List Tx)} (t : Tx) (ht : t.length ≤ 65536) (hd : DictAt ts ord S) (h : CurAt w0 W B aS cS S (ord.idxOf ts) 0 [] gv) :
    Calls Try.prog 43 #[.pointer (some ⟨B, 0, none⟩), .string ⟨t.toArray⟩] W fun e w' => SpellPost w0 B aS cS S ts ord t e w' := by
  have HD := hidd hd
  have HC := hidd h
  have hfew := hd.few
  clear hd h
  have hsl : (⟨t.toArray⟩ : ByteArray).size = t.length := by rw [Lib.size_eq]
  go_enter Try.func43, Try.ntmps43
  go_wp2_with fail
  go_loopw [10] (fun iv wr => ∃ (i : Nat) (gv : Value), i ≤ t.length ∧ iv = .int .i64 (i : Int) ∧ subs (t.take i) ts ∈ ord ∧ CurAt w0 wr B aS cS S (ord.idxOf (subs (t.take i) ts)) (rk (t.take i) ts) (t.take i) gv) (fun iv _ => t.length - (intOf iv).toNat)
  case atStart => exact ⟨0, gv, Nat.zero_le _, rfl, (dict_root HD.out.bfs).1, by rw [List.take_zero, rk_nil]; exact HC.out⟩
  case round =>
    obtain ⟨i, gv1, hi, rfl, hmem, hcu⟩ := hrel
    clear HC
    have HM := hidd hmem
    have HC := hidd hcu
    clear hmem hcu
    by_cases hlt : i < t.length
    · have hltz : (i : Int) < (t.length : Int) := by omega
      obtain ⟨b, hb⟩ : ∃ b, t.getD i 0 = b := ⟨_, rfl⟩
      have xi : ∀ W, (Instr.index 9 (.string ⟨t.toArray⟩) (.int .i64 (i : Int))).run Try.prog W = .ok (.int .u8 (b.toNat : Int)) W := fun W => by rw [idx_run _ _ W hlt, hb]
      have Hb := hidd (take_next hlt hb)
      clear hb
      have hpl : (t.take i).length ≤ 65536 := by rw [List.length_take]; omega
      have hkl := rk_le (t.take i) ts
      obtain ⟨p, hp⟩ : ∃ p, t.take i = p := ⟨_, rfl⟩
      rw [hp] at HM HC Hb hpl hkl
      have Hp := hidd hp
      clear hp
      obtain ⟨L, hL⟩ : ∃ L, subs p ts = L := ⟨_, rfl⟩
      rw [hL] at HM HC
      have HL := hidd hL
      have hLl : L.length ≤ 4096 := by have := subs_len p ts; rw [hL] at this; omega
      clear hL
      have hil := HD.out.lt HM.out
      have Har := hidd (HD.out.arcs HM.out)
      obtain ⟨ix, hix⟩ : ∃ ix, ord.idxOf L = ix := ⟨_, rfl⟩
      rw [hix] at HC hil Har
      clear hix
      have HAr := hidd (fun (W' : World) (hW : Below wr.heap.size wr W') => arcs_any (HC.out.below hW) hil)
      rw [Har.out] at HAr
      have hal : (stOf ord L).2.length ≤ 256 := by have := labelsT_len L; simpa [stOf] using this
      have Hrs := hidd (stOf_rise ord L)
      obtain ⟨l, hl⟩ : ∃ l, (stOf ord L).2 = l := ⟨_, rfl⟩
      rw [hl] at HAr hal Hrs
      have Hl := hidd hl
      clear hl
      have hbl := UInt8.toNat_lt b
      have hwb : IntKind.i64.wrap (b.toNat : Int) = (b.toNat : Int) := IntWalk.i64_in _ ⟨by omega, by omega⟩
      have HBs := hidd (fun (W' : World) (hW : Below wr.heap.size wr W') (ai : Option Addr) (ci : Nat) (hA : HoldA w0 ai l) => bsf_any 74 Try.call74 (fun a => a.1) (b.toNat : Int) ai ci l W' (by omega) (hA.below (HC.out.old.trans (hW.mono HC.out.old.size))) (fun W2 _ x => spell1_any x.1 x.2.1 x.2.2 _ W2) Hrs.out)
      go_wp2_with fail
      go_cut [6, 7] (fun av fv wy => av = .int .i64 ((below (fun a => a.1) (b.toNat : Int) l : Nat) : Int) ∧ fv = .bool (foundAt (fun a => a.1) (b.toNat : Int) l) ∧ Below wr.heap.size wr wy)
      case first =>
        go_region_with (first
          | (go_at_call 73; refine (HAr.out _ (by first | exact below_drewN (Below.refl _ _) 1 | exact Below.refl _ _)).mono ?_; rintro e w1 ⟨ai, ci, m1, rfl, hA1, hw1⟩; have HA1 := hidd hA1; have HB1 : Hid (Below wr.heap.size wr w1) := (by rw [hw1]; first | exact below_drewN (below_drewN (Below.refl _ _) 1) m1 | exact below_drewN (Below.refl _ _) m1); clear hA1 hw1)
          | (go_at_call 72; refine (HBs.out _ HB1.out _ _ HA1.out).mono ?_; rintro e w2 ⟨rfl, hb2⟩; have HB2 := hidd (HB1.out.trans (hb2.mono HB1.out.size)); clear hb2))
        all_goals
          go_wp2_with fail
          go_meet
          exact ⟨rfl, rfl, HB2.out⟩
      case rest =>
        obtain ⟨rfl, rfl, hbel⟩ := hcut
        have HBc := hidd hbel
        clear hbel
        have HC2 := hidd (HC.out.below HBc.out)
        have hold2 := HC2.out.old
        by_cases hlab : b.toNat ∈ labelsT L
        · obtain ⟨q1, q2⟩ := label_found (ord := ord) hlab
          rw [Hl.out] at q1 q2
          rw [q1]
          have HNx := hidd (dict_next HD.out.bfs HM.out hlab)
          have hah := ahead_le b.toNat L
          obtain ⟨at_, hat⟩ : ∃ at_, below (fun a => a.1) (b.toNat : Int) l = at_ := ⟨_, rfl⟩
          rw [hat] at q2
          try rw [hat]
          have hatl : at_ < l.length := (List.getElem?_eq_some_iff.1 q2).1
          have hatz : (at_ : Int) < (l.length : Int) := by omega
          have q3 : l.getD at_ ar0 = ((b.toNat : Int), ((ord.idxOf (subT b.toNat L) : Nat) : Int), ((aheadT b.toNat L : Nat) : Int)) := by rw [List.getD_eq_getElem?_getD, q2]; rfl
          have Q3 := hidd q3
          have HAr2 := hidd (arcs_any HC2.out hil)
          rw [Har.out, Hl.out] at HAr2
          have HFo := hidd (fun (W' : World) (hW : Below wc.heap.size wc W') => follow_any (x := b) (j := ord.idxOf (subT b.toNat L)) (m := aheadT b.toNat L) (HC2.out.below hW) hpl (by omega) (by omega))
          have HSt : Hid (subs (t.take (i + 1)) ts = subT b.toNat L ∧ rk (t.take (i + 1)) ts = rk p ts + aheadT b.toNat L) := by
            rw [Hb.out, subs_snoc, rk_snoc, HL.out]
            exact ⟨rfl, rfl⟩
          clear q1 q2 q3 hat hlab
          obtain ⟨nx, hnx⟩ : ∃ nx, ord.idxOf (subT b.toNat L) = nx := ⟨_, rfl⟩
          obtain ⟨ah, hah2⟩ : ∃ ah, aheadT b.toNat L = ah := ⟨_, rfl⟩
          rw [hnx] at Q3 HFo
          rw [hah2] at Q3 HFo hah
          have Hnx := hidd hnx
          have Hah := hidd hah2
          clear hnx hah2
          go_upto_region 7 with fail
          go_wp2_with (first
            | (go_at_call 73; refine HAr2.out.mono ?_; rintro e w1 ⟨ai, ci, m1, rfl, hA1, rfl⟩; obtain ⟨g1, o1, rfl, hg1, hc1⟩ := hA1.resolve_left (fun h => by rw [h] at hatl; simp at hatl); obtain ⟨p0, p1, p2⟩ := hc1 at_ hatl; have hbm := below_drewN hold2 m1; replace p0 := (hbm.cell (p := ⟨g1, o1 + at_ * 3, none⟩) hg1).trans p0; replace p1 := (hbm.cell (p := ⟨g1, o1 + at_ * 3 + 1, none⟩) hg1).trans p1; replace p2 := (hbm.cell (p := ⟨g1, o1 + at_ * 3 + 2, none⟩) hg1).trans p2; rw [Q3.out] at p0 p1 p2; dsimp only at p0 p1 p2; clear hA1 hc1 hbm)
            | (go_at_call 76; refine (HFo.out _ (below_drewN (Below.refl _ _) _)).mono ?_))
          rintro e w2 ⟨gv2, rfl, hcu2, _⟩
          have HC3 := hidd hcu2
          clear hcu2 p0 p1 p2
          dsimp only
          go_wp2_with fail
          go_roundw
          case rel => exact ⟨i + 1, gv2, by omega, by go_num, by rw [HSt.out.1]; exact HNx.out, by rw [HSt.out.1, HSt.out.2, Hb.out, Hnx.out, Hah.out]; exact HC3.out⟩
          case measure => simp [intOf]; omega
        · have q1 := label_not (ord := ord) hlab
          rw [Hl.out] at q1
          rw [q1]
          have HNo : Hid (subs t ts = []) := by
            refine subs_stop (i := i + 1) ?_
            rw [Hb.out, subs_snoc, HL.out]
            exact not_label hlab
          clear q1 hlab
          go_wp2_with fail
          go_ret
          exact ⟨false, rfl, HC2.out.old, Or.inr ⟨rfl, HNo.out⟩⟩
    · have hltz : ¬ (i : Int) < (t.length : Int) := by omega
      obtain rfl : i = t.length := by omega
      have e1 : t.take t.length = t := List.take_length
      rw [e1] at HM HC
      go_wp2_with fail
      go_ret
      exact ⟨true, rfl, HC.out.old, Or.inl ⟨rfl, HM.out, gv1, HC.out⟩⟩
end Go.Proofs.Ytbkedgpligcicaa

namespace Go.Proofs.Ytbkedgpligcicaa
open Go Go.RowKit
set_option linter.unusedVariables false
set_option maxRecDepth 100000

/-- The terms of a dictionary, if it is one. -/
noncomputable def dictT (c : Int) (S : List St) : Option (List Tx) := @dite _ (∃ ts, IsDict (c, S) ts) (Classical.propDecidable _) (fun h => some (Classical.choose h)) (fun _ => none)
theorem dictT_some {c : Int} {S : List St} {ts : List Tx} (h : IsDict (c, S) ts) : dictT c S = some ts := by
  have he : ∃ ts, IsDict (c, S) ts := ⟨ts, h⟩
  unfold dictT
  rw [dif_pos he, (Classical.choose_spec he).uniq h]
theorem dictT_none {c : Int} {S : List St} (h : ¬ ∃ ts, IsDict (c, S) ts) : dictT c S = none := by
  unfold dictT
  rw [dif_neg h]
theorem okD_cases (c : Int) (S : List St) : (okD c S = true ∧ ∃ ts, IsDict (c, S) ts) ∨ (okD c S = false ∧ ¬ ∃ ts, IsDict (c, S) ts) := by
  rcases Classical.em (∃ ts, IsDict (c, S) ts) with h | h
  · exact Or.inl ⟨okD_true h, h⟩
  · exact Or.inr ⟨okD_false h, h⟩
/-- What DictFind tells. -/
def findO (d : Option (List Tx)) (t : Tx) : Int × Int := if 65536 < t.length then (0, 2) else match d with
  | none => (0, 1)
  | some ts => if t ∈ ts then (((ts.idxOf t : Nat) : Int), 0) else (0, 8)
def FindC (fn : Nat) : Prop := ∀ (c : Int) (a : Option Addr) (cap : Nat) (S : List St) (t : Tx) (w : World), S.length ≤ 1048576 → (∀ i, (arcsAt S i).length ≤ 1048576) → HoldS w a S →
  Calls Try.prog fn #[.agg #[.int .i64 c, .slice a S.length cap], .string ⟨t.toArray⟩] w fun e w' => e = .returned (.tuple #[.int .i64 (findO (dictT c S) t).1, .int .i64 (findO (dictT c S) t).2]) ∧ Below w.heap.size w w'
theorem findO_long {d : Option (List Tx)} {t : Tx} (h : 65536 < t.length) : findO d t = (0, 2) := by unfold findO; rw [if_pos h]
theorem findO_none {t : Tx} (h : ¬ 65536 < t.length) : findO none t = (0, 1) := by rw [findO, if_neg h]
theorem findO_in {t : Tx} {ts : List Tx} (h : ¬ 65536 < t.length) (hm : t ∈ ts) : findO (some ts) t = (((ts.idxOf t : Nat) : Int), 0) := by rw [findO, if_neg h]; simp [hm]
theorem findO_out {t : Tx} {ts : List Tx} (h : ¬ 65536 < t.length) (hm : t ∉ ts) : findO (some ts) t = (0, 8) := by rw [findO, if_neg h]; simp [hm]
theorem lst_str (x y : Tx) : ((⟨x.toArray⟩ : ByteArray).toList == (⟨y.toArray⟩ : ByteArray).toList) = decide (x = y) := by
  rw [Lib.toList_data, Lib.toList_data]
  by_cases h : x = y <;> simp [h]

end Go.Proofs.Ytbkedgpligcicaa

namespace Go.Proofs.Ytbkedgpligcicaa
open Go
set_option linter.unusedVariables false

/-! Numbers in bytes of seven bits. -/
def putL (v : Nat) : List UInt8 := if v < 128 then [UInt8.ofNat v] else UInt8.ofNat (128 + v % 128) :: putL (v / 128)
termination_by v
decreasing_by omega
theorem putL_small (v : Nat) (h : v < 128) : putL v = [UInt8.ofNat v] := by rw [putL, if_pos h]
theorem putL_big (v : Nat) (h : ¬ v < 128) : putL v = UInt8.ofNat (128 + v % 128) :: putL (v / 128) := by rw [putL, if_neg h]
theorem putL_pos (v : Nat) : 1 ≤ (putL v).length := by
  by_cases h : v < 128
  · rw [putL_small v h]; simp
  · rw [putL_big v h]; simp
theorem putL_length (k : Nat) : ∀ v, v < 128 ^ (k + 1) → (putL v).length ≤ k + 1 := by
  induction k with
  | zero => intro v h; rw [putL_small v (by simpa using h)]; simp
  | succ k ih =>
    intro v h
    by_cases hv : v < 128
    · rw [putL_small v hv]; simp
    · rw [putL_big v hv]
      have : v / 128 < 128 ^ (k + 1) := Nat.div_lt_of_lt_mul (by rw [Nat.pow_succ] at h; omega)
      have := ih _ this
      simp; omega
theorem putL_length9 (v : Nat) (h : v < 4611686018427387904) : (putL v).length ≤ 9 := putL_length 8 v (Nat.lt_trans h (by decide))

def getGo : List UInt8 → Nat → Nat → Option (Nat × Nat)
  | [], _, _ => none
  | c :: t, n, v =>
    if 9 ≤ n ∨ (n = 8 ∧ 63 < c.toNat) then none
    else if c.toNat < 128 then (if n = 0 ∨ 0 < c.toNat then some (v + c.toNat % 128 * 128 ^ n, n + 1) else none)
    else getGo t (n + 1) (v + c.toNat % 128 * 128 ^ n)
def getL (bs : List UInt8) : Option (Nat × Nat) := getGo bs 0 0

theorem pow128 (n : Nat) (h : 9 ≤ n) : 9223372036854775808 ≤ 128 ^ n := by
  have : 128 ^ 9 ≤ 128 ^ n := Nat.pow_le_pow_right (by omega) h
  simpa using this
theorem pow128_8 (n : Nat) (h : 8 ≤ n) : 72057594037927936 ≤ 128 ^ n := by
  have : 128 ^ 8 ≤ 128 ^ n := Nat.pow_le_pow_right (by omega) h
  simpa using this

theorem ofNat_toNatP (v : Nat) (h : v < 256) : (UInt8.ofNat v).toNat = v := by simp; omega

theorem getGo_put (x : Nat) : ∀ (rest : List UInt8) (n v : Nat), x * 128 ^ n < 4611686018427387904 → (n = 0 ∨ 0 < x) → getGo (putL x ++ rest) n v = some (v + x * 128 ^ n, n + (putL x).length) := by
  induction x using Nat.strongRecOn with
  | _ x ih =>
    intro rest n v hx hn
    by_cases h : x < 128
    · rw [putL_small x h]
      simp only [List.cons_append, List.nil_append, getGo]
      rw [ofNat_toNatP x (by omega)]
      have h1 : ¬ (9 ≤ n ∨ (n = 8 ∧ 63 < x)) := by
        rintro (h9 | ⟨rfl, h8⟩)
        · have := pow128 n h9
          rcases hn with rfl | hp
          · omega
          · have : 1 * 128 ^ n ≤ x * 128 ^ n := Nat.mul_le_mul_right _ hp
            omega
        · omega
      rw [if_neg h1, if_pos h, if_pos hn, Nat.mod_eq_of_lt h]
      simp
    · rw [putL_big x h]
      simp only [List.cons_append, getGo]
      rw [ofNat_toNatP _ (by omega)]
      have h1 : ¬ (9 ≤ n ∨ (n = 8 ∧ 63 < 128 + x % 128)) := by
        intro hh
        have h8 : 8 ≤ n := by omega
        have := pow128_8 n h8
        have : 128 * 128 ^ n ≤ x * 128 ^ n := Nat.mul_le_mul_right _ (by omega)
        omega
      have e := Nat.div_add_mod x 128
      have key : x / 128 * 128 ^ (n + 1) + x % 128 * 128 ^ n = x * 128 ^ n := by rw [Nat.pow_succ]; grind
      rw [if_neg h1, if_neg (by omega), ih (x / 128) (by omega) rest (n + 1) _ (by omega) (by omega)]
      have e2 : (128 + x % 128) % 128 = x % 128 := by omega
      rw [e2]
      simp only [List.length_cons, Option.some.injEq, Prod.mk.injEq]
      omega

theorem getGo_inv (bs : List UInt8) : ∀ (n v v' n' : Nat), getGo bs n v = some (v', n') →
    ∃ x, bs.take (n' - n) = putL x ∧ v' = v + x * 128 ^ n ∧ (n = 0 ∨ 0 < x) ∧ x * 128 ^ n < 4611686018427387904 ∧ n' = n + (putL x).length := by
  induction bs with
  | nil => intro n v v' n' h; simp [getGo] at h
  | cons c t ih =>
    intro n v v' n' h
    rw [getGo] at h
    have hc : c.toNat < 256 := c.toNat_lt
    split at h
    · cases h
    · rename_i h1
      split at h
      · rename_i h2
        split at h
        · rename_i h3
          simp only [Option.some.injEq, Prod.mk.injEq] at h
          obtain ⟨rfl, rfl⟩ := h
          have hp : putL c.toNat = [c] := by rw [putL_small _ h2]; simp
          refine ⟨c.toNat, ?_, by rw [Nat.mod_eq_of_lt h2], h3, ?_, by rw [hp]; rfl⟩
          · rw [hp]; simp
          · by_cases h8 : n = 8
            · subst h8; omega
            · have : 128 ^ n ≤ 128 ^ 7 := Nat.pow_le_pow_right (by omega) (by omega)
              have : c.toNat * 128 ^ n ≤ 127 * 128 ^ 7 := Nat.mul_le_mul (by omega) this
              omega
        · cases h
      · rename_i h2
        obtain ⟨x, h3, rfl, h4, h5, h6⟩ := ih _ _ _ _ h
        have h4' : 0 < x := by omega
        have hp : putL (x * 128 + c.toNat % 128) = c :: putL x := by
          rw [putL_big _ (by omega)]
          have e1 : (x * 128 + c.toNat % 128) % 128 = c.toNat % 128 := by omega
          have e2 : (x * 128 + c.toNat % 128) / 128 = x := by omega
          have e3 : 128 + c.toNat % 128 = c.toNat := by omega
          rw [e1, e2, e3]; simp
        refine ⟨x * 128 + c.toNat % 128, ?_, ?_, Or.inr (by omega), ?_, ?_⟩
        · rw [hp]
          have : n' - n = (n' - (n + 1)) + 1 := by omega
          rw [this, List.take_succ_cons, h3]
        · rw [Nat.pow_succ]; grind
        · by_cases h7 : n ≤ 7
          · have hq : x * 128 ^ n * 128 < 4611686018427387904 := by rw [Nat.pow_succ] at h5; grind
            have hq2 : x * 128 ^ n < 36028797018963968 := by omega
            have e : (x * 128 + c.toNat % 128) * 128 ^ n = x * 128 ^ n * 128 + c.toNat % 128 * 128 ^ n := by grind
            rw [e]
            -- the digits below
            have hP : 0 < 128 ^ n := Nat.pow_pos (by omega)
            have hr : c.toNat % 128 * 128 ^ n < 128 ^ (n + 1) := by
              rw [Nat.pow_succ, Nat.mul_comm (128 ^ n)]
              exact Nat.mul_lt_mul_of_pos_right (by omega) hP
            have hd : 128 ^ (n + 1) ∣ 4611686018427387904 := by
              have : (4611686018427387904 : Nat) = 128 ^ 8 * 64 := by decide
              rw [this]
              exact Nat.dvd_trans (Nat.pow_dvd_pow 128 (by omega)) (Nat.dvd_mul_right _ _)
            obtain ⟨q, hq3⟩ := hd
            have e4 : x * 128 ^ n * 128 = 128 ^ (n + 1) * x := by rw [Nat.pow_succ]; grind
            have hxq : x < q := by
              rw [hq3, e4] at hq
              exact Nat.lt_of_mul_lt_mul_left hq
            have : 128 ^ (n + 1) * (x + 1) ≤ 128 ^ (n + 1) * q := Nat.mul_le_mul_left _ hxq
            rw [e4]
            rw [Nat.mul_add, Nat.mul_one] at this
            omega
          · exfalso
            have h8 : n = 8 := by omega
            subst h8
            omega
        · rw [hp, List.length_cons]; omega

theorem getL_put (x : Nat) (rest : List UInt8) (h : x < 4611686018427387904) : getL (putL x ++ rest) = some (x, (putL x).length) := by
  have := getGo_put x rest 0 0 (by simpa using h) (Or.inl rfl)
  simpa [getL] using this
theorem getL_inv {bs : List UInt8} {v n : Nat} (h : getL bs = some (v, n)) : bs.take n = putL v ∧ v < 4611686018427387904 ∧ n = (putL v).length := by
  obtain ⟨x, h1, h2, h3, h4, h5⟩ := getGo_inv bs 0 0 v n h
  have e : v = x := by simpa using h2
  subst e
  simp at h1 h4 h5
  exact ⟨h1, h4, h5⟩
theorem getL_le {bs : List UInt8} {v n : Nat} (h : getL bs = some (v, n)) : n ≤ bs.length ∧ n ≤ 9 ∧ 1 ≤ n := by
  obtain ⟨h1, h2, h3⟩ := getL_inv h
  have := putL_length9 v h2
  have := putL_pos v
  have : (bs.take n).length = n := by rw [h1, h3]
  rw [List.length_take] at this
  omega
end Go.Proofs.Ytbkedgpligcicaa

namespace Go.Proofs.Ytbkedgpligcicaa
open Go Go.RowKit
set_option linter.unusedVariables false

set_option maxHeartbeats 1000000 in
set_option maxRecDepth 100000 in
theorem appendInt_any (base n : Nat) (v : Value) (l : List UInt8) (x : Nat) (w : World) (hx : x < 4611686018427387904) (hl : l.length = n) (hn : n ≤ 1099511627776) (hb : base ≤ w.heap.size) (h : w.ownsRow base 5 1 v n (Lib.byteCells l)) :
    Calls Try.prog 48 #[v, .int .i64 (x : Int)] w fun e w' => ∃ v', e = .returned v' ∧ w'.ownsRow base 5 1 v' (n + (putL x).length) (Lib.byteCells (l ++ putL x)) ∧ Grew w w' v v' ∧ v' ≠ .slice none 0 0 := by
  obtain ⟨i0, hi, hz0, hz1, hz2⟩ := info_parts Try.infoByte
  have HO := hidd h
  clear h
  go_enter Try.func48, Try.ntmps48
  go_wp2
  go_loopw [0, 5] (fun u r wr => ∃ (y : Nat) (q : List UInt8), y ≤ x ∧ r = .int .u64 (y : Int) ∧ q ++ putL y = l ++ putL x ∧ wr.ownsRow base 5 1 u q.length (Lib.byteCells q) ∧ Grew w wr v u) (fun _ r _ => (intOf r).toNat)
  case atStart => exact ⟨x, l, Nat.le_refl _, by go_num, rfl, by rw [hl]; exact HO.out, Grew.refl _ _⟩
  case round =>
    obtain ⟨y, q, hy, rfl, hq, hown, hg⟩ := hrel
    have HO2 := hidd hown
    have HG := hidd hg
    have Hq := hidd hq
    have hlen : q.length ≤ n + 9 := by
      have := congrArg List.length hq
      rw [List.length_append, List.length_append] at this
      have := putL_length9 x hx
      have := putL_pos y
      omega
    clear hown hg hq
    by_cases hlt : y < 128
    · have hlz : ¬ (127 : Int) < (y : Int) := by omega
      go_wp2_with (at_builtin; refine wpList_append_own_at _ rfl _ _ 22 rfl base 5 i0 (.int .u8 0) 1 1 Try.underlying22 hi hz0 hz1 hz2 rfl (by decide) _ _ _ rfl (HO2.out.alloc _) ⟨wr.heap.size, 0, none⟩ 1 1 [.int .u8 (y : Int)] rfl rfl ?c1 ?c2 ?c3 ?c4 ?c5 ?_)
      try case c1 =>
        intro j u hj
        match j, hj with
        | 0, hj => simp at hj; subst hj; simp [Addr.add]
      case c2 => first | rfl | (intro u hu; simp at hu; subst hu; rfl)
      case c3 => unfold maxLen; omega
      case c4 => omega
      case c5 => have := HG.out.1.size; simp; omega
      intro v' w5 hown' hgrow hne hat
      have R : Hid (w5.ownsRow base 5 1 v' (n + (putL x).length) (Lib.byteCells (l ++ putL x)) ∧ Grew w w5 v v' ∧ v' ≠ .slice none 0 0) := by
        refine ⟨?_, HG.out.trans (((Grew.refl wr u0).alloc _).of hgrow (by simpa using hat)), ?_⟩
        · rw [← Hq.out, putL_small y hlt, Lib.byteCells_append, byte_cell1 y (by omega)]
          have e : n + (putL x).length = q.length + 1 := by
            have := congrArg List.length Hq.out
            rw [List.length_append, List.length_append, putL_small y hlt] at this
            simp at this; omega
          rw [e]; exact hown'
        · first | exact hne | (intro e; have := (hne.1 e).2; omega)
      clear hown' hgrow hat hne
      go_wp2
      go_ret
      exact ⟨_, rfl, R.out.1, R.out.2.1, R.out.2.2⟩
    · have hlz : (127 : Int) < (y : Int) := by omega
      obtain ⟨z, hz, hbz⟩ : ∃ z : Nat, z = 128 + y % 128 ∧ bits .or .u64 (bits .and .u64 (y : Int) 127) 128 = (z : Int) := by
        refine ⟨_, rfl, ?_⟩
        have h1 : bits .and .u64 (y : Int) 127 = ((y % 128 : Nat) : Int) := by
          have := u64_and_nat y 127 (by omega) (by omega)
          rw [nat_mask7] at this
          exact this
        have h2 : bits .or .u64 ((y % 128 : Nat) : Int) 128 = ((128 + y % 128 : Nat) : Int) := by
          have h3 := u64_or_nat (y % 128) 128 (by omega) (by omega)
          rw [Nat.or_comm, nat_join 7 128 (y % 128) (by decide) (by omega)] at h3
          exact h3
        rw [h1, h2]
      have hz256 : z < 256 := by omega
      have Hz := hidd hz
      clear hz
      go_wp2_with (at_builtin; refine wpList_append_own_at _ rfl _ _ 22 rfl base 5 i0 (.int .u8 0) 1 1 Try.underlying22 hi hz0 hz1 hz2 rfl (by decide) _ _ _ rfl (HO2.out.alloc _) ⟨wr.heap.size, 0, none⟩ 1 1 [.int .u8 (z : Int)] rfl rfl ?d1 ?d2 ?d3 ?d4 ?d5 ?_)
      try case d1 =>
        intro j u hj
        match j, hj with
        | 0, hj => simp at hj; subst hj; simp [Addr.add]
      case d2 => first | rfl | (intro u hu; simp at hu; subst hu; rfl)
      case d3 => unfold maxLen; omega
      case d4 => omega
      case d5 => have := HG.out.1.size; simp; omega
      intro v' w5 hown' hgrow hne hat
      have R : Hid (w5.ownsRow base 5 1 v' (q ++ [UInt8.ofNat (128 + y % 128)]).length (Lib.byteCells (q ++ [UInt8.ofNat (128 + y % 128)])) ∧ Grew w w5 v v' ∧ (q ++ [UInt8.ofNat (128 + y % 128)]) ++ putL (y / 128) = l ++ putL x) := by
        refine ⟨?_, HG.out.trans (((Grew.refl wr u0).alloc _).of hgrow (by simpa using hat)), ?_⟩
        · rw [Lib.byteCells_append, byte_cell1 _ (by omega), List.length_append, ← Hz.out]
          exact hown'
        · rw [← Hq.out, putL_big y hlt]; simp
      clear hown' hgrow hat hne HG HO2 Hq
      go_wp2
      go_roundw
      case rel => exact ⟨y / 128, _, by omega, by go_num, R.out.2.2, R.out.1, R.out.2.1⟩
      case measure => simp [intOf]; omega
end Go.Proofs.Ytbkedgpligcicaa

namespace Go.Proofs.Ytbkedgpligcicaa
open Go Go.RowKit
set_option linter.unusedVariables false

def putOK (z : Int) : Bool := decide (0 ≤ z ∧ z ≤ 4611686018427387903)
def putB (z : Int) : List UInt8 := if putOK z then putL z.toNat else []
def putC (z : Int) : Int := if putOK z then 0 else 12
theorem putB_length (z : Int) : (putB z).length ≤ 9 := by
  unfold putB
  split
  · rename_i h; simp [putOK] at h; exact putL_length9 _ (by omega)
  · simp

set_option maxHeartbeats 1000000 in
set_option maxRecDepth 100000 in
theorem specPut_any (x : Nat) : ∀ (w : World), x < 4611686018427387904 →
    Calls Try.prog 92 #[.int .i64 (x : Int)] w fun e w' => ∃ g cap, e = .returned (.slice (some ⟨g, 0, none⟩) (putL x).length cap) ∧ w'.ownsRow w.heap.size 5 1 (.slice (some ⟨g, 0, none⟩) (putL x).length cap) (putL x).length (Lib.byteCells (putL x)) ∧ Below w.heap.size w w' := by
  obtain ⟨i0, hi, hz0, hz1, hz2⟩ := info_parts Try.infoByte
  induction x using Nat.strongRecOn with
  | _ x ih =>
    intro w hx
    by_cases hlt : x < 128
    · have hlz : (x : Int) < 128 := by omega
      have Hp := hidd (putL_small x hlt)
      clear ih
      go_enter Try.func92, Try.ntmps92
      go_wp2
      go_ret
      refine ⟨w.heap.size, 1, ?_, ?_, (Below.refl _ _).alloc (Nat.le_refl _) _⟩
      · rw [Hp.out]; rfl
      · rw [Hp.out, byte_cell1 x (by omega)]
        have := World.ownsRow_lit (base := w.heap.size) (e := 5) (size := 1) w #[.int .u8 (x : Int)] 1 (Nat.le_refl _) (by unfold maxLen; omega) (by simp)
        simpa using this
    · have hlz : ¬ (x : Int) < 128 := by omega
      have IH := hidd (ih (x / 128) (by omega))
      clear ih
      have Hp := hidd (putL_big x hlt)
      go_enter Try.func92, Try.ntmps92
      go_wp2_with fail
      refine (IH.out _ (by omega)).mono ?_
      rintro e w1 ⟨g, cap, rfl, ho, hbl⟩
      have hL : (w.alloc (.cells #[Value.int .u8 (128 + (x : Int) % 128)] 5)).ownsRow w.heap.size 5 1 (.slice (some ⟨w.heap.size, 0, none⟩) 1 1) 1 [.int .u8 (128 + (x : Int) % 128)] := by
        have := World.ownsRow_lit (base := w.heap.size) (e := 5) (size := 1) w #[.int .u8 (128 + (x : Int) % 128)] 1 (Nat.le_refl _) (by unfold maxLen; omega) (by simp)
        simpa using this
      have HL := hidd (own_below hL hbl)
      have HO := hidd ho
      have HB : Hid (Below w.heap.size w w1) := ((Below.refl _ _).alloc (Nat.le_refl _) _).trans (hbl.mono (by simp))
      have Hc : Hid (∀ j u, (Lib.byteCells (putL (x / 128)))[j]? = some u → w1.cell? ((⟨g, 0, none⟩ : Addr).add j) = some u) := by
        intro j u hj
        rw [add_head, ho.cellAt j (by have := (List.getElem?_eq_some_iff.1 hj).1; rw [Lib.byteCells_length] at this; omega)]
        exact hj
      have hp9 := putL_length9 (x / 128) (by omega)
      have hsz := HB.out.size
      clear hL ho hbl
      go_wp2_with (at_builtin; refine wpList_append_own_at _ rfl _ _ 22 rfl w.heap.size 5 i0 (.int .u8 0) 1 1 Try.underlying22 hi hz0 hz1 hz2 rfl (by decide) _ _ _ rfl HL.out ⟨g, 0, none⟩ (putL (x / 128)).length cap (Lib.byteCells (putL (x / 128))) rfl (by rw [Lib.byteCells_length, Nat.mul_one]) Hc.out (Lib.byteCells_one _) ?c3 ?c4 ?c5 ?_)
      case c3 => unfold maxLen; omega
      case c4 => omega
      case c5 => exact hsz
      intro v' w5 hown' hgrow hne hat
      have R : Hid (w5.ownsRow w.heap.size 5 1 v' (putL x).length (Lib.byteCells (putL x)) ∧ Below w.heap.size w w5) := by
        refine ⟨?_, HB.out.grown hgrow hsz (own_block HL.out)⟩
        have e1 : (putL x).length = 1 + (putL (x / 128)).length := by rw [Hp.out, List.length_cons]; omega
        have e2 : Lib.byteCells (putL x) = [.int .u8 (128 + (x : Int) % 128)] ++ Lib.byteCells (putL (x / 128)) := by
          rw [Hp.out]
          show Lib.byteCells ([UInt8.ofNat (128 + x % 128)] ++ putL (x / 128)) = _
          rw [Lib.byteCells_append, byte_cell1 _ (by omega)]
          simp
        rw [e1, e2]; exact hown'
      clear hown' hgrow hat HL HO HB Hc
      have hpos := putL_pos x
      rcases own_cases R.out.1 with ⟨rfl, h0⟩ | ⟨g2, cap2, rfl, _, _⟩
      · omega
      · go_wp2
        go_ret
        exact ⟨g2, cap2, rfl, R.out.1, R.out.2⟩
end Go.Proofs.Ytbkedgpligcicaa
