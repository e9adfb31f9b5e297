import Derived.Test.YtbkedgpligcicaaDictJ23
import Derived.Test.YtbkedgpligcicaaDictJ27
import Derived.WalkLawsBesides
import Derived.BigQuiet
import Derived.Deep.QuietTactic
import Derived.Deep.RegionLaw
import Derived.Deep.RegionHeld
import Derived.Test.YtbkedgpligcicaaDictJ06
import Derived.Deep.AppendLies
import Derived.Deep.CutBlock
import Derived.Deep.DeepCutAuto
import Derived.Deep.RegionHeld3
namespace Go.Proofs.Ytbkedgpligcicaa
open Go Go.RowKit
set_option linter.unusedVariables false
set_option maxRecDepth 100000

theorem TmAt.below {w w' : World} {a : Option Addr} {l : List (List UInt8)} (h : TmAt w a l) (hb : Below w.heap.size w w') : TmAt w' a l := by
  refine h.keep hb.size fun g off ha hn => ?_
  obtain ⟨g', off', ha', hg', _⟩ := h.resolve_left hn
  rw [ha] at ha'; cases ha'
  exact hb.block _ hg'
def szG {X : Type} (g : Int → X → Int) : Int → List X → Int
  | left, [] => left
  | left, x :: t => if g left x < 0 then -1 else szG g (g left x) t
theorem szG_step {X : Type} (g : Int → X → Int) (l : List X) (d : X) (k : Nat) (left : Int) (h : k < l.length) : szG g left (l.drop k) = if g left (l.getD k d) < 0 then -1 else szG g (g left (l.getD k d)) (l.drop (k + 1)) := by
  rw [List.drop_eq_getElem_cons h, szG]; simp [h]
def szTx (left : Int) (l : List (List UInt8)) : Int := if left - (l.length : Int) < 0 then -1 else szG (fun a t => szN a t.length) (left - (l.length : Int)) l
theorem szTx_bound {left : Int} {l : List (List UInt8)} (h0 : 0 ≤ left) (h : ¬ szTx left l < 0) : (l.length : Int) ≤ left := by
  unfold szTx at h
  split at h
  · omega
  · omega
set_option maxHeartbeats 2000000 in
theorem szStrs_any (a : Option Addr) (c : Nat) (l : List (List UInt8)) (left : Int) (w : World) (h0 : 0 ≤ left) (h1 : left ≤ 1048576) (hn : l.length ≤ 9223372036854775807) (hA : ∀ i, (l.getD i []).length ≤ 9223372036854775807) (hS : TmAt w a l) :
    Calls Try.prog 17 #[.slice a l.length c, .int .i64 left] w fun e w' => e = .returned (.int .i64 (szTx left l)) ∧ w' = w := by
  have HS := hidd hS
  have HA := hidd hA
  clear hS hA
  by_cases h : left - (l.length : Int) < 0
  · have HE : Hid (szTx left l = -1) := by show _ = _; rw [szTx, if_pos h]
    go_enter Try.func17, Try.ntmps17
    go_wp2_with fail
    go_ret
    rw [HE.out]
    exact ⟨rfl, rfl⟩
  · obtain ⟨R, hR⟩ : ∃ R, szTx left l = R := ⟨_, rfl⟩
    rw [hR]
    have HE : Hid (szG (fun a t => szN a t.length) (left - (l.length : Int)) l = R) := by show _ = _; rw [← hR, szTx, if_neg h]
    clear hR
    go_enter Try.func17, Try.ntmps17
    go_wp2_with fail
    go_loopw [1, 5] (fun lv iv wr => ∃ (k : Nat) (x : Int), k ≤ l.length ∧ iv = .int .i64 (k : Int) ∧ lv = .int .i64 x ∧ 0 ≤ x ∧ x ≤ 1048576 ∧ szG (fun a t => szN a t.length) x (l.drop k) = R ∧ wr = w) (fun _ iv _ => l.length - (intOf iv).toNat)
    case atStart => exact ⟨0, _, Nat.zero_le _, rfl, rfl, by omega, by omega, by rw [List.drop_zero]; exact HE.out, rfl⟩
    case round =>
      clear HE
      obtain ⟨k, x, hk, rfl, rfl, hx0, hx1, hgo, hww⟩ := hrel
      have hww' := hww.symm
      subst hww'
      clear hww
      have HG := hidd hgo
      clear hgo
      by_cases hlt : k < l.length
      · have hkz : (k : Int) < (l.length : Int) := by omega
        obtain ⟨b, off, rfl, hbl, hc⟩ := HS.out.resolve_left (fun h => by rw [h] at hlt; simp at hlt)
        have x0 := hc k hlt
        rw [szG_step _ l [] k x hlt] at HG
        have hal := HA.out k
        clear hc
        generalize l.getD k [] = t at *
        have htl : (⟨t.toArray⟩ : ByteArray).size = t.length := by rw [Lib.size_eq]
        by_cases hX : x - (t.length : Int) < 0
        · have HR : Hid (R = -1) := by show _ = _; have := HG.out; rw [szN, if_pos hX, if_pos (by omega)] at this; exact this.symm
          go_wp2_with fail
          go_ret
          rw [HR.out]
          exact ⟨rfl, rfl⟩
        · have HR : Hid (szG (fun a (t : List UInt8) => szN a t.length) (x - (t.length : Int)) (l.drop (k + 1)) = R) := by show _ = _; have := HG.out; rw [szN, if_neg hX, if_neg hX] at this; exact this
          go_wp2_with fail
          go_roundw
          case rel => exact ⟨k + 1, x - (t.length : Int), by omega, by go_num, by go_num, by omega, by omega, HR.out, by first | trivial | rfl⟩
          case measure => simp [intOf]; omega
      · have hkz : ¬ (k : Int) < (l.length : Int) := by omega
        rw [List.drop_of_length_le (by omega), szG] at HG
        go_wp2_with fail
        go_ret
        rw [← HG.out]
        exact ⟨rfl, rfl⟩
theorem Try.infoStrD : (Try.prog.info? 9).map (fun i => (i.zero, i.size, i.bytes)) = some (some (.string ⟨#[]⟩), 1, 16) := by kernel_rfl
def mkTx (t : List UInt8) : Value := .string ⟨t.toArray⟩
/-- A row of its own, of type ty, that begins with the cells of l. -/
def RowX {X : Type} (mk : X → Value) (ty : TypeId) (d : X) (w : World) (g : Nat) (l : List X) : Prop := ∃ cur, w.heap[g]? = some (Obj.cells cur ty) ∧ l.length ≤ cur.size ∧ ∀ i, i < l.length → cur[i]? = some (mk (l.getD i d))
abbrev RowTx (w : World) (g : Nat) (l : List (List UInt8)) : Prop := RowX mkTx 9 [] w g l
theorem RowX.keep {X : Type} {mk : X → Value} {ty : TypeId} {d : X} {w w' : World} {g : Nat} {l : List X} (h : RowX mk ty d w g l) (hk : w'.heap[g]? = w.heap[g]?) : RowX mk ty d w' g l := by
  obtain ⟨cur, h1, h2, h3⟩ := h
  exact ⟨cur, hk.trans h1, h2, h3⟩
theorem RowX.lt {X : Type} {mk : X → Value} {ty : TypeId} {d : X} {w : World} {g : Nat} {l : List X} (h : RowX mk ty d w g l) : g < w.heap.size := by
  obtain ⟨cur, h1, h2, h3⟩ := h
  exact (Array.getElem?_eq_some_iff.1 h1).1
theorem RowX.below {X : Type} {mk : X → Value} {ty : TypeId} {d : X} {w w' : World} {g : Nat} {l : List X} (h : RowX mk ty d w g l) (hb : Below w.heap.size w w') : RowX mk ty d w' g l := h.keep (hb.block g h.lt)
theorem rowTx_hold {w : World} {g : Nat} {l : List (List UInt8)} (h : RowTx w g l) : TmAt w (some ⟨g, 0, none⟩) l := by
  refine Or.inr ⟨g, 0, rfl, h.lt, fun i hi => ?_⟩
  obtain ⟨cur, h1, h2, h3⟩ := h
  rw [Nat.zero_add, blkc h1, h3 i hi]; rfl
theorem row_ownX {X : Type} (mk : X → Value) (l : List X) (d : X) {w : World} {base g : Nat} {ty : TypeId} (h : w.ownsRow base ty 1 (.slice (some ⟨g, 0, none⟩) l.length l.length) l.length (l.map mk)) : RowX mk ty d w g l := by
  rcases h.2 with ⟨h', _⟩ | ⟨g', cap, cur, h', _, hg, hc1, hc2, hc3, hc4⟩
  · simp at h'
  · simp only [Value.slice.injEq, Option.some.injEq, Addr.mk.injEq, and_true, true_and] at h'
    obtain ⟨rfl, rfl⟩ := h'
    refine ⟨cur, hg, by omega, fun i hi => ?_⟩
    have := h.cellAt i (by omega)
    rw [blkc hg] at this
    rw [this]
    simp [hi]
theorem setOneX {X : Type} (mk : X → Value) (l : List X) (d : X) (k : Nat) (xs : List Value) (hx : xs.length = l.length) (hk : k < l.length) : ((l.take k).map mk ++ xs.drop k).set k (mk (l.getD k d)) = (l.take (k + 1)).map mk ++ xs.drop (k + 1) := by
  have e : ((l.take k).map mk).length = k := by simp; omega
  rw [List.set_append_right _ _ (by omega), e, Nat.sub_self, List.drop_eq_getElem_cons (l := xs) (i := k) (by omega), List.set_cons_zero, List.take_succ_eq_append_getElem hk, List.getD_eq_getElem?_getD, List.getElem?_eq_getElem hk, List.map_append, List.append_assoc]
  rfl
set_option maxHeartbeats 2000000 in
theorem toTx_any (a : Option Addr) (cap : Nat) (l : List (List UInt8)) (w : World) (hn : l.length ≤ 1048576) (hS : TmAt w a l) :
    Calls Try.prog 18 #[.slice a l.length cap] w fun e w' => e = .returned (.slice (some ⟨w.heap.size, 0, none⟩) l.length l.length) ∧ RowTx w' w.heap.size l ∧ Below w.heap.size w w' := by
  obtain ⟨i0, hi, hz0, hz1, hz2⟩ := info_parts Try.infoStrD
  have HS := hidd hS
  clear hS
  go_enter Try.func18, Try.ntmps18
  go_wp2_with (at_make; refine wpList_make_full _ rfl _ _ 23 rfl w.heap.size 9 i0 (.string ⟨#[]⟩) 1 Try.underlying23 hi hz0 hz1 _ _ _ _ l.length rfl rfl (by omega) (by omega) ?b2 ?b3 (Nat.le_refl _) ?_)
  case b2 => (first | omega | (rw [hz2]; omega))
  case b3 => unfold maxLen; omega
  intro w0 hown0 hgrow0
  generalize (madeCells #[Value.string ⟨#[]⟩] l.length).toList = xs at hown0
  have hxl : xs.length = l.length := by have := hown0.1; omega
  have HO0 := hidd hown0
  have HB0 : Hid (Below w.heap.size w w0) := (Below.refl _ _).grown hgrow0 (Nat.le_refl _) (fun k h => by cases h)
  clear hown0 hgrow0
  go_wp2
  go_loopw [4] (fun i wr => ∃ k : Nat, k ≤ l.length ∧ i = .int .i64 k ∧ wr.ownsRow w.heap.size 9 1 (.slice (some ⟨w.heap.size, 0, none⟩) l.length l.length) l.length ((l.take k).map mkTx ++ xs.drop k) ∧ Below w.heap.size w wr) (fun i _ => l.length - (intOf i).toNat)
  case atStart => exact ⟨0, Nat.zero_le _, rfl, HO0.out, HB0.out⟩
  case round =>
    obtain ⟨k, hk, rfl, hown, hbel⟩ := hrel
    have HO := hidd hown
    have HB := hidd hbel
    by_cases hlt : k < l.length
    · obtain ⟨b, off, rfl, hbl, hc⟩ := HS.out.resolve_left (fun h => by rw [h] at hlt; simp at hlt)
      have g1 := (hbel.cell (p := ⟨b, off + k, none⟩) hbl).trans (hc k hlt)
      have f1 := hown.frozenAt k
      have hex : ∃ u, wr.cell? ⟨w.heap.size, k, none⟩ = some u := by
        rw [hown.cellAt k (by omega)]
        have hlen : k < ((l.take k).map mkTx ++ xs.drop k).length := by rw [List.length_append, List.length_map, List.length_take, List.length_drop]; omega
        exact ⟨_, List.getElem?_eq_getElem hlen⟩
      obtain ⟨u, q1⟩ := hex
      have HSet := hidd (setOneX mkTx l [] k xs hxl hlt)
      generalize l.getD k [] = t at *
      clear hown hbel hc
      go_wp2
      go_roundw
      case rel =>
        have st := (HO.out.stored k (mkTx t)).1
        rw [HSet.out] at st
        exact ⟨k + 1, by omega, by go_num, st, HB.out.setCell (p := ⟨w.heap.size, k, none⟩) (Nat.le_refl _) _⟩
      case measure => simp [intOf]; omega
    · have HF := HO.out
      rw [List.take_of_length_le (by omega), List.drop_of_length_le (by omega), List.append_nil] at HF
      have HF2 := hidd (row_ownX mkTx l [] HF)
      clear HF hown hbel
      go_wp2
      go_ret
      exact ⟨rfl, HF2.out, HB.out⟩
set_option maxHeartbeats 1000000 in
theorem eqTx_any (a1 a2 : Option Addr) (c1 c2 : Nat) (l : List (List UInt8)) (w : World) (hn : l.length ≤ 1048576) (h1 : TmAt w a1 l) (h2 : TmAt w a2 l) :
    Calls Try.prog 20 #[.slice a1 l.length c1, .slice a2 l.length c2] w fun e w' => e = .returned (.bool true) ∧ Below w.heap.size w w' := by
  have H1 := hidd h1
  have H2 := hidd h2
  clear h1 h2
  go_enter Try.func20, Try.ntmps20
  go_wp2
  go_loopw [5] (fun i wr => ∃ k : Nat, k ≤ l.length ∧ i = .int .i64 k ∧ Below w.heap.size w wr) (fun i _ => l.length - (intOf i).toNat)
  case atStart => exact ⟨0, Nat.zero_le _, rfl, Below.refl _ _⟩
  case round =>
    obtain ⟨k, hk, rfl, hbel⟩ := hrel
    have HB := hidd hbel
    by_cases hlt : k < l.length
    · obtain ⟨b1, o1, rfl, hb1, hc1⟩ := (H1.out.below hbel).resolve_left (fun h => by rw [h] at hlt; simp at hlt)
      obtain ⟨b2, o2, rfl, hb2, hc2⟩ := (H2.out.below hbel).resolve_left (fun h => by rw [h] at hlt; simp at hlt)
      have g1 := hc1 k hlt
      have g2 := hc2 k hlt
      clear hc1 hc2 hbel
      generalize l.getD k [] = t at g1 g2
      go_wp2
      go_quiet (fail)
      go_wp2
      go_roundw
      case rel => exact ⟨k + 1, by omega, by go_num, below_drewN HB.out _⟩
      case measure => simp [intOf]; omega
    · clear hbel
      go_wp2
      go_ret
      exact ⟨rfl, HB.out⟩
def RowN (w : World) (g n : Nat) (ty : TypeId) : Prop := ∃ cur, w.heap[g]? = some (Obj.cells cur ty) ∧ n ≤ cur.size
theorem RowN.cell {W : World} {b n : Nat} {ty : TypeId} (h : RowN W b n ty) {j : Nat} (hj : j < n) : (∃ u, W.cell? ⟨b, j, none⟩ = some u) ∧ W.frozen? ⟨b, j, none⟩ = false := by
  obtain ⟨cur, h1, h2⟩ := h
  refine ⟨⟨cur[j]'(by omega), ?_⟩, blkf h1 j⟩
  rw [blkc h1 j]
  exact Array.getElem?_eq_getElem (by omega)
theorem RowN.keep {w w' : World} {g n : Nat} {ty : TypeId} (h : RowN w g n ty) (hk : w'.heap[g]? = w.heap[g]?) : RowN w' g n ty := by
  obtain ⟨cur, h1, h2⟩ := h
  exact ⟨cur, hk.trans h1, h2⟩
theorem RowN.set {w : World} {g n : Nat} {ty : TypeId} (h : RowN w g n ty) (j : Nat) (u : Value) : RowN (w.setCell ⟨g, j, none⟩ u) g n ty := by
  obtain ⟨cur, h1, h2⟩ := h
  exact ⟨_, heap_setCell_same w g j _ _ u h1, by simpa using h2⟩
theorem grown_belowX {w w1 w2 : World} {b : Nat} (h : w.grownBy w1 (some b)) (k : Below w1.heap.size w1 w2) : w.grownBy w2 (some b) :=
  ⟨k.os.trans h.os, k.tape.trans h.tape, k.output.trans h.output, Nat.le_trans h.size k.size, fun i hi hb => by
    rw [k.block i (Nat.lt_of_lt_of_le hi h.size), h.block i hi hb]⟩
theorem grown_setX {w w1 : World} {b : Nat} (h : w.grownBy w1 (some b)) (j : Nat) (u : Value) : w.grownBy (w1.setCell ⟨b, j, none⟩ u) (some b) :=
  ⟨h.os, h.tape, h.output, by have := h.size; simpa using this, fun i hi hb => by
    rw [heap_set_other w1 b j u i (fun e => hb (by rw [e]))]
    exact h.block i hi hb⟩
set_option maxHeartbeats 2000000 in
theorem markTx_any (b n c : Nat) (w : World) (hn : n ≤ 1048576) (hr : RowN w b n 9) :
    Calls Try.prog 21 #[.slice (some ⟨b, 0, none⟩) n c, .int .i64 1] w fun e w' => e = .returned (.int .i64 ((1 + n : Nat) : Int)) ∧ w.grownBy w' (some b) := by
  have HR := hidd hr
  clear hr
  go_enter Try.func21, Try.ntmps21
  go_wp2
  go_loopw [1, 5] (fun kv iv wr => ∃ i : Nat, i ≤ n ∧ iv = .int .i64 (i : Int) ∧ kv = .int .i64 ((1 + i : Nat) : Int) ∧ w.grownBy wr (some b) ∧ RowN wr b n 9) (fun _ iv _ => n - (intOf iv).toNat)
  case atStart => exact ⟨0, Nat.zero_le _, rfl, by simp, ⟨rfl, rfl, rfl, Nat.le_refl _, fun _ _ _ => rfl⟩, HR.out⟩
  case round =>
    obtain ⟨i, hi, rfl, rfl, hfz, hrn⟩ := hrel
    have HF := hidd hfz
    have HRn := hidd hrn
    clear hfz hrn
    by_cases hlt : i < n
    · have hltz : (i : Int) < (n : Int) := by omega
      obtain ⟨K, hK⟩ : ∃ K, 1 + i = K := ⟨_, rfl⟩
      have HK := hidd hK
      have hK0 : 1 ≤ K := by omega
      have hKl : K ≤ 1048577 := by omega
      try rw [hK]
      clear hK
      have HM := hidd (markText_any (K : Int) wr (by omega) (by omega))
      generalize mkText (K : Int) = T at HM
      go_wp2_with fail
      refine HM.out.mono ?_
      rintro e w2 ⟨rfl, hb2⟩
      have HF2 := hidd (grown_belowX HF.out hb2)
      have hr2 : RowN w2 b n 9 := HRn.out.keep (by
        obtain ⟨cur, h1, _⟩ := HRn.out
        exact hb2.block b (Array.getElem?_eq_some_iff.1 h1).1)
      obtain ⟨⟨u0, q0⟩, f0⟩ := hr2.cell hlt
      have HS := hidd (grown_setX HF2.out i (.string T))
      have HS2 := hidd (hr2.set i (.string T))
      clear hb2 HM hr2
      dsimp only
      go_wp2_with fail
      go_roundw
      case rel =>
        refine ⟨i + 1, by omega, by go_num, ?_, HS.out, HS2.out⟩
        have := HK.out
        first | (congr 1; omega) | go_num
      case measure => simp [intOf]; omega
    · have hltz : ¬ (i : Int) < (n : Int) := by omega
      obtain rfl : i = n := by omega
      go_wp2
      go_ret
      exact ⟨rfl, HF.out⟩
end Go.Proofs.Ytbkedgpligcicaa

namespace Go.Proofs.Ytbkedgpligcicaa.Drw
open Go Go.RowKit
set_option linter.unusedVariables false
set_option maxRecDepth 100000
set_option linter.unusedSimpArgs false

set_option maxHeartbeats 1000000 in
theorem size_any (b : Nat) (ao : Option Addr) (n cap : Nat) (a sd : Int) (w : World) (hn : n ≤ 1048576) (hs : SrcAt w b (.slice ao n cap) a sd) :
    Calls Try.prog 34 #[.pointer (some ⟨b, 0, none⟩), .int .i64 60] w fun e w' => ∃ x : Nat, e = .returned (.int .i64 (x : Int)) ∧ x ≤ 60 ∧ w' = w := by
  obtain ⟨c0, c1, c2⟩ := hs.cell
  clear hs
  obtain ⟨d, hd⟩ : ∃ d : Nat, (n : Int) / 12 = (d : Int) := ⟨n / 12, by rw [Int.natCast_ediv]; rfl⟩
  rcases (by omega : 1 + d < 60 ∨ d = 59 ∨ 60 < 1 + d) with hlt | rfl | hlt
  · have h1 : (1 : Int) + (d : Int) < 60 := by omega
    have h2 : ¬ (60 : Int) < 1 + (d : Int) := by omega
    go_enter Try.func34, Try.ntmps34
    go_wp2
    all_goals
      go_ret
      refine ⟨1 + d, ?_, by omega, rfl⟩
      first | rfl | (congr 2; omega)
  · go_enter Try.func34, Try.ntmps34
    go_wp2
    all_goals
      go_ret
      exact ⟨60, rfl, by omega, rfl⟩
  · have h1 : ¬ (1 : Int) + (d : Int) < 60 := by omega
    have h2 : (60 : Int) < 1 + (d : Int) := by omega
    go_enter Try.func34, Try.ntmps34
    go_wp2
    all_goals
      go_ret
      exact ⟨60, rfl, by omega, rfl⟩

/-- Terms that were drawn. -/
def DrawnS (w : World) (b : Nat) (cv : Value) (a k : Int) (N : Nat) (e : Ending) (w' : World) : Prop :=
  ∃ (v : Value) (ts : List Tx) (a' sd' : Int), e = .returned v ∧ ts.length ≤ N ∧ (∀ t ∈ ts, t.length ≤ 20) ∧ w'.ownsRow w.heap.size 9 1 v ts.length (ts.map mkTx) ∧ v ≠ .slice none 0 0 ∧ a ≤ a' ∧ a' ≤ a + k ∧ 0 ≤ sd' ∧ sd' < 2147483648 ∧ SrcAt w' b cv a' sd' ∧ w.grownBy w' (some b)
theorem Try.infoStrB : (Try.prog.info? 9).map (fun i => (i.zero, i.size, i.bytes)) = some (some (.string ⟨#[]⟩), 1, 16) := by kernel_rfl
end Go.Proofs.Ytbkedgpligcicaa.Drw

namespace Go.Proofs.Ytbkedgpligcicaa.Drw
open Go Go.RowKit
set_option linter.unusedVariables false
set_option maxRecDepth 100000
set_option linter.unusedSimpArgs false

/-- A text of at most m bytes without '!'. -/
def TxC (m : Nat) (t : Tx) : Prop := t.length ≤ m ∧ (33 : UInt8) ∉ t
def strC (m : Nat) : Value → Bool
  | .string s => decide (s.size ≤ m) && s.data.toList.all (fun c => c != 33)
  | _ => false
theorem strC_ok {m : Nat} {v : Value} (h : strC m v = true) : ∃ t, v = .string t ∧ TxC m t.data.toList := by
  cases v with
  | string s =>
    simp only [strC, Bool.and_eq_true, decide_eq_true_eq] at h
    refine ⟨s, rfl, ?_, ?_⟩
    · have := h.1
      rw [Array.length_toList]; exact this
    · intro hm
      have := List.all_eq_true.1 h.2 33 hm
      simp at this
  | _ => cases h
theorem table_strC {w w1 : World} {C : Array Value} {t : TypeId} {b : Nat} (hg : (w.alloc (.cells C t)).grownBy w1 (some b)) (hb : b < w.heap.size) (m : Nat) (hC : C.all (strC m) = true) (j : Nat) (hj : j < C.size) :
    ∃ t, w1.cell? ⟨w.heap.size, j, none⟩ = some (.string t) ∧ TxC m t.data.toList := by
  have h1 : (w.alloc (.cells C t)).cell? ⟨w.heap.size, j, none⟩ = some C[j] := by
    rw [World.cell?_alloc_at (hn := rfl)]
    exact Array.getElem?_eq_getElem hj
  have h2 := hg.cell h1 (by simp; omega)
  rw [Array.all_eq_true] at hC
  obtain ⟨s, hs, hm⟩ := strC_ok (hC j hj)
  rw [hs] at h2
  exact ⟨s, h2, hm⟩
theorem ownES {B : Nat} (W : World) (h : W.heap.size = B) : (W.alloc (.cells #[] 9)).ownsRow B 9 1 (.slice (some ⟨B, 0, none⟩) 0 0) 0 [] := by
  subst h
  exact own_empty W 9
theorem one_tx (l : List Tx) : ∀ u ∈ l.map mkTx, u.oneCell' = true := by
  intro u hu
  obtain ⟨t, _, rfl⟩ := List.mem_map.1 hu
  rfl
/-- Texts that lie from the k-th cell of a row on. -/
theorem tx_news {wr W : World} {B g n c : Nat} {ts : List Tx} (hB : g < B) (ho : wr.ownsRow 0 9 1 (.slice (some ⟨g, 0, none⟩) n c) n (ts.map mkTx)) (hn : ts.length = n) (hb : Below B wr W) (k : Nat) (l : List Tx) (hl : ∀ j, j < l.length → k + j < n ∧ l.getD j [] = ts.getD (k + j) []) :
    ∀ j u, (l.map mkTx)[j]? = some u → W.cell? ((⟨g, k, none⟩ : Addr).add j) = some u := by
  intro j u hu
  have hj : j < l.length := by have := (List.getElem?_eq_some_iff.1 hu).1; simpa using this
  obtain ⟨h1, h2⟩ := hl j hj
  have h3 := ho.cellAt (k + j) (by omega)
  have h4 := (hb.cell (p := ⟨g, k + j, none⟩) hB).trans h3
  have e : (⟨g, k, none⟩ : Addr).add j = ⟨g, k + j, none⟩ := by simp [Addr.add]
  rw [e, h4, ← hu]
  have h1' : k + j < ts.length := by omega
  simp only [List.getD_eq_getElem?_getD, List.getElem?_eq_getElem h1', List.getElem?_eq_getElem hj, Option.getD_some] at h2
  simp [h1', hj, h2]
/-- Terms that were drawn, none with a '!'. -/
def DrawnC (w : World) (b : Nat) (cv : Value) (a k : Int) (N : Nat) (e : Ending) (w' : World) : Prop :=
  ∃ (v : Value) (ts : List Tx) (a' sd' : Int), e = .returned v ∧ ts.length ≤ N ∧ (∀ t ∈ ts, TxC 20 t) ∧ w'.ownsRow w.heap.size 9 1 v ts.length (ts.map mkTx) ∧ v ≠ .slice none 0 0 ∧ a ≤ a' ∧ a' ≤ a + k ∧ 0 ≤ sd' ∧ sd' < 2147483648 ∧ SrcAt w' b cv a' sd' ∧ w.grownBy w' (some b)

set_option maxHeartbeats 8000000 in
theorem drawTerms_any (b : Nat) (ao : Option Addr) (n cap N : Nat) (a sd : Int) (w : World) (hn : n ≤ 1048576) (hN : N ≤ 60) (ha0 : 0 ≤ a) (ha2 : a ≤ 137438953472) (hs0 : 0 ≤ sd) (hs1 : sd < 2147483648)
    (hs : SrcAt w b (.slice ao n cap) a sd) (hc : Code w b ao n) :
    Calls Try.prog 32 #[.pointer (some ⟨b, 0, none⟩), .int .i64 (N : Int)] w fun e w' => DrawnC w b (.slice ao n cap) a 1000 N e w' := by
  have HS := hidd hs
  have HC := hidd hc
  have hb := hs.lt
  clear hs hc
  go_enter Try.func32, Try.ntmps32
  go_wp2_with fail
  go_loopw [1, 5] (fun nv ov wr => ∃ (m : Nat) (ts : List Tx) (a1 sd1 : Int), nv = .int .i64 (m : Int) ∧ m ≤ N ∧ ts.length ≤ N - m ∧ (∀ t ∈ ts, TxC 20 t) ∧ wr.ownsRow w.heap.size 9 1 ov ts.length (ts.map mkTx) ∧ ov ≠ .slice none 0 0 ∧ a ≤ a1 ∧ a1 ≤ a + 15 * ((N : Int) - (m : Int)) ∧ 0 ≤ sd1 ∧ sd1 < 2147483648 ∧ SrcAt wr b (.slice ao n cap) a1 sd1 ∧ w.grownBy wr (some b)) (fun nv _ _ => (intOf nv).toNat)
  case atStart =>
    refine ⟨N, [], a, sd, rfl, Nat.le_refl _, by simp, fun t ht => by simp at ht, ?_, by simp, by omega, by omega, hs0, hs1, HS.out.alloc _, World.grownBy_alloc w _ (some b)⟩
    have := own_empty w 9
    simpa using this
  case round =>
    obtain ⟨m, ts, a1, sd1, rfl, hm, htl, ht20, hown, hnn, ha1, ha3, hd0, hd1, hsr, hgr⟩ := hrel
    have HT20 := hidd ht20
    have HO := hidd hown
    have HSr := hidd hsr
    have HG := hidd hgr
    have HCr := hidd (HC.out.kept hgr)
    clear ht20 hown hsr hgr
    obtain ⟨gO, cO, rfl⟩ : ∃ g c, u5 = .slice (some ⟨g, 0, none⟩) ts.length c := by
      rcases own_cases HO.out with ⟨e, _⟩ | ⟨g, c, e, _, _⟩
      · exact absurd e hnn
      · exact ⟨g, c, e⟩
    clear hnn
    by_cases hm0 : 0 < m
    · have hmz : (0 : Int) < (m : Int) := by omega
      go_wp2_with fail
      refine (next_any b ao n cap a1 sd1 4 _ hn (by omega) (by omega) (by omega) (by omega) hd0 hd1 HSr.out HCr.out).mono ?_
      rintro e w2 ⟨x, a2, sd2, rfl, hx0, hx1, ha4, ha5, hd2, hd3, hs2, hg2⟩
      obtain ⟨X, rfl⟩ := Int.eq_ofNat_of_zero_le hx0
      have HS2 := hidd hs2
      have HG2 := hidd (grown_trans HG.out hg2)
      have HC2 := hidd (HCr.out.kept hg2)
      have hgb : gO ≠ b := by
        rintro rfl
        obtain ⟨_, cur, hcur⟩ := own_blk HO.out rfl
        have := HSr.out
        unfold SrcAt at this
        rw [hcur] at this
        simp only [Option.some.injEq, Obj.cells.injEq] at this
        exact absurd this.2.1 (by decide)
      have HO2 : Hid (w2.ownsRow w.heap.size 9 1 (.slice (some ⟨gO, 0, none⟩) ts.length cO) ts.length (ts.map mkTx)) := HO.out.kept hg2 (Or.inr (by simpa [Value.ownBlock] using hgb))
      clear hs2 hg2 HO HSr HG HCr
      dsimp only
      go_wp2_with fail
      go_loopw [6, 7] (fun tv iv wr => ∃ (j : Nat) (T : Tx) (a3 sd3 : Int), iv = .int .i64 ((j : Int) - 1) ∧ j ≤ 4 ∧ tv = .string ⟨T.toArray⟩ ∧ TxC (3 * (4 - j)) T ∧ a2 ≤ a3 ∧ a3 ≤ a2 + 3 * (4 - (j : Int)) ∧ 0 ≤ sd3 ∧ sd3 < 2147483648 ∧ SrcAt wr b (.slice ao n cap) a3 sd3 ∧ w.grownBy wr (some b) ∧ wr.ownsRow w.heap.size 9 1 (.slice (some ⟨gO, 0, none⟩) ts.length cO) ts.length (ts.map mkTx)) (fun _ iv _ => (intOf iv + 1).toNat)
      case atStart => exact ⟨X + 1, [], a2, sd2, by go_num, by omega, rfl, ⟨by simp, by simp⟩, by omega, by omega, hd2, hd3, HS2.out, HG2.out, HO2.out⟩
      case round =>
        obtain ⟨j, T, a3, sd3, rfl, hj, rfl, hTl, ha6, ha7, hd4, hd5, hs3, hg3, ho3⟩ := hrel
        have HS3 := hidd hs3
        have HG3 := hidd hg3
        have HO3 := hidd ho3
        have HC3 := hidd (HC.out.kept hg3)
        have hb3 := hs3.lt
        have hTl0 : T.length ≤ 3 * (4 - j) := hTl.1
        clear hs3 hg3 ho3
        by_cases hj0 : j = 0
        · subst hj0
          go_wp2_with fail
          have ha10 : a3 ≤ a1 + 15 := by omega
          have ha11 : a ≤ a3 := by omega
          have hT20 : TxC 20 T := ⟨by have := hTl.1; omega, hTl.2⟩
          have HLt := hidd hTl
          clear hTl
          obtain ⟨M, hM⟩ : ∃ M, ts.length = M := ⟨_, rfl⟩
          rw [hM] at HO3
          try rw [hM]
          have HM := hidd hM
          have hM60 : M ≤ 60 := by omega
          have hMNm : M ≤ N - m := by omega
          have hMc : M ≤ cO := by
            rcases HO3.out.2 with ⟨h', _⟩ | ⟨g', c', cur, h1, _, _, h2, _⟩
            · simp at h'
            · simp only [Value.slice.injEq, Option.some.injEq, Addr.mk.injEq, and_true, true_and] at h1
              obtain ⟨rfl, rfl⟩ := h1
              exact h2
          go_loop [8] (fun av => ∃ k : Nat, k ≤ M ∧ av = .int .i64 (k : Int)) (fun av => M - (intOf av).toNat)
          case atStart => exact ⟨0, Nat.zero_le _, rfl⟩
          case round =>
            obtain ⟨k, hk, rfl⟩ := hrel
            by_cases hkl : k < M
            · have hklz : (k : Int) < (M : Int) := by omega
              have c1 : wr.cell? ⟨gO, k, none⟩ = some (.string ⟨(ts.getD k []).toArray⟩) := by
                rw [HO3.out.cellAt k (by omega)]
                simp [mkTx, (by omega : k < ts.length)]
              obtain ⟨tk, htk⟩ : ∃ t, ts.getD k [] = t := ⟨_, rfl⟩
              rw [htk] at c1
              clear htk
              clear hM
              go_wp2_with fail
              · exact ⟨⟨k + 1, by omega, by go_num⟩, by simp [intOf]; omega⟩
              · refine ⟨⟨m - 1, ts, a3, sd3, by go_num, by omega, by have := HM.out; omega, HT20.out, by rw [HM.out]; exact HO3.out, by simp, ha11, by omega, hd4, hd5, HS3.out, HG3.out⟩, by simp [intOf]; omega⟩
              · have hkc : k ≤ cO := by omega
                have hkcz : (k : Int) ≤ (cO : Int) := by omega
                have hkne : k ≠ cO := by omega
                have hkne2 : ¬ cO = k := by omega
                have hkMz : (k : Int) ≤ (M : Int) := by omega
                clear c1
                obtain ⟨Y, hY⟩ : ∃ Y, wr.heap.size = Y := ⟨_, rfl⟩
                obtain ⟨i0, hi0, hz0, hz1, hz2⟩ := info_parts Try.infoStr
                have hszd : wr.drew.heap.size = Y := hY
                have hszo : ∀ o : Obj, (wr.drew.alloc o).heap.size = Y + 1 := fun o => by simp [hszd]
                have HbR := hidd (below_drewN (Below.refl wr.heap.size wr) 1)
                have hgY : gO < wr.heap.size := own_lt HO3.out
                have HN1 : Hid (∀ W, Below wr.heap.size wr W → ∀ j u, ((ts.take k).map mkTx)[j]? = some u → W.cell? ((⟨gO, 0, none⟩ : Addr).add j) = some u) := fun W hW => tx_news hgY (own_mono HO3.out (Nat.zero_le _)) HM.out hW 0 _ (fun j hj => by have := HM.out; have hj2 : j < k := (by rw [List.length_take] at hj; omega); refine ⟨by omega, ?_⟩; simp [List.getD_eq_getElem?_getD, List.getElem?_take, hj2])
                have HL1 : Hid (((ts.take k).map mkTx).length = k * 1) := by have := HM.out; show _ = _; simp; omega
                have HL2 : Hid (((ts.drop k).map mkTx).length = (M - k) * 1) := by have := HM.out; show _ = _; simp; omega
                have HN2 : Hid (∀ W, Below wr.heap.size wr W → ∀ j u, ((ts.drop k).map mkTx)[j]? = some u → W.cell? ((⟨gO, k, none⟩ : Addr).add j) = some u) := fun W hW => tx_news hgY (own_mono HO3.out (Nat.zero_le _)) HM.out hW k _ (fun j hj => by have := HM.out; simp at hj; refine ⟨by omega, ?_⟩; simp [List.getD_eq_getElem?_getD])
                go_region_held3 (fun _ => True) (trivial)
                  (first
                  | (refine step_append_at _ rfl (.tmp 53) (.tmp 56) 23 rfl Y 9 i0 (.string ⟨#[]⟩) 1 16 Try.underlying23 hi0 hz0 hz1 hz2 rfl (by decide) (.slice (some ⟨Y, 0, none⟩) 0 0) 0 [] (by simp [Act.eval]) (ownES wr.drew hszd) ⟨gO, 0, none⟩ k cO ((ts.take k).map mkTx) (by simp [Act.eval]) HL1.out (HN1.out _ (HbR.out.alloc (by simp) _)) (one_tx _) (by simp) (by unfold maxLen; omega) (by omega) (by first | omega | (simp; done) | (simp; omega)) ?_; intro g57 c57 w57 hown57 hgrow57 hat57; simp only [Nat.zero_add, List.nil_append] at hown57; have hb57 : Below wr.heap.size wr w57 := (HbR.out.alloc (by simp) _).grown hgrow57 (by first | omega | (simp; done) | (simp; omega)) (fun k hk => by simp [Value.ownBlock] at hk; omega); have hC59 : True := trivial; have HO57 := hidd hown57; have HB57 := hidd hb57; clear hown57 hgrow57 hat57 hb57)
                  | (refine step_append_at _ rfl (.tmp 53) (.tmp 56) 23 rfl Y 9 i0 (.string ⟨#[]⟩) 1 16 Try.underlying23 hi0 hz0 hz1 hz2 rfl (by decide) (.slice (some ⟨Y, 0, none⟩) 0 0) 0 [] (by simp [Act.eval]) ((ownES wr.drew hszd).alloc _) ⟨gO, 0, none⟩ k cO ((ts.take k).map mkTx) (by simp [Act.eval]) HL1.out (HN1.out _ ((HbR.out.alloc (by simp) _).alloc (by simp) _)) (one_tx _) (by simp) (by unfold maxLen; omega) (by omega) (by first | omega | (simp; done) | (simp; omega)) ?_; intro g57 c57 w57 hown57 hgrow57 hat57; simp only [Nat.zero_add, List.nil_append] at hown57; have hb57 : Below wr.heap.size wr w57 := ((HbR.out.alloc (by simp) _).alloc (by simp) _).grown hgrow57 (by first | omega | (simp; done) | (simp; omega)) (fun k hk => by simp [Value.ownBlock] at hk; omega); have hC59 : w57.cell? ⟨Y + 1, 0, none⟩ = some (.string ⟨T.toArray⟩) := keep_cell hgrow57 (new_cell _ _ _ (hszo _)) (by simp [Value.ownBlock]); have HO57 := hidd hown57; have HB57 := hidd hb57; clear hown57 hgrow57 hat57 hb57)
                  | (refine step_append_at _ rfl (.tmp 53) (.tmp 56) 23 rfl Y 9 i0 (.string ⟨#[]⟩) 1 16 Try.underlying23 hi0 hz0 hz1 hz2 rfl (by decide) (.slice (some ⟨Y + 1, 0, none⟩) 0 0) 0 [] (by simp [Act.eval]) (own_mono (ownES _ (hszo _)) (by omega)) ⟨gO, 0, none⟩ k cO ((ts.take k).map mkTx) (by simp [Act.eval]) HL1.out (HN1.out _ ((HbR.out.alloc (by simp) _).alloc (by simp) _)) (one_tx _) (by simp) (by unfold maxLen; omega) (by omega) (by first | omega | (simp; done) | (simp; omega)) ?_; intro g57 c57 w57 hown57 hgrow57 hat57; simp only [Nat.zero_add, List.nil_append] at hown57; have hb57 : Below wr.heap.size wr w57 := ((HbR.out.alloc (by simp) _).alloc (by simp) _).grown hgrow57 (by first | omega | (simp; done) | (simp; omega)) (fun k hk => by simp [Value.ownBlock] at hk; omega); have hC59 : w57.cell? ⟨Y, 0, none⟩ = some (.string ⟨T.toArray⟩) := keep_cell hgrow57 (old_cell _ _ (new_cell _ _ _ hszd)) (by simp [Value.ownBlock]); have HO57 := hidd hown57; have HB57 := hidd hb57; clear hown57 hgrow57 hat57 hb57)
                  | (refine step_append_at _ rfl (.tmp 57) (.tmp 59) 23 rfl Y 9 i0 (.string ⟨#[]⟩) 1 16 Try.underlying23 hi0 hz0 hz1 hz2 rfl (by decide) (.slice (some ⟨g57, 0, none⟩) k c57) k ((ts.take k).map mkTx) (by simp [Act.eval]) (HO57.out.alloc _) ⟨w57.heap.size, 0, none⟩ 1 1 [mkTx T] (by simp [Act.eval]) rfl (one_news (by simp [Addr.add]) (new_cell _ _ _ rfl)) (by intro u' hu'; simp at hu'; subst hu'; rfl) (by simp) (by unfold maxLen; omega) (by omega) (by have := HB57.out.size; first | omega | (simp; done) | (simp; omega)) ?_; intro g60 c60 w60 hown60 hgrow60 hat60; have hb60 : Below wr.heap.size wr w60 := (HB57.out.alloc HB57.out.size _).grown hgrow60 (by have := HB57.out.size; first | omega | (simp; done) | (simp; omega)) (fun k hk => by have := own_block HO57.out k hk; omega); have HO60 := hidd hown60; have HB60 := hidd hb60; clear hown60 hgrow60 hat60 hb60)
                  | (refine step_append_at _ rfl (.tmp 57) (.tmp 59) 23 rfl Y 9 i0 (.string ⟨#[]⟩) 1 16 Try.underlying23 hi0 hz0 hz1 hz2 rfl (by decide) (.slice (some ⟨g57, 0, none⟩) k c57) k ((ts.take k).map mkTx) (by simp [Act.eval]) HO57.out ⟨Y + 1, 0, none⟩ 1 1 [mkTx T] (by simp [Act.eval]) rfl (one_news (by simp [Addr.add]) hC59) (by intro u' hu'; simp at hu'; subst hu'; rfl) (by simp) (by unfold maxLen; omega) (by omega) (by have := HB57.out.size; first | omega | (simp; done) | (simp; omega)) ?_; intro g60 c60 w60 hown60 hgrow60 hat60; have hb60 : Below wr.heap.size wr w60 := HB57.out.grown hgrow60 (by have := HB57.out.size; first | omega | (simp; done) | (simp; omega)) (fun k hk => by have := own_block HO57.out k hk; omega); have HO60 := hidd hown60; have HB60 := hidd hb60; clear hown60 hgrow60 hat60 hb60)
                  | (refine step_append_at _ rfl (.tmp 57) (.tmp 59) 23 rfl Y 9 i0 (.string ⟨#[]⟩) 1 16 Try.underlying23 hi0 hz0 hz1 hz2 rfl (by decide) (.slice (some ⟨g57, 0, none⟩) k c57) k ((ts.take k).map mkTx) (by simp [Act.eval]) HO57.out ⟨Y, 0, none⟩ 1 1 [mkTx T] (by simp [Act.eval]) rfl (one_news (by simp [Addr.add]) hC59) (by intro u' hu'; simp at hu'; subst hu'; rfl) (by simp) (by unfold maxLen; omega) (by omega) (by have := HB57.out.size; first | omega | (simp; done) | (simp; omega)) ?_; intro g60 c60 w60 hown60 hgrow60 hat60; have hb60 : Below wr.heap.size wr w60 := HB57.out.grown hgrow60 (by have := HB57.out.size; first | omega | (simp; done) | (simp; omega)) (fun k hk => by have := own_block HO57.out k hk; omega); have HO60 := hidd hown60; have HB60 := hidd hb60; clear hown60 hgrow60 hat60 hb60)
                  | (refine step_append_at _ rfl (.tmp 60) (.tmp 63) 23 rfl Y 9 i0 (.string ⟨#[]⟩) 1 16 Try.underlying23 hi0 hz0 hz1 hz2 rfl (by decide) (.slice (some ⟨g60, 0, none⟩) (k + 1) c60) (k + 1) ((ts.take k).map mkTx ++ [mkTx T]) (by simp [Act.eval]) HO60.out ⟨gO, k, none⟩ (M - k) (cO - k) ((ts.drop k).map mkTx) (by simp [Act.eval]) HL2.out (HN2.out _ HB60.out) (one_tx _) (by simp) (by unfold maxLen; omega) (by omega) (by have := HB60.out.size; first | omega | (simp; done) | (simp; omega)) ?_; intro g64 c64 w64 hown64 hgrow64 hat64; have hb64 : Below wr.heap.size wr w64 := HB60.out.grown hgrow64 (by have := HB60.out.size; first | omega | (simp; done) | (simp; omega)) (fun k hk => by have := own_block HO60.out k hk; omega); have HO64 := hidd hown64; have HB64 := hidd hb64; clear hown64 hgrow64 hat64 hb64))
                all_goals
                  have hMM := HM.out
                  have eL : (ts.take k ++ T :: ts.drop k).length = M + 1 := by simp; omega
                  have eM : (ts.take k ++ T :: ts.drop k).map mkTx = (ts.take k).map mkTx ++ [mkTx T] ++ (ts.drop k).map mkTx := by simp
                  have eK : k + 1 + (M - k) = M + 1 := by omega
                  have HO64' : Hid (w64.ownsRow w.heap.size 9 1 (.slice (some ⟨g64, 0, none⟩) (M + 1) c64) (M + 1) ((ts.take k ++ T :: ts.drop k).map mkTx)) := by
                    have h := own_mono HO64.out (show w.heap.size ≤ Y by have := HG3.out.size; omega)
                    rw [eK] at h
                    rw [eM]
                    exact h
                  have HTA : Hid (∀ t ∈ ts.take k ++ T :: ts.drop k, TxC 20 t) := fun t ht => by
                    rcases List.mem_append.1 ht with h | h
                    · exact HT20.out t (List.mem_of_mem_take h)
                    · rcases List.mem_cons.1 h with rfl | h
                      · exact hT20
                      · exact HT20.out t (List.mem_of_mem_drop h)
                  have HS64 : Hid (SrcAt w64 b (.slice ao n cap) a3 sd3) := by
                    have h := HS3.out
                    show SrcAt _ _ _ _ _
                    unfold SrcAt at *
                    rw [HB64.out.block b hb3]
                    exact h
                  have HG64 : Hid (w.grownBy w64 (some b)) := grown_trans HG3.out ⟨HB64.out.os, HB64.out.tape, HB64.out.output, HB64.out.size, fun x hx _ => HB64.out.block x hx⟩
                  rw [eK]
                  clear HO64 HO60 HO57 HB60 HB57 HN1 HN2 hC59
                  generalize hts' : ts.take k ++ T :: ts.drop k = ts' at *
                  go_wp2_with fail
                  refine ⟨⟨m - 1, ts', a3, sd3, by go_num, by omega, by omega, HTA.out, by rw [eL]; first | exact HO64'.out | (have e9 : k + 1 = M + 1 := by omega; rw [e9]; exact HO64'.out), by simp, ha11, by omega, hd4, hd5, HS64.out, HG64.out⟩, by simp [intOf]; omega⟩
            · have hklz : ¬ (k : Int) < (M : Int) := by omega
              clear hM
              have hkc : k ≤ cO := by omega
              have hkcz : (k : Int) ≤ (cO : Int) := by omega
              have hkMz : (k : Int) ≤ (M : Int) := by omega
              go_upto_region 13 with fail
              by_cases hkne : k = cO
              · subst hkne
                obtain ⟨Y, hY⟩ : ∃ Y, wr.heap.size = Y := ⟨_, rfl⟩
                obtain ⟨i0, hi0, hz0, hz1, hz2⟩ := info_parts Try.infoStr
                have hszd : wr.drew.heap.size = Y := hY
                have hszo : ∀ o : Obj, (wr.drew.alloc o).heap.size = Y + 1 := fun o => by simp [hszd]
                have HbR := hidd (below_drewN (Below.refl wr.heap.size wr) 1)
                have hgY : gO < wr.heap.size := own_lt HO3.out
                have HN1 : Hid (∀ W, Below wr.heap.size wr W → ∀ j u, ((ts.take k).map mkTx)[j]? = some u → W.cell? ((⟨gO, 0, none⟩ : Addr).add j) = some u) := fun W hW => tx_news hgY (own_mono HO3.out (Nat.zero_le _)) HM.out hW 0 _ (fun j hj => by have := HM.out; have hj2 : j < k := (by rw [List.length_take] at hj; omega); refine ⟨by omega, ?_⟩; simp [List.getD_eq_getElem?_getD, List.getElem?_take, hj2])
                have HL1 : Hid (((ts.take k).map mkTx).length = k * 1) := by have := HM.out; show _ = _; simp; omega
                have HL2 : Hid (((ts.drop k).map mkTx).length = 0 * 1) := by have := HM.out; show _ = _; simp; omega
                have HN2 : Hid (∀ W, Below wr.heap.size wr W → ∀ j u, ((ts.drop k).map mkTx)[j]? = some u → W.cell? ((⟨gO, 0, none⟩ : Addr).add j) = some u) := fun W hW j u hu => by have := HM.out; have := (List.getElem?_eq_some_iff.1 hu).1; simp at this; omega
                go_region_held3 (fun _ => True) (trivial)
                  (first
                  | (refine step_append_at _ rfl (.tmp 53) (.tmp 56) 23 rfl Y 9 i0 (.string ⟨#[]⟩) 1 16 Try.underlying23 hi0 hz0 hz1 hz2 rfl (by decide) (.slice (some ⟨Y, 0, none⟩) 0 0) 0 [] (by simp [Act.eval]) (ownES wr.drew hszd) ⟨gO, 0, none⟩ k k ((ts.take k).map mkTx) (by simp [Act.eval]) HL1.out (HN1.out _ (HbR.out.alloc (by simp) _)) (one_tx _) (by simp) (by unfold maxLen; omega) (by omega) (by first | omega | (simp; done) | (simp; omega)) ?_; intro g57 c57 w57 hown57 hgrow57 hat57; simp only [Nat.zero_add, List.nil_append] at hown57; have hb57 : Below wr.heap.size wr w57 := (HbR.out.alloc (by simp) _).grown hgrow57 (by first | omega | (simp; done) | (simp; omega)) (fun k hk => by simp [Value.ownBlock] at hk; omega); have hC59 : True := trivial; have HO57 := hidd hown57; have HB57 := hidd hb57; clear hown57 hgrow57 hat57 hb57)
                  | (refine step_append_at _ rfl (.tmp 53) (.tmp 56) 23 rfl Y 9 i0 (.string ⟨#[]⟩) 1 16 Try.underlying23 hi0 hz0 hz1 hz2 rfl (by decide) (.slice (some ⟨Y, 0, none⟩) 0 0) 0 [] (by simp [Act.eval]) ((ownES wr.drew hszd).alloc _) ⟨gO, 0, none⟩ k k ((ts.take k).map mkTx) (by simp [Act.eval]) HL1.out (HN1.out _ ((HbR.out.alloc (by simp) _).alloc (by simp) _)) (one_tx _) (by simp) (by unfold maxLen; omega) (by omega) (by first | omega | (simp; done) | (simp; omega)) ?_; intro g57 c57 w57 hown57 hgrow57 hat57; simp only [Nat.zero_add, List.nil_append] at hown57; have hb57 : Below wr.heap.size wr w57 := ((HbR.out.alloc (by simp) _).alloc (by simp) _).grown hgrow57 (by first | omega | (simp; done) | (simp; omega)) (fun k hk => by simp [Value.ownBlock] at hk; omega); have hC59 : w57.cell? ⟨Y + 1, 0, none⟩ = some (.string ⟨T.toArray⟩) := keep_cell hgrow57 (new_cell _ _ _ (hszo _)) (by simp [Value.ownBlock]); have HO57 := hidd hown57; have HB57 := hidd hb57; clear hown57 hgrow57 hat57 hb57)
                  | (refine step_append_at _ rfl (.tmp 53) (.tmp 56) 23 rfl Y 9 i0 (.string ⟨#[]⟩) 1 16 Try.underlying23 hi0 hz0 hz1 hz2 rfl (by decide) (.slice (some ⟨Y + 1, 0, none⟩) 0 0) 0 [] (by simp [Act.eval]) (own_mono (ownES _ (hszo _)) (by omega)) ⟨gO, 0, none⟩ k k ((ts.take k).map mkTx) (by simp [Act.eval]) HL1.out (HN1.out _ ((HbR.out.alloc (by simp) _).alloc (by simp) _)) (one_tx _) (by simp) (by unfold maxLen; omega) (by omega) (by first | omega | (simp; done) | (simp; omega)) ?_; intro g57 c57 w57 hown57 hgrow57 hat57; simp only [Nat.zero_add, List.nil_append] at hown57; have hb57 : Below wr.heap.size wr w57 := ((HbR.out.alloc (by simp) _).alloc (by simp) _).grown hgrow57 (by first | omega | (simp; done) | (simp; omega)) (fun k hk => by simp [Value.ownBlock] at hk; omega); have hC59 : w57.cell? ⟨Y, 0, none⟩ = some (.string ⟨T.toArray⟩) := keep_cell hgrow57 (old_cell _ _ (new_cell _ _ _ hszd)) (by simp [Value.ownBlock]); have HO57 := hidd hown57; have HB57 := hidd hb57; clear hown57 hgrow57 hat57 hb57)
                  | (refine step_append_at _ rfl (.tmp 57) (.tmp 59) 23 rfl Y 9 i0 (.string ⟨#[]⟩) 1 16 Try.underlying23 hi0 hz0 hz1 hz2 rfl (by decide) (.slice (some ⟨g57, 0, none⟩) k c57) k ((ts.take k).map mkTx) (by simp [Act.eval]) (HO57.out.alloc _) ⟨w57.heap.size, 0, none⟩ 1 1 [mkTx T] (by simp [Act.eval]) rfl (one_news (by simp [Addr.add]) (new_cell _ _ _ rfl)) (by intro u' hu'; simp at hu'; subst hu'; rfl) (by simp) (by unfold maxLen; omega) (by omega) (by have := HB57.out.size; first | omega | (simp; done) | (simp; omega)) ?_; intro g60 c60 w60 hown60 hgrow60 hat60; have hb60 : Below wr.heap.size wr w60 := (HB57.out.alloc HB57.out.size _).grown hgrow60 (by have := HB57.out.size; first | omega | (simp; done) | (simp; omega)) (fun k hk => by have := own_block HO57.out k hk; omega); have HO60 := hidd hown60; have HB60 := hidd hb60; clear hown60 hgrow60 hat60 hb60)
                  | (refine step_append_at _ rfl (.tmp 57) (.tmp 59) 23 rfl Y 9 i0 (.string ⟨#[]⟩) 1 16 Try.underlying23 hi0 hz0 hz1 hz2 rfl (by decide) (.slice (some ⟨g57, 0, none⟩) k c57) k ((ts.take k).map mkTx) (by simp [Act.eval]) HO57.out ⟨Y + 1, 0, none⟩ 1 1 [mkTx T] (by simp [Act.eval]) rfl (one_news (by simp [Addr.add]) hC59) (by intro u' hu'; simp at hu'; subst hu'; rfl) (by simp) (by unfold maxLen; omega) (by omega) (by have := HB57.out.size; first | omega | (simp; done) | (simp; omega)) ?_; intro g60 c60 w60 hown60 hgrow60 hat60; have hb60 : Below wr.heap.size wr w60 := HB57.out.grown hgrow60 (by have := HB57.out.size; first | omega | (simp; done) | (simp; omega)) (fun k hk => by have := own_block HO57.out k hk; omega); have HO60 := hidd hown60; have HB60 := hidd hb60; clear hown60 hgrow60 hat60 hb60)
                  | (refine step_append_at _ rfl (.tmp 57) (.tmp 59) 23 rfl Y 9 i0 (.string ⟨#[]⟩) 1 16 Try.underlying23 hi0 hz0 hz1 hz2 rfl (by decide) (.slice (some ⟨g57, 0, none⟩) k c57) k ((ts.take k).map mkTx) (by simp [Act.eval]) HO57.out ⟨Y, 0, none⟩ 1 1 [mkTx T] (by simp [Act.eval]) rfl (one_news (by simp [Addr.add]) hC59) (by intro u' hu'; simp at hu'; subst hu'; rfl) (by simp) (by unfold maxLen; omega) (by omega) (by have := HB57.out.size; first | omega | (simp; done) | (simp; omega)) ?_; intro g60 c60 w60 hown60 hgrow60 hat60; have hb60 : Below wr.heap.size wr w60 := HB57.out.grown hgrow60 (by have := HB57.out.size; first | omega | (simp; done) | (simp; omega)) (fun k hk => by have := own_block HO57.out k hk; omega); have HO60 := hidd hown60; have HB60 := hidd hb60; clear hown60 hgrow60 hat60 hb60)
                  | (refine step_append_at _ rfl (.tmp 60) (.tmp 63) 23 rfl Y 9 i0 (.string ⟨#[]⟩) 1 16 Try.underlying23 hi0 hz0 hz1 hz2 rfl (by decide) (.slice (some ⟨g60, 0, none⟩) (k + 1) c60) (k + 1) ((ts.take k).map mkTx ++ [mkTx T]) (by simp [Act.eval]) HO60.out ⟨gO, 0, none⟩ 0 0 ((ts.drop k).map mkTx) (by simp [Act.eval]) HL2.out (HN2.out _ HB60.out) (one_tx _) (by simp) (by unfold maxLen; omega) (by omega) (by have := HB60.out.size; first | omega | (simp; done) | (simp; omega)) ?_; intro g64 c64 w64 hown64 hgrow64 hat64; have hb64 : Below wr.heap.size wr w64 := HB60.out.grown hgrow64 (by have := HB60.out.size; first | omega | (simp; done) | (simp; omega)) (fun k hk => by have := own_block HO60.out k hk; omega); have HO64 := hidd hown64; have HB64 := hidd hb64; clear hown64 hgrow64 hat64 hb64))
                all_goals
                  have hMM := HM.out
                  have eL : (ts.take k ++ T :: ts.drop k).length = M + 1 := by simp; omega
                  have eM : (ts.take k ++ T :: ts.drop k).map mkTx = (ts.take k).map mkTx ++ [mkTx T] ++ (ts.drop k).map mkTx := by simp
                  have eK : k + 1 + 0 = M + 1 := by omega
                  have HO64' : Hid (w64.ownsRow w.heap.size 9 1 (.slice (some ⟨g64, 0, none⟩) (M + 1) c64) (M + 1) ((ts.take k ++ T :: ts.drop k).map mkTx)) := by
                    have h := own_mono HO64.out (show w.heap.size ≤ Y by have := HG3.out.size; omega)
                    rw [eK] at h
                    rw [eM]
                    exact h
                  have HTA : Hid (∀ t ∈ ts.take k ++ T :: ts.drop k, TxC 20 t) := fun t ht => by
                    rcases List.mem_append.1 ht with h | h
                    · exact HT20.out t (List.mem_of_mem_take h)
                    · rcases List.mem_cons.1 h with rfl | h
                      · exact hT20
                      · exact HT20.out t (List.mem_of_mem_drop h)
                  have HS64 : Hid (SrcAt w64 b (.slice ao n cap) a3 sd3) := by
                    have h := HS3.out
                    show SrcAt _ _ _ _ _
                    unfold SrcAt at *
                    rw [HB64.out.block b hb3]
                    exact h
                  have HG64 : Hid (w.grownBy w64 (some b)) := grown_trans HG3.out ⟨HB64.out.os, HB64.out.tape, HB64.out.output, HB64.out.size, fun x hx _ => HB64.out.block x hx⟩
                  try rw [eK]
                  clear HO64 HO60 HO57 HB60 HB57 HN1 HN2 hC59
                  generalize hts' : ts.take k ++ T :: ts.drop k = ts' at *
                  go_wp2_with fail
                  refine ⟨⟨m - 1, ts', a3, sd3, by go_num, by omega, by omega, HTA.out, by rw [eL]; first | exact HO64'.out | (have e9 : k + 1 = M + 1 := by omega; rw [e9]; exact HO64'.out), by simp, ha11, by omega, hd4, hd5, HS64.out, HG64.out⟩, by simp [intOf]; omega⟩
              · have hkne2 : ¬ cO = k := by omega
                obtain ⟨Y, hY⟩ : ∃ Y, wr.heap.size = Y := ⟨_, rfl⟩
                obtain ⟨i0, hi0, hz0, hz1, hz2⟩ := info_parts Try.infoStr
                have hszd : wr.drew.heap.size = Y := hY
                have hszo : ∀ o : Obj, (wr.drew.alloc o).heap.size = Y + 1 := fun o => by simp [hszd]
                have HbR := hidd (below_drewN (Below.refl wr.heap.size wr) 1)
                have hgY : gO < wr.heap.size := own_lt HO3.out
                have HN1 : Hid (∀ W, Below wr.heap.size wr W → ∀ j u, ((ts.take k).map mkTx)[j]? = some u → W.cell? ((⟨gO, 0, none⟩ : Addr).add j) = some u) := fun W hW => tx_news hgY (own_mono HO3.out (Nat.zero_le _)) HM.out hW 0 _ (fun j hj => by have := HM.out; have hj2 : j < k := (by rw [List.length_take] at hj; omega); refine ⟨by omega, ?_⟩; simp [List.getD_eq_getElem?_getD, List.getElem?_take, hj2])
                have HL1 : Hid (((ts.take k).map mkTx).length = k * 1) := by have := HM.out; show _ = _; simp; omega
                have HL2 : Hid (((ts.drop k).map mkTx).length = (M - k) * 1) := by have := HM.out; show _ = _; simp; omega
                have HN2 : Hid (∀ W, Below wr.heap.size wr W → ∀ j u, ((ts.drop k).map mkTx)[j]? = some u → W.cell? ((⟨gO, k, none⟩ : Addr).add j) = some u) := fun W hW => tx_news hgY (own_mono HO3.out (Nat.zero_le _)) HM.out hW k _ (fun j hj => by have := HM.out; simp at hj; refine ⟨by omega, ?_⟩; simp [List.getD_eq_getElem?_getD])
                go_region_held3 (fun _ => True) (trivial)
                  (first
                  | (refine step_append_at _ rfl (.tmp 53) (.tmp 56) 23 rfl Y 9 i0 (.string ⟨#[]⟩) 1 16 Try.underlying23 hi0 hz0 hz1 hz2 rfl (by decide) (.slice (some ⟨Y, 0, none⟩) 0 0) 0 [] (by simp [Act.eval]) (ownES wr.drew hszd) ⟨gO, 0, none⟩ k cO ((ts.take k).map mkTx) (by simp [Act.eval]) HL1.out (HN1.out _ (HbR.out.alloc (by simp) _)) (one_tx _) (by simp) (by unfold maxLen; omega) (by omega) (by first | omega | (simp; done) | (simp; omega)) ?_; intro g57 c57 w57 hown57 hgrow57 hat57; simp only [Nat.zero_add, List.nil_append] at hown57; have hb57 : Below wr.heap.size wr w57 := (HbR.out.alloc (by simp) _).grown hgrow57 (by first | omega | (simp; done) | (simp; omega)) (fun k hk => by simp [Value.ownBlock] at hk; omega); have hC59 : True := trivial; have HO57 := hidd hown57; have HB57 := hidd hb57; clear hown57 hgrow57 hat57 hb57)
                  | (refine step_append_at _ rfl (.tmp 53) (.tmp 56) 23 rfl Y 9 i0 (.string ⟨#[]⟩) 1 16 Try.underlying23 hi0 hz0 hz1 hz2 rfl (by decide) (.slice (some ⟨Y, 0, none⟩) 0 0) 0 [] (by simp [Act.eval]) ((ownES wr.drew hszd).alloc _) ⟨gO, 0, none⟩ k cO ((ts.take k).map mkTx) (by simp [Act.eval]) HL1.out (HN1.out _ ((HbR.out.alloc (by simp) _).alloc (by simp) _)) (one_tx _) (by simp) (by unfold maxLen; omega) (by omega) (by first | omega | (simp; done) | (simp; omega)) ?_; intro g57 c57 w57 hown57 hgrow57 hat57; simp only [Nat.zero_add, List.nil_append] at hown57; have hb57 : Below wr.heap.size wr w57 := ((HbR.out.alloc (by simp) _).alloc (by simp) _).grown hgrow57 (by first | omega | (simp; done) | (simp; omega)) (fun k hk => by simp [Value.ownBlock] at hk; omega); have hC59 : w57.cell? ⟨Y + 1, 0, none⟩ = some (.string ⟨T.toArray⟩) := keep_cell hgrow57 (new_cell _ _ _ (hszo _)) (by simp [Value.ownBlock]); have HO57 := hidd hown57; have HB57 := hidd hb57; clear hown57 hgrow57 hat57 hb57)
                  | (refine step_append_at _ rfl (.tmp 53) (.tmp 56) 23 rfl Y 9 i0 (.string ⟨#[]⟩) 1 16 Try.underlying23 hi0 hz0 hz1 hz2 rfl (by decide) (.slice (some ⟨Y + 1, 0, none⟩) 0 0) 0 [] (by simp [Act.eval]) (own_mono (ownES _ (hszo _)) (by omega)) ⟨gO, 0, none⟩ k cO ((ts.take k).map mkTx) (by simp [Act.eval]) HL1.out (HN1.out _ ((HbR.out.alloc (by simp) _).alloc (by simp) _)) (one_tx _) (by simp) (by unfold maxLen; omega) (by omega) (by first | omega | (simp; done) | (simp; omega)) ?_; intro g57 c57 w57 hown57 hgrow57 hat57; simp only [Nat.zero_add, List.nil_append] at hown57; have hb57 : Below wr.heap.size wr w57 := ((HbR.out.alloc (by simp) _).alloc (by simp) _).grown hgrow57 (by first | omega | (simp; done) | (simp; omega)) (fun k hk => by simp [Value.ownBlock] at hk; omega); have hC59 : w57.cell? ⟨Y, 0, none⟩ = some (.string ⟨T.toArray⟩) := keep_cell hgrow57 (old_cell _ _ (new_cell _ _ _ hszd)) (by simp [Value.ownBlock]); have HO57 := hidd hown57; have HB57 := hidd hb57; clear hown57 hgrow57 hat57 hb57)
                  | (refine step_append_at _ rfl (.tmp 57) (.tmp 59) 23 rfl Y 9 i0 (.string ⟨#[]⟩) 1 16 Try.underlying23 hi0 hz0 hz1 hz2 rfl (by decide) (.slice (some ⟨g57, 0, none⟩) k c57) k ((ts.take k).map mkTx) (by simp [Act.eval]) (HO57.out.alloc _) ⟨w57.heap.size, 0, none⟩ 1 1 [mkTx T] (by simp [Act.eval]) rfl (one_news (by simp [Addr.add]) (new_cell _ _ _ rfl)) (by intro u' hu'; simp at hu'; subst hu'; rfl) (by simp) (by unfold maxLen; omega) (by omega) (by have := HB57.out.size; first | omega | (simp; done) | (simp; omega)) ?_; intro g60 c60 w60 hown60 hgrow60 hat60; have hb60 : Below wr.heap.size wr w60 := (HB57.out.alloc HB57.out.size _).grown hgrow60 (by have := HB57.out.size; first | omega | (simp; done) | (simp; omega)) (fun k hk => by have := own_block HO57.out k hk; omega); have HO60 := hidd hown60; have HB60 := hidd hb60; clear hown60 hgrow60 hat60 hb60)
                  | (refine step_append_at _ rfl (.tmp 57) (.tmp 59) 23 rfl Y 9 i0 (.string ⟨#[]⟩) 1 16 Try.underlying23 hi0 hz0 hz1 hz2 rfl (by decide) (.slice (some ⟨g57, 0, none⟩) k c57) k ((ts.take k).map mkTx) (by simp [Act.eval]) HO57.out ⟨Y + 1, 0, none⟩ 1 1 [mkTx T] (by simp [Act.eval]) rfl (one_news (by simp [Addr.add]) hC59) (by intro u' hu'; simp at hu'; subst hu'; rfl) (by simp) (by unfold maxLen; omega) (by omega) (by have := HB57.out.size; first | omega | (simp; done) | (simp; omega)) ?_; intro g60 c60 w60 hown60 hgrow60 hat60; have hb60 : Below wr.heap.size wr w60 := HB57.out.grown hgrow60 (by have := HB57.out.size; first | omega | (simp; done) | (simp; omega)) (fun k hk => by have := own_block HO57.out k hk; omega); have HO60 := hidd hown60; have HB60 := hidd hb60; clear hown60 hgrow60 hat60 hb60)
                  | (refine step_append_at _ rfl (.tmp 57) (.tmp 59) 23 rfl Y 9 i0 (.string ⟨#[]⟩) 1 16 Try.underlying23 hi0 hz0 hz1 hz2 rfl (by decide) (.slice (some ⟨g57, 0, none⟩) k c57) k ((ts.take k).map mkTx) (by simp [Act.eval]) HO57.out ⟨Y, 0, none⟩ 1 1 [mkTx T] (by simp [Act.eval]) rfl (one_news (by simp [Addr.add]) hC59) (by intro u' hu'; simp at hu'; subst hu'; rfl) (by simp) (by unfold maxLen; omega) (by omega) (by have := HB57.out.size; first | omega | (simp; done) | (simp; omega)) ?_; intro g60 c60 w60 hown60 hgrow60 hat60; have hb60 : Below wr.heap.size wr w60 := HB57.out.grown hgrow60 (by have := HB57.out.size; first | omega | (simp; done) | (simp; omega)) (fun k hk => by have := own_block HO57.out k hk; omega); have HO60 := hidd hown60; have HB60 := hidd hb60; clear hown60 hgrow60 hat60 hb60)
                  | (refine step_append_at _ rfl (.tmp 60) (.tmp 63) 23 rfl Y 9 i0 (.string ⟨#[]⟩) 1 16 Try.underlying23 hi0 hz0 hz1 hz2 rfl (by decide) (.slice (some ⟨g60, 0, none⟩) (k + 1) c60) (k + 1) ((ts.take k).map mkTx ++ [mkTx T]) (by simp [Act.eval]) HO60.out ⟨gO, k, none⟩ (M - k) (cO - k) ((ts.drop k).map mkTx) (by simp [Act.eval]) HL2.out (HN2.out _ HB60.out) (one_tx _) (by simp) (by unfold maxLen; omega) (by omega) (by have := HB60.out.size; first | omega | (simp; done) | (simp; omega)) ?_; intro g64 c64 w64 hown64 hgrow64 hat64; have hb64 : Below wr.heap.size wr w64 := HB60.out.grown hgrow64 (by have := HB60.out.size; first | omega | (simp; done) | (simp; omega)) (fun k hk => by have := own_block HO60.out k hk; omega); have HO64 := hidd hown64; have HB64 := hidd hb64; clear hown64 hgrow64 hat64 hb64))
                all_goals
                  have hMM := HM.out
                  have eL : (ts.take k ++ T :: ts.drop k).length = M + 1 := by simp; omega
                  have eM : (ts.take k ++ T :: ts.drop k).map mkTx = (ts.take k).map mkTx ++ [mkTx T] ++ (ts.drop k).map mkTx := by simp
                  have eK : k + 1 + (M - k) = M + 1 := by omega
                  have HO64' : Hid (w64.ownsRow w.heap.size 9 1 (.slice (some ⟨g64, 0, none⟩) (M + 1) c64) (M + 1) ((ts.take k ++ T :: ts.drop k).map mkTx)) := by
                    have h := own_mono HO64.out (show w.heap.size ≤ Y by have := HG3.out.size; omega)
                    rw [eK] at h
                    rw [eM]
                    exact h
                  have HTA : Hid (∀ t ∈ ts.take k ++ T :: ts.drop k, TxC 20 t) := fun t ht => by
                    rcases List.mem_append.1 ht with h | h
                    · exact HT20.out t (List.mem_of_mem_take h)
                    · rcases List.mem_cons.1 h with rfl | h
                      · exact hT20
                      · exact HT20.out t (List.mem_of_mem_drop h)
                  have HS64 : Hid (SrcAt w64 b (.slice ao n cap) a3 sd3) := by
                    have h := HS3.out
                    show SrcAt _ _ _ _ _
                    unfold SrcAt at *
                    rw [HB64.out.block b hb3]
                    exact h
                  have HG64 : Hid (w.grownBy w64 (some b)) := grown_trans HG3.out ⟨HB64.out.os, HB64.out.tape, HB64.out.output, HB64.out.size, fun x hx _ => HB64.out.block x hx⟩
                  rw [eK]
                  clear HO64 HO60 HO57 HB60 HB57 HN1 HN2 hC59
                  generalize hts' : ts.take k ++ T :: ts.drop k = ts' at *
                  go_wp2_with fail
                  refine ⟨⟨m - 1, ts', a3, sd3, by go_num, by omega, by omega, HTA.out, by rw [eL]; first | exact HO64'.out | (have e9 : k + 1 = M + 1 := by omega; rw [e9]; exact HO64'.out), by simp, ha11, by omega, hd4, hd5, HS64.out, HG64.out⟩, by simp [intOf]; omega⟩
        · obtain ⟨j', rfl⟩ : ∃ j', j = j' + 1 := ⟨j - 1, by omega⟩
          have hjz : ((j' + 1 : Nat) : Int) - 1 = (j' : Int) := by omega
          rw [hjz]
          clear hjz
          have hj0z : (0 : Int) ≤ (j' : Int) := by omega
          go_wp2_with fail
          refine (next_any b ao n cap a3 sd3 8 _ hn (by omega) (by omega) (by omega) (by omega) hd4 hd5 (by exact HS3.out.alloc _) (by exact HC3.out.alloc _)).mono ?_
          rintro e w4 ⟨y, a4, sd4, rfl, hy0, hy1, ha8, ha9, hd6, hd7, hs4, hg4⟩
          obtain ⟨Y, rfl⟩ := Int.eq_ofNat_of_zero_le hy0
          obtain ⟨q, hq, hqs⟩ := table_strC hg4 hb3 3 (by decide +kernel) Y (by show Y < 8; omega)
          have hq1 : q.size ≤ 3 := by have := hqs.1; rw [Array.length_toList] at this; exact this
          have HS4 := hidd hs4
          have HG4 := hidd (grown_trans HG3.out (grown_trans (World.grownBy_alloc wr _ (some b)) hg4))
          have HO4 : Hid (w4.ownsRow w.heap.size 9 1 (.slice (some ⟨gO, 0, none⟩) ts.length cO) ts.length (ts.map mkTx)) := (HO3.out.alloc _).kept hg4 (Or.inr (by simpa [Value.ownBlock] using hgb))
          clear hs4 hg4 HS3 HG3 HO3
          have hYz : (Y : Int) < 8 := by omega
          dsimp only
          go_wp2_with fail
          go_roundw
          case rel =>
            refine ⟨j', T ++ q.data.toList, a4, sd4, by go_num, by omega, ?_, ?_, by omega, by omega, hd6, hd7, HS4.out, HG4.out, HO4.out⟩
            · congr 1
            · refine ⟨?_, ?_⟩
              · have := hTl.1
                have := hqs.1
                rw [List.length_append]
                omega
              · intro hm
                rcases List.mem_append.1 hm with h | h
                · exact hTl.2 h
                · exact hqs.2 h
          case measure => simp [intOf]
    · have hmz : ¬ (0 : Int) < (m : Int) := by omega
      go_wp2
      go_ret
      unfold DrawnC
      exact ⟨_, ts, a1, sd1, rfl, by omega, HT20.out, HO.out, by simp, ha1, by omega, hd0, hd1, HSr.out, HG.out⟩
end Go.Proofs.Ytbkedgpligcicaa.Drw
