import Derived.Test.YtboocdiilbcdcaaDoorHpA
import Derived.Test.YtboocdiilbcdcaaDoorLeIa
import Derived.Deep.RegionWith
import Derived.Test.YtboocdiilbcdcaaDoorMarkT
import Derived.Test.YtboocdiilbcdcaaDoorPkM
import Derived.WalkLawsBesides
import Derived.BigQuiet
import Derived.Deep.QuietTactic
namespace Go.Proofs.YtboocdiilbcdcaaDoor
open Go Go.RowKit
set_option linter.unusedVariables false
set_option maxRecDepth 100000

abbrev Tx := List UInt8
def TmAt (w : World) (a : Option Addr) (ts : List Tx) : Prop := ts = [] ∨ ∃ g off, a = some ⟨g, off, none⟩ ∧ g < w.heap.size ∧ ∀ j, j < ts.length → w.cell? ⟨g, off + j, none⟩ = some (.string ⟨(ts.getD j []).toArray⟩)

def szN (left : Int) (n : Nat) : Int := if left - (n : Int) < 0 then -1 else left - (n : Int)
theorem TmAt.keep {W W' : World} {a : Option Addr} {ts : List Tx} (h : TmAt W a ts) (hs : W.heap.size ≤ W'.heap.size) (hk : ∀ g off, a = some ⟨g, off, none⟩ → ts ≠ [] → W'.heap[g]? = W.heap[g]?) : TmAt W' a ts := by
  rcases h with h | ⟨g, off, ha, hg, hc⟩
  · exact Or.inl h
  · by_cases hn : ts = []
    · exact Or.inl hn
    · exact Or.inr ⟨g, off, ha, by omega, fun j hj => by rw [World.cell?_of_block (hk g off ha hn)]; exact hc j hj⟩
theorem TmAt.below {w w' : World} {a : Option Addr} {l : List (List UInt8)} (h : TmAt w a l) (hb : Below w.heap.size w w') : TmAt w' a l := by
  refine h.keep hb.size fun g off ha hn => ?_
  obtain ⟨g', off', ha', hg', _⟩ := h.resolve_left hn
  rw [ha] at ha'; cases ha'
  exact hb.block _ hg'
def szG {X : Type} (g : Int → X → Int) : Int → List X → Int
  | left, [] => left
  | left, x :: t => if g left x < 0 then -1 else szG g (g left x) t
theorem szG_step {X : Type} (g : Int → X → Int) (l : List X) (d : X) (k : Nat) (left : Int) (h : k < l.length) : szG g left (l.drop k) = if g left (l.getD k d) < 0 then -1 else szG g (g left (l.getD k d)) (l.drop (k + 1)) := by
  rw [List.drop_eq_getElem_cons h, szG]; simp [h]
def szTx (left : Int) (l : List (List UInt8)) : Int := if left - (l.length : Int) < 0 then -1 else szG (fun a t => szN a t.length) (left - (l.length : Int)) l
theorem szTx_bound {left : Int} {l : List (List UInt8)} (h0 : 0 ≤ left) (h : ¬ szTx left l < 0) : (l.length : Int) ≤ left := by
  unfold szTx at h
  split at h
  · omega
  · omega
set_option maxHeartbeats 2000000 in
theorem szStrs_any (a : Option Addr) (c : Nat) (l : List (List UInt8)) (left : Int) (w : World) (h0 : 0 ≤ left) (h1 : left ≤ 1048576) (hn : l.length ≤ 9223372036854775807) (hA : ∀ i, (l.getD i []).length ≤ 9223372036854775807) (hS : TmAt w a l) :
    Calls Tryd.prog 12 #[.slice a l.length c, .int .i64 left] w fun e w' => e = .returned (.int .i64 (szTx left l)) ∧ w' = w := by
  have HS := hidd hS
  have HA := hidd hA
  clear hS hA
  by_cases h : left - (l.length : Int) < 0
  · have HE : Hid (szTx left l = -1) := by show _ = _; rw [szTx, if_pos h]
    go_enter Tryd.func12, Tryd.ntmps12
    go_wp2_with fail
    go_ret
    rw [HE.out]
    exact ⟨rfl, rfl⟩
  · obtain ⟨R, hR⟩ : ∃ R, szTx left l = R := ⟨_, rfl⟩
    rw [hR]
    have HE : Hid (szG (fun a t => szN a t.length) (left - (l.length : Int)) l = R) := by show _ = _; rw [← hR, szTx, if_neg h]
    clear hR
    go_enter Tryd.func12, Tryd.ntmps12
    go_wp2_with fail
    go_loopw [1, 5] (fun lv iv wr => ∃ (k : Nat) (x : Int), k ≤ l.length ∧ iv = .int .i64 (k : Int) ∧ lv = .int .i64 x ∧ 0 ≤ x ∧ x ≤ 1048576 ∧ szG (fun a t => szN a t.length) x (l.drop k) = R ∧ wr = w) (fun _ iv _ => l.length - (intOf iv).toNat)
    case atStart => exact ⟨0, _, Nat.zero_le _, rfl, rfl, by omega, by omega, by rw [List.drop_zero]; exact HE.out, rfl⟩
    case round =>
      clear HE
      obtain ⟨k, x, hk, rfl, rfl, hx0, hx1, hgo, hww⟩ := hrel
      have hww' := hww.symm
      subst hww'
      clear hww
      have HG := hidd hgo
      clear hgo
      by_cases hlt : k < l.length
      · have hkz : (k : Int) < (l.length : Int) := by omega
        obtain ⟨b, off, rfl, hbl, hc⟩ := HS.out.resolve_left (fun h => by rw [h] at hlt; simp at hlt)
        have x0 := hc k hlt
        rw [szG_step _ l [] k x hlt] at HG
        have hal := HA.out k
        clear hc
        generalize l.getD k [] = t at *
        have htl : (⟨t.toArray⟩ : ByteArray).size = t.length := by rw [Lib.size_eq]
        by_cases hX : x - (t.length : Int) < 0
        · have HR : Hid (R = -1) := by show _ = _; have := HG.out; rw [szN, if_pos hX, if_pos (by omega)] at this; exact this.symm
          go_wp2_with fail
          go_ret
          rw [HR.out]
          exact ⟨rfl, rfl⟩
        · have HR : Hid (szG (fun a (t : List UInt8) => szN a t.length) (x - (t.length : Int)) (l.drop (k + 1)) = R) := by show _ = _; have := HG.out; rw [szN, if_neg hX, if_neg hX] at this; exact this
          go_wp2_with fail
          go_roundw
          case rel => exact ⟨k + 1, x - (t.length : Int), by omega, by go_num, by go_num, by omega, by omega, HR.out, by first | trivial | rfl⟩
          case measure => simp [intOf]; omega
      · have hkz : ¬ (k : Int) < (l.length : Int) := by omega
        rw [List.drop_of_length_le (by omega), szG] at HG
        go_wp2_with fail
        go_ret
        rw [← HG.out]
        exact ⟨rfl, rfl⟩
theorem Tryd.infoStrD : (Tryd.prog.info? 9).map (fun i => (i.zero, i.size, i.bytes)) = some (some (.string ⟨#[]⟩), 1, 16) := by kernel_rfl
def mkTx (t : List UInt8) : Value := .string ⟨t.toArray⟩
/-- A row of its own, of type ty, that begins with the cells of l. -/
def RowX {X : Type} (mk : X → Value) (ty : TypeId) (d : X) (w : World) (g : Nat) (l : List X) : Prop := ∃ cur, w.heap[g]? = some (Obj.cells cur ty) ∧ l.length ≤ cur.size ∧ ∀ i, i < l.length → cur[i]? = some (mk (l.getD i d))
abbrev RowTx (w : World) (g : Nat) (l : List (List UInt8)) : Prop := RowX mkTx 9 [] w g l
theorem RowX.keep {X : Type} {mk : X → Value} {ty : TypeId} {d : X} {w w' : World} {g : Nat} {l : List X} (h : RowX mk ty d w g l) (hk : w'.heap[g]? = w.heap[g]?) : RowX mk ty d w' g l := by
  obtain ⟨cur, h1, h2, h3⟩ := h
  exact ⟨cur, hk.trans h1, h2, h3⟩
theorem RowX.lt {X : Type} {mk : X → Value} {ty : TypeId} {d : X} {w : World} {g : Nat} {l : List X} (h : RowX mk ty d w g l) : g < w.heap.size := by
  obtain ⟨cur, h1, h2, h3⟩ := h
  exact (Array.getElem?_eq_some_iff.1 h1).1
theorem RowX.below {X : Type} {mk : X → Value} {ty : TypeId} {d : X} {w w' : World} {g : Nat} {l : List X} (h : RowX mk ty d w g l) (hb : Below w.heap.size w w') : RowX mk ty d w' g l := h.keep (hb.block g h.lt)
theorem rowTx_hold {w : World} {g : Nat} {l : List (List UInt8)} (h : RowTx w g l) : TmAt w (some ⟨g, 0, none⟩) l := by
  refine Or.inr ⟨g, 0, rfl, h.lt, fun i hi => ?_⟩
  obtain ⟨cur, h1, h2, h3⟩ := h
  rw [Nat.zero_add, blkc h1, h3 i hi]; rfl
theorem row_ownX {X : Type} (mk : X → Value) (l : List X) (d : X) {w : World} {base g : Nat} {ty : TypeId} (h : w.ownsRow base ty 1 (.slice (some ⟨g, 0, none⟩) l.length l.length) l.length (l.map mk)) : RowX mk ty d w g l := by
  rcases h.2 with ⟨h', _⟩ | ⟨g', cap, cur, h', _, hg, hc1, hc2, hc3, hc4⟩
  · simp at h'
  · simp only [Value.slice.injEq, Option.some.injEq, Addr.mk.injEq, and_true, true_and] at h'
    obtain ⟨rfl, rfl⟩ := h'
    refine ⟨cur, hg, by omega, fun i hi => ?_⟩
    have := h.cellAt i (by omega)
    rw [blkc hg] at this
    rw [this]
    simp [hi]
theorem setOneX {X : Type} (mk : X → Value) (l : List X) (d : X) (k : Nat) (xs : List Value) (hx : xs.length = l.length) (hk : k < l.length) : ((l.take k).map mk ++ xs.drop k).set k (mk (l.getD k d)) = (l.take (k + 1)).map mk ++ xs.drop (k + 1) := by
  have e : ((l.take k).map mk).length = k := by simp; omega
  rw [List.set_append_right _ _ (by omega), e, Nat.sub_self, List.drop_eq_getElem_cons (l := xs) (i := k) (by omega), List.set_cons_zero, List.take_succ_eq_append_getElem hk, List.getD_eq_getElem?_getD, List.getElem?_eq_getElem hk, List.map_append, List.append_assoc]
  rfl
set_option maxHeartbeats 2000000 in
theorem toTx_any (a : Option Addr) (cap : Nat) (l : List (List UInt8)) (w : World) (hn : l.length ≤ 1048576) (hS : TmAt w a l) :
    Calls Tryd.prog 13 #[.slice a l.length cap] w fun e w' => e = .returned (.slice (some ⟨w.heap.size, 0, none⟩) l.length l.length) ∧ RowTx w' w.heap.size l ∧ Below w.heap.size w w' := by
  obtain ⟨i0, hi, hz0, hz1, hz2⟩ := info_parts Tryd.infoStrD
  have HS := hidd hS
  clear hS
  go_enter Tryd.func13, Tryd.ntmps13
  go_wp2_with (at_make; refine wpList_make_full _ rfl _ _ 23 rfl w.heap.size 9 i0 (.string ⟨#[]⟩) 1 Tryd.underlying23 hi hz0 hz1 _ _ _ _ l.length rfl rfl (by omega) (by omega) ?b2 ?b3 (Nat.le_refl _) ?_)
  case b2 => (first | omega | (rw [hz2]; omega))
  case b3 => unfold maxLen; omega
  intro w0 hown0 hgrow0
  generalize (madeCells #[Value.string ⟨#[]⟩] l.length).toList = xs at hown0
  have hxl : xs.length = l.length := by have := hown0.1; omega
  have HO0 := hidd hown0
  have HB0 : Hid (Below w.heap.size w w0) := (Below.refl _ _).grown hgrow0 (Nat.le_refl _) (fun k h => by cases h)
  clear hown0 hgrow0
  go_wp2
  go_loopw [4] (fun i wr => ∃ k : Nat, k ≤ l.length ∧ i = .int .i64 k ∧ wr.ownsRow w.heap.size 9 1 (.slice (some ⟨w.heap.size, 0, none⟩) l.length l.length) l.length ((l.take k).map mkTx ++ xs.drop k) ∧ Below w.heap.size w wr) (fun i _ => l.length - (intOf i).toNat)
  case atStart => exact ⟨0, Nat.zero_le _, rfl, HO0.out, HB0.out⟩
  case round =>
    obtain ⟨k, hk, rfl, hown, hbel⟩ := hrel
    have HO := hidd hown
    have HB := hidd hbel
    by_cases hlt : k < l.length
    · obtain ⟨b, off, rfl, hbl, hc⟩ := HS.out.resolve_left (fun h => by rw [h] at hlt; simp at hlt)
      have g1 := (hbel.cell (p := ⟨b, off + k, none⟩) hbl).trans (hc k hlt)
      have f1 := hown.frozenAt k
      have hex : ∃ u, wr.cell? ⟨w.heap.size, k, none⟩ = some u := by
        rw [hown.cellAt k (by omega)]
        have hlen : k < ((l.take k).map mkTx ++ xs.drop k).length := by rw [List.length_append, List.length_map, List.length_take, List.length_drop]; omega
        exact ⟨_, List.getElem?_eq_getElem hlen⟩
      obtain ⟨u, q1⟩ := hex
      have HSet := hidd (setOneX mkTx l [] k xs hxl hlt)
      generalize l.getD k [] = t at *
      clear hown hbel hc
      go_wp2
      go_roundw
      case rel =>
        have st := (HO.out.stored k (mkTx t)).1
        rw [HSet.out] at st
        exact ⟨k + 1, by omega, by go_num, st, HB.out.setCell (p := ⟨w.heap.size, k, none⟩) (Nat.le_refl _) _⟩
      case measure => simp [intOf]; omega
    · have HF := HO.out
      rw [List.take_of_length_le (by omega), List.drop_of_length_le (by omega), List.append_nil] at HF
      have HF2 := hidd (row_ownX mkTx l [] HF)
      clear HF hown hbel
      go_wp2
      go_ret
      exact ⟨rfl, HF2.out, HB.out⟩
set_option maxHeartbeats 1000000 in
theorem eqTx_any (a1 a2 : Option Addr) (c1 c2 : Nat) (l : List (List UInt8)) (w : World) (hn : l.length ≤ 1048576) (h1 : TmAt w a1 l) (h2 : TmAt w a2 l) :
    Calls Tryd.prog 15 #[.slice a1 l.length c1, .slice a2 l.length c2] w fun e w' => e = .returned (.bool true) ∧ Below w.heap.size w w' := by
  have H1 := hidd h1
  have H2 := hidd h2
  clear h1 h2
  go_enter Tryd.func15, Tryd.ntmps15
  go_wp2
  go_loopw [5] (fun i wr => ∃ k : Nat, k ≤ l.length ∧ i = .int .i64 k ∧ Below w.heap.size w wr) (fun i _ => l.length - (intOf i).toNat)
  case atStart => exact ⟨0, Nat.zero_le _, rfl, Below.refl _ _⟩
  case round =>
    obtain ⟨k, hk, rfl, hbel⟩ := hrel
    have HB := hidd hbel
    by_cases hlt : k < l.length
    · obtain ⟨b1, o1, rfl, hb1, hc1⟩ := (H1.out.below hbel).resolve_left (fun h => by rw [h] at hlt; simp at hlt)
      obtain ⟨b2, o2, rfl, hb2, hc2⟩ := (H2.out.below hbel).resolve_left (fun h => by rw [h] at hlt; simp at hlt)
      have g1 := hc1 k hlt
      have g2 := hc2 k hlt
      clear hc1 hc2 hbel
      generalize l.getD k [] = t at g1 g2
      go_wp2
      go_quiet (fail)
      go_wp2
      go_roundw
      case rel => exact ⟨k + 1, by omega, by go_num, below_drewN HB.out _⟩
      case measure => simp [intOf]; omega
    · clear hbel
      go_wp2
      go_ret
      exact ⟨rfl, HB.out⟩
def RowN (w : World) (g n : Nat) (ty : TypeId) : Prop := ∃ cur, w.heap[g]? = some (Obj.cells cur ty) ∧ n ≤ cur.size
theorem RowN.cell {W : World} {b n : Nat} {ty : TypeId} (h : RowN W b n ty) {j : Nat} (hj : j < n) : (∃ u, W.cell? ⟨b, j, none⟩ = some u) ∧ W.frozen? ⟨b, j, none⟩ = false := by
  obtain ⟨cur, h1, h2⟩ := h
  refine ⟨⟨cur[j]'(by omega), ?_⟩, blkf h1 j⟩
  rw [blkc h1 j]
  exact Array.getElem?_eq_getElem (by omega)
theorem RowN.keep {w w' : World} {g n : Nat} {ty : TypeId} (h : RowN w g n ty) (hk : w'.heap[g]? = w.heap[g]?) : RowN w' g n ty := by
  obtain ⟨cur, h1, h2⟩ := h
  exact ⟨cur, hk.trans h1, h2⟩
theorem RowN.set {w : World} {g n : Nat} {ty : TypeId} (h : RowN w g n ty) (j : Nat) (u : Value) : RowN (w.setCell ⟨g, j, none⟩ u) g n ty := by
  obtain ⟨cur, h1, h2⟩ := h
  exact ⟨_, heap_setCell_same w g j _ _ u h1, by simpa using h2⟩
theorem grown_belowX {w w1 w2 : World} {b : Nat} (h : w.grownBy w1 (some b)) (k : Below w1.heap.size w1 w2) : w.grownBy w2 (some b) :=
  ⟨k.os.trans h.os, k.tape.trans h.tape, k.output.trans h.output, Nat.le_trans h.size k.size, fun i hi hb => by
    rw [k.block i (Nat.lt_of_lt_of_le hi h.size), h.block i hi hb]⟩
theorem grown_setX {w w1 : World} {b : Nat} (h : w.grownBy w1 (some b)) (j : Nat) (u : Value) : w.grownBy (w1.setCell ⟨b, j, none⟩ u) (some b) :=
  ⟨h.os, h.tape, h.output, by have := h.size; simpa using this, fun i hi hb => by
    rw [heap_set_other w1 b j u i (fun e => hb (by rw [e]))]
    exact h.block i hi hb⟩
set_option maxHeartbeats 2000000 in
theorem markTx_any (b n c : Nat) (w : World) (hn : n ≤ 1048576) (hr : RowN w b n 9) :
    Calls Tryd.prog 16 #[.slice (some ⟨b, 0, none⟩) n c, .int .i64 1] w fun e w' => e = .returned (.int .i64 ((1 + n : Nat) : Int)) ∧ w.grownBy w' (some b) := by
  have HR := hidd hr
  clear hr
  go_enter Tryd.func16, Tryd.ntmps16
  go_wp2
  go_loopw [1, 5] (fun kv iv wr => ∃ i : Nat, i ≤ n ∧ iv = .int .i64 (i : Int) ∧ kv = .int .i64 ((1 + i : Nat) : Int) ∧ w.grownBy wr (some b) ∧ RowN wr b n 9) (fun _ iv _ => n - (intOf iv).toNat)
  case atStart => exact ⟨0, Nat.zero_le _, rfl, by simp, ⟨rfl, rfl, rfl, Nat.le_refl _, fun _ _ _ => rfl⟩, HR.out⟩
  case round =>
    obtain ⟨i, hi, rfl, rfl, hfz, hrn⟩ := hrel
    have HF := hidd hfz
    have HRn := hidd hrn
    clear hfz hrn
    by_cases hlt : i < n
    · have hltz : (i : Int) < (n : Int) := by omega
      obtain ⟨K, hK⟩ : ∃ K, 1 + i = K := ⟨_, rfl⟩
      have HK := hidd hK
      have hK0 : 1 ≤ K := by omega
      have hKl : K ≤ 1048577 := by omega
      try rw [hK]
      clear hK
      have HM := hidd (markText_any (K : Int) wr (by omega) (by omega))
      generalize mkText (K : Int) = T at HM
      go_wp2_with fail
      refine HM.out.mono ?_
      rintro e w2 ⟨rfl, hb2⟩
      have HF2 := hidd (grown_belowX HF.out hb2)
      have hr2 : RowN w2 b n 9 := HRn.out.keep (by
        obtain ⟨cur, h1, _⟩ := HRn.out
        exact hb2.block b (Array.getElem?_eq_some_iff.1 h1).1)
      obtain ⟨⟨u0, q0⟩, f0⟩ := hr2.cell hlt
      have HS := hidd (grown_setX HF2.out i (.string T))
      have HS2 := hidd (hr2.set i (.string T))
      clear hb2 HM hr2
      dsimp only
      go_wp2_with fail
      go_roundw
      case rel =>
        refine ⟨i + 1, by omega, by go_num, ?_, HS.out, HS2.out⟩
        have := HK.out
        first | (congr 1; omega) | go_num
      case measure => simp [intOf]; omega
    · have hltz : ¬ (i : Int) < (n : Int) := by omega
      obtain rfl : i = n := by omega
      go_wp2
      go_ret
      exact ⟨rfl, HF.out⟩
end Go.Proofs.YtboocdiilbcdcaaDoor
