import Derived.Test.YtionicjnoogpjaaGreatDoorAnalyzJ12
import Derived.Test.YtionicjnoogpjaaGreatDoorAnalyzJ13
import Derived.Test.YtionicjnoogpjaaGreatDoorAnalyzJ35
import Derived.Test.YtionicjnoogpjaaGreatDoorAnalyzJ29
import Derived.Test.YtionicjnoogpjaaGreatDoorAnalyzJ25
import Derived.Test.YtionicjnoogpjaaGreatDoorAnalyzJ26
import Derived.Test.YtionicjnoogpjaaGreatDoorAnalyzJ28
import Derived.BigQuiet
import Derived.Deep.QuietTactic
import Derived.Deep.RegionHeld
namespace Go.Proofs.YtionicjnoogpjaaGreatDoor
open Go Go.RowKit
set_option linter.unusedVariables false
set_option linter.unusedSimpArgs false
set_option maxRecDepth 100000

theorem tk_cell (L : List Tk) (k j : Nat) (hk : k < L.length) (hj : j < 4) : (toksCells L)[k * 4 + j]? = (tokCells (L.getD k tk0))[j]? := by
  induction L generalizing k with
  | nil => simp at hk
  | cons x t ih =>
    cases k with
    | zero => simp only [toksCells, List.flatMap_cons, Nat.zero_mul, Nat.zero_add, List.getD_cons_zero]; rw [List.getElem?_append_left (by simp [tokCells]; omega)]
    | succ k =>
      simp only [toksCells, List.flatMap_cons, List.getD_cons_succ]
      rw [List.getElem?_append_right (by simp [tokCells]; omega)]
      have e : (k + 1) * 4 + j - (tokCells x).length = k * 4 + j := by simp [tokCells]; omega
      rw [e]
      exact ih k (by simp at hk; omega)
/-- A row of tokens. -/
def TkRow (W : World) (a : Option Addr) (L : List Tk) : Prop := ∀ k, k < L.length → ∃ g, a = some ⟨g, 0, none⟩ ∧ g < W.heap.size ∧ W.cell? ⟨g, k * 4, none⟩ = some (.string ⟨(L.getD k tk0).1.toArray⟩) ∧ W.cell? ⟨g, k * 4 + 1, none⟩ = some (.int .i64 ((L.getD k tk0).2.1 : Int)) ∧ W.cell? ⟨g, k * 4 + 2, none⟩ = some (.int .i64 ((L.getD k tk0).2.2.1 : Int)) ∧ W.cell? ⟨g, k * 4 + 3, none⟩ = some (.int .i64 ((L.getD k tk0).2.2.2 : Int))
theorem tkRow_own {W : World} {base : Nat} {v : Value} {L : List Tk} (h : W.ownsRow base 35 4 v L.length (toksCells L)) : ∃ a c, v = .slice a L.length c ∧ TkRow W a L := by
  rcases h.2 with ⟨e1, e2⟩ | ⟨g, c, cur, e1, e2, e3, e4⟩
  · have hl := toksCells_len L
    have h0 : L.length = 0 := by omega
    exact ⟨none, 0, by rw [e1, h0], fun k hk => by omega⟩
  · refine ⟨_, _, e1, fun k hk => ⟨g, rfl, (Array.getElem?_eq_some_iff.1 e3).1, ?_⟩⟩
    subst e1
    have hc : ∀ j, j < 4 → W.cell? ⟨g, k * 4 + j, none⟩ = (tokCells (L.getD k tk0))[j]? := fun j hj => by
      rw [h.cellAt (k * 4 + j) (by omega)]
      exact tk_cell L k j hk hj
    exact ⟨hc 0 (by omega), hc 1 (by omega), hc 2 (by omega), hc 3 (by omega)⟩
theorem TkRow.below {W W' : World} {a : Option Addr} {L : List Tk} (h : TkRow W a L) (hb : Below W.heap.size W W') : TkRow W' a L := fun k hk => by
  obtain ⟨g, h1, h2, h3, h4, h5, h6⟩ := h k hk
  exact ⟨g, h1, Nat.lt_of_lt_of_le h2 hb.size, (hb.cell (p := ⟨g, k * 4, none⟩) h2).trans h3, (hb.cell (p := ⟨g, k * 4 + 1, none⟩) h2).trans h4, (hb.cell (p := ⟨g, k * 4 + 2, none⟩) h2).trans h5, (hb.cell (p := ⟨g, k * 4 + 3, none⟩) h2).trans h6⟩
theorem azGo_len8 (F : List UInt8 → List (List UInt8) × Int) : ∀ (l o : List Tk), o.length ≤ 8192 → (azGo F o l).1.length ≤ 8192
  | [], o, h => by rw [azGo]; exact h
  | k :: ks, o, h => by
    rw [azGo]
    split
    · split
      · rename_i h1
        exact azGo_len8 F ks _ h1
      · exact Nat.zero_le _
    · exact Nat.zero_le _
theorem anOf_len8 (fo st ph : Bool) (stops : List (List UInt8)) (syns : List (List UInt8 × List UInt8)) (lo hi : Int) (s : ByteArray) : (anOf fo st ph stops syns lo hi s).1.length ≤ 8192 := by
  unfold anOf
  repeat' split
  · exact Nat.zero_le _
  · exact azGo_len8 _ _ _ (Nat.zero_le _)
  · exact Nat.zero_le _
  · exact Nat.zero_le _
/-- The stop words of a round. -/
def stR (r : Nat) (stops : List (List UInt8)) : List (List UInt8) := if r = 1 then stops else []
theorem dec_zero {s : ByteArray} (h1 : s.size ≤ 65536) (h3 : validB s = true) : decCode s = 0 := by
  unfold decCode
  rw [if_neg (by omega)]
  simp [h3]
theorem exec_indexT (W : World) (ρ : Operand → Value) (o : Oper) (x y : Operand) (ho : o.op = .indexAddr 29 x y) (g X len c : Nat) (hx : ρ x = .slice (some ⟨g, 0, none⟩) len c) (hy : ρ y = .int .i64 (X : Int)) (h : X < len) :
    (execOp ρ o).run Tryz.prog W = .ok (.value (.pointer (some ⟨g, X * 4, none⟩))) W := by
  have h1 : (0 : Int) ≤ (X : Int) := by omega
  have h2 : (X : Int) < (len : Int) := by omega
  unfold execOp
  simp only [ho, hx, hy, Sem.run_bind, Sem.run_pure, Result.andThen_ok]
  go_simp
theorem bs_tl (x : List UInt8) : (bs x).toList = x := by rw [Lib.toList_data]; exact lst_bs x
theorem szS_of {l : List (List UInt8)} (h : ∀ t ∈ l, t.length ≤ 1048576) : szS l := fun k hk => by
  rw [List.getD_eq_getElem?_getD, List.getElem?_eq_getElem hk, Option.getD_some, bs_size]
  exact h _ (List.getElem_mem _)
theorem szY_of {l : List (List UInt8 × List UInt8)} (h : ∀ y ∈ l, y.1.length ≤ 1048576 ∧ y.2.length ≤ 1048576) : szY l := fun k hk => by
  rw [List.getD_eq_getElem?_getD, List.getElem?_eq_getElem hk, Option.getD_some, bs_size, bs_size]
  exact h _ (List.getElem_mem _)
set_option maxHeartbeats 16000000 in
theorem anlLaw_any (ao : Option Addr) (n cap : Nat) (w : World) (hm : n ≤ maxLen) (hc : CodeIn w ao n) (hT : Tabs w) :
    Calls Tryz.prog 3 #[.slice ao n cap] w fun e w' => e = .returned (.bool true) ∧ Below w.heap.size w w' := by
  have HT := hidd hT
  clear hT
  by_cases hlong : 1048576 < n
  · have hlz : (1048576 : Int) < (n : Int) := by omega
    clear hc
    go_enter Tryz.func3, Tryz.ntmps3
    go_wp2_with fail
    go_ret
    exact ⟨rfl, Below.refl _ _⟩
  · have hlz : ¬ (1048576 : Int) < (n : Int) := by omega
    have HC := hidd hc
    clear hc
    go_enter Tryz.func3, Tryz.ntmps3
    go_upto_region 4 with (go_at_call 5; refine (drawAn_any ao n cap w (by omega) HC.out).mono ?_; rintro e w1 ⟨fo, st, ph, aS, aY, cS, cY, stops, syns, lo, hi, t, rfl, hS1, hY1, hsm, ht, hcS, hb1⟩)
    have hbel : Below w1.heap.size w1 (w1.alloc (.cells #[.bool fo, .bool st, .bool ph, .slice aS stops.length cS, .slice aY syns.length cY, .int .i64 lo, .int .i64 hi] 26)) := (Below.refl _ _).alloc (Nat.le_refl _) _
    have HX2 : Hid ((w1.alloc (.cells #[.bool fo, .bool st, .bool ph, .slice aS stops.length cS, .slice aY syns.length cY, .int .i64 lo, .int .i64 hi] 26)).heap[w1.heap.size]? = some (.cells #[.bool fo, .bool st, .bool ph, .slice aS stops.length cS, .slice aY syns.length cY, .int .i64 lo, .int .i64 hi] 26)) := heap_alloc_new _ _
    have HS2 := hidd (hS1.below hbel)
    have HY2 := hidd (hY1.below hbel)
    have HB2 : Hid (Below w.heap.size w (w1.alloc (.cells #[.bool fo, .bool st, .bool ph, .slice aS stops.length cS, .slice aY syns.length cY, .int .i64 lo, .int .i64 hi] 26))) := hb1.trans (hbel.mono hb1.size)
    have HBX : Hid (w.heap.size ≤ w1.heap.size ∧ w1.heap.size < (w1.alloc (.cells #[.bool fo, .bool st, .bool ph, .slice aS stops.length cS, .slice aY syns.length cY, .int .i64 lo, .int .i64 hi] 26)).heap.size) := ⟨hb1.size, by simp⟩
    have HZS : Hid (szS stops) := szS_of hsm.2.2.1
    have HZY : Hid (szY syns) := szY_of hsm.2.2.2.1
    have HNS : Hid (stops.length ≤ 1048576 ∧ syns.length ≤ 1048576) := ⟨by have := hsm.1; omega, by have := hsm.2.1; omega⟩
    have HCS := hidd hcS
    clear hbel hS1 hY1 hb1 hcS hsm
    generalize w1.alloc (.cells #[.bool fo, .bool st, .bool ph, .slice aS stops.length cS, .slice aY syns.length cY, .int .i64 lo, .int .i64 hi] 26) = w2 at *
    generalize w1.heap.size = BX at *
    obtain ⟨⟨L, C⟩, hLC⟩ : ∃ r, anOf fo st ph stops syns lo hi t = r := ⟨_, rfl⟩
    have HLC := hidd hLC
    clear hLC
    have c0 : w2.cell? ⟨BX, 0, none⟩ = some (.bool fo) := blkc HX2.out 0
    have c1 : w2.cell? ⟨BX, 1, none⟩ = some (.bool st) := blkc HX2.out 1
    have c2 : w2.cell? ⟨BX, 2, none⟩ = some (.bool ph) := blkc HX2.out 2
    have c3 : w2.cell? ⟨BX, 3, none⟩ = some (.slice aS stops.length cS) := blkc HX2.out 3
    have c4 : w2.cell? ⟨BX, 4, none⟩ = some (.slice aY syns.length cY) := blkc HX2.out 4
    have c5 : w2.cell? ⟨BX, 5, none⟩ = some (.int .i64 lo) := blkc HX2.out 5
    have c6 : w2.cell? ⟨BX, 6, none⟩ = some (.int .i64 hi) := blkc HX2.out 6
    go_upto_region 5 with (go_at_call 6; refine (specAnalyze_any fo st ph aS aY cS cY stops syns lo hi t w2 HS2.out HY2.out HZS.out HZY.out HNS.out.1 HNS.out.2 ht L C HLC).mono ?_; rintro e w3 ⟨v5, rfl, ho3, hb3⟩)
    have HT3 := hidd ((HT.out.below HB2.out).below hb3)
    have HX3 := hidd (blko HX2.out hb3)
    have HS3 := hidd (HS2.out.below hb3)
    have HY3 := hidd (HY2.out.below hb3)
    have HB3 : Hid (Below w.heap.size w w3) := HB2.out.trans (hb3.mono HB2.out.size)
    have HBX3 : Hid (w.heap.size ≤ BX ∧ BX < w3.heap.size) := ⟨HBX.out.1, Nat.lt_of_lt_of_le HBX.out.2 hb3.size⟩
    clear ho3 hb3 c0 c1 c2 c3 c4 c5 c6 HX2 HS2 HY2 HB2 HBX
    have c0 : w3.cell? ⟨BX, 0, none⟩ = some (.bool fo) := blkc HX3.out 0
    have c1 : w3.cell? ⟨BX, 1, none⟩ = some (.bool st) := blkc HX3.out 1
    have c2 : w3.cell? ⟨BX, 2, none⟩ = some (.bool ph) := blkc HX3.out 2
    have c3 : w3.cell? ⟨BX, 3, none⟩ = some (.slice aS stops.length cS) := blkc HX3.out 3
    have c4 : w3.cell? ⟨BX, 4, none⟩ = some (.slice aY syns.length cY) := blkc HX3.out 4
    have c5 : w3.cell? ⟨BX, 5, none⟩ = some (.int .i64 lo) := blkc HX3.out 5
    have c6 : w3.cell? ⟨BX, 6, none⟩ = some (.int .i64 hi) := blkc HX3.out 6
    go_upto_region 6 with (go_at_call 7; refine (implAnalyze_any fo st ph aS aY cS cY stops syns lo hi t w3 HT3.out HS3.out HY3.out HZS.out HZY.out HNS.out.1 HNS.out.2 ht).mono ?_; rintro e w4 ⟨v7, rfl, ho4, hb4⟩)
    rw [HLC.out] at ho4
    have HT4 := hidd (HT3.out.below hb4)
    have HX4 := hidd (blko HX3.out hb4)
    have HS4 := hidd (HS3.out.below hb4)
    have HY4 := hidd (HY3.out.below hb4)
    have HO4 := hidd ho4
    have HB4 : Hid (Below w.heap.size w w4) := HB3.out.trans (hb4.mono HB3.out.size)
    have HBX4 : Hid (w.heap.size ≤ BX ∧ BX < w4.heap.size) := ⟨HBX3.out.1, Nat.lt_of_lt_of_le HBX3.out.2 hb4.size⟩
    clear ho4 hb4 c0 c1 c2 c3 c4 c5 c6 HX3 HS3 HY3 HB3 HBX3 HT3
    rw [HLC.out]
    rw [show ((L, C) : List Tk × Int).snd = C from rfl]
    have HAI : Hid (∀ W, Below w4.heap.size w4 W → Calls Tryz.prog 8 #[.agg #[.bool fo, .bool st, .bool ph, .slice aS stops.length cS, .slice aY syns.length cY, .int .i64 lo, .int .i64 hi]] W fun e w' => e = .returned (.bool (azOK stops syns lo hi)) ∧ Below W.heap.size W w') := fun W hW => implAzOK_any fo st ph aS aY cS cY stops syns lo hi W (HT4.out.below hW) (HS4.out.below hW) (HY4.out.below hW) HZS.out HZY.out HNS.out.1 HNS.out.2
    have HAS : Hid (∀ W, Below w4.heap.size w4 W → Calls Tryz.prog 9 #[.agg #[.bool fo, .bool st, .bool ph, .slice aS stops.length cS, .slice aY syns.length cY, .int .i64 lo, .int .i64 hi]] W fun e w' => e = .returned (.bool (azOK stops syns lo hi)) ∧ Below W.heap.size W w') := fun W hW => specAzOK_any fo st ph aS aY cS cY stops syns lo hi W (HS4.out.below hW) (HY4.out.below hW) HZS.out HZY.out HNS.out.1 HNS.out.2
    go_cut [52] (fun v wy => v = .bool false ∧ Below w4.heap.size w4 wy)
    case first =>
      refine wp_region_held (S := fun W' => W'.heap[BX]? = some (.cells #[.bool fo, .bool st, .bool ph, .slice aS stops.length cS, .slice aY syns.length cY, .int .i64 lo, .int .i64 hi] 26)) (by kernel_rfl) ?_
      have hB0 : Below w4.heap.size w4 ({ heap := w4.heap, tape := w4.tape, drawn := w4.drawn + 1, os := w4.os, output := w4.output } : World) := below_drewN (Below.refl _ _) 1
      generalize ({ heap := w4.heap, tape := w4.tape, drawn := w4.drawn + 1, os := w4.os, output := w4.output } : World) = wd at *
      have hSx := blko HX4.out hB0
      try simp only [Act.put, List.getElem_toArray, List.getElem_cons_succ, List.getElem_cons_zero, List.setIfInBounds_toArray, List.set_cons_zero, List.set_cons_succ]
      refine tkX 0 (hS := hSx) (h := ?_)
      try simp only [Act.put, List.getElem_toArray, List.getElem_cons_succ, List.getElem_cons_zero, List.setIfInBounds_toArray, List.set_cons_zero, List.set_cons_succ]
      refine tkX 1 (hS := hSx) (h := ?_)
      try simp only [Act.put, List.getElem_toArray, List.getElem_cons_succ, List.getElem_cons_zero, List.setIfInBounds_toArray, List.set_cons_zero, List.set_cons_succ]
      refine tkX 2 (v := .bool false) (hS := hSx) (h := ?_)
      try simp only [Act.put, List.getElem_toArray, List.getElem_cons_succ, List.getElem_cons_zero, List.setIfInBounds_toArray, List.set_cons_zero, List.set_cons_succ]
      refine tkX 3 (hS := hSx) (h := ?_)
      try simp only [Act.put, List.getElem_toArray, List.getElem_cons_succ, List.getElem_cons_zero, List.setIfInBounds_toArray, List.set_cons_zero, List.set_cons_succ]
      refine wpAnyH_take (i := 4) (v := .agg #[.bool fo, .bool st, .bool ph, .slice aS stops.length cS, .slice aY syns.length cY, .int .i64 lo, .int .i64 hi]) rfl (by kernel_rfl) (by kernel_rfl) (by kernel_rfl) (fun _ _ _ h => h) (Or.inl ⟨by kernel_rfl, fun W hW => exec_loadA W _ _ _ rfl BX _ _ _ _ _ _ _ (by kernel_rfl) hW⟩) hSx ?_
      try simp only [Act.put, List.getElem_toArray, List.getElem_cons_succ, List.getElem_cons_zero, List.setIfInBounds_toArray, List.set_cons_zero, List.set_cons_succ]
      refine wpAnyH_take (i := 6) (v := .agg #[.bool fo, .bool st, .bool ph, .slice aS stops.length cS, .slice aY syns.length cY, .int .i64 lo, .int .i64 hi]) rfl (by kernel_rfl) (by kernel_rfl) (by kernel_rfl) (fun _ _ _ h => h) (Or.inl ⟨by kernel_rfl, fun W hW => exec_loadA W _ _ _ rfl BX _ _ _ _ _ _ _ (by kernel_rfl) hW⟩) hSx ?_
      try simp only [Act.put, List.getElem_toArray, List.getElem_cons_succ, List.getElem_cons_zero, List.setIfInBounds_toArray, List.set_cons_zero, List.set_cons_succ]
      refine wpAnyH_one 5 (by kernel_rfl) ?_
      refine wpOp_call 8 #[.agg #[.bool fo, .bool st, .bool ph, .slice aS stops.length cS, .slice aY syns.length cY, .int .i64 lo, .int .i64 hi]] rfl (by kernel_rfl) (exec_call1 _ _ _ _ _ _ rfl _ (by kernel_rfl) (Tryz.call8 _ _)) ?_
      refine (HAI.out _ hB0).mono ?_
      rintro e' wz1 ⟨rfl, hbz1⟩
      have hB1 : Below w4.heap.size w4 wz1 := Below.trans hB0 (hbz1.mono (Below.size hB0))
      have hSz1 := blko HX4.out hB1
      refine ⟨hSz1, ?_⟩
      try simp only [Act.put, List.getElem_toArray, List.getElem_cons_succ, List.getElem_cons_zero, List.setIfInBounds_toArray, List.set_cons_zero, List.set_cons_succ]
      refine wpAnyH_one 7 (by kernel_rfl) ?_
      refine wpOp_call 9 #[.agg #[.bool fo, .bool st, .bool ph, .slice aS stops.length cS, .slice aY syns.length cY, .int .i64 lo, .int .i64 hi]] rfl (by kernel_rfl) (exec_call1 _ _ _ _ _ _ rfl _ (by kernel_rfl) (Tryz.call9 _ _)) ?_
      refine (HAS.out _ hB1).mono ?_
      rintro e' wz2 ⟨rfl, hbz2⟩
      have hB2 : Below w4.heap.size w4 wz2 := Below.trans hB1 (hbz2.mono (Below.size hB1))
      have hSz2 := blko HX4.out hB2
      refine ⟨hSz2, ?_⟩
      try simp only [Act.put, List.getElem_toArray, List.getElem_cons_succ, List.getElem_cons_zero, List.setIfInBounds_toArray, List.set_cons_zero, List.set_cons_succ]
      refine tkX 8 (hS := hSz2) (h := ?_)
      try simp only [Act.put, List.getElem_toArray, List.getElem_cons_succ, List.getElem_cons_zero, List.setIfInBounds_toArray, List.set_cons_zero, List.set_cons_succ]
      refine tkX 9 (hS := hSz2) (h := ?_)
      try simp only [Act.put, List.getElem_toArray, List.getElem_cons_succ, List.getElem_cons_zero, List.setIfInBounds_toArray, List.set_cons_zero, List.set_cons_succ]
      refine wpAnyH_done (by kernel_rfl) ?_ _
      clear hSz1 hSz2 hSx hB0 hB1 hbz1 hbz2
      have HBz := hidd hB2
      clear hB2
      go_wp2_with fail
      go_meet
      case rel => exact ⟨rfl, HBz.out⟩
    case rest =>
      obtain ⟨rfl, hb5⟩ := hcut
      have HX5 := hidd (blko HX4.out hb5)
      have HS5 := hidd (HS4.out.below hb5)
      have HY5 := hidd (HY4.out.below hb5)
      have HT5 := hidd (HT4.out.below hb5)
      have HO5 := hidd (ownG_heap HO4.out (fun g e hl => hb5.block g hl))
      have HB5 : Hid (Below w.heap.size w wc) := HB4.out.trans (hb5.mono HB4.out.size)
      have HBX5 : Hid (w.heap.size ≤ BX ∧ BX < wc.heap.size) := ⟨HBX4.out.1, Nat.lt_of_lt_of_le HBX4.out.2 hb5.size⟩
      clear hb5 HX4 HS4 HY4 HT4 HO4 HB4 HBX4 HAI HAS
      by_cases hC : C = 0
      · subst hC
        obtain ⟨hsz, hok, hbr⟩ := anOf_ok (show (anOf fo st ph stops syns lo hi t).2 = 0 by rw [HLC.out])
        obtain ⟨hgood, hpair⟩ := anOf_good fo st ph stops syns lo hi t
        rw [HLC.out] at hgood hpair
        have HGd := hidd hgood
        have HPr := hidd hpair
        have HOk := hidd hok
        have HBr := hidd hbr
        clear hgood hpair hok hbr
        obtain ⟨aL, cL, rfl, hRL⟩ := tkRow_own HO5.out
        have HRL := hidd hRL
        clear hRL HO5
        go_upto_region 12 with (go_at_call 10; refine (specBreak_any t wc (by omega)).mono ?_; rintro e w6 ⟨v9, rfl, ho6, hb6⟩)
        obtain ⟨aW, cW, rfl, hRW⟩ := tkRow_own ho6
        have HRW := hidd hRW
        rw [HBr.out]
        have HRL6 := hidd (HRL.out.below hb6)
        have HX6 := hidd (blko HX5.out hb6)
        have HS6 := hidd (HS5.out.below hb6)
        have HT6 := hidd (HT5.out.below hb6)
        have HB6 : Hid (Below w.heap.size w w6) := HB5.out.trans (hb6.mono HB5.out.size)
        have HBX6 : Hid (w.heap.size ≤ BX ∧ BX < w6.heap.size) := ⟨HBX5.out.1, Nat.lt_of_lt_of_le HBX5.out.2 hb6.size⟩
        have hWl := brkList_len t
        have hLl : L.length ≤ 8192 := by have := anOf_len8 fo st ph stops syns lo hi t; rw [HLC.out] at this; exact this
        clear ho6 hb6 hRW HRL HX5 HS5 HY5 HT5 HB5 HBX5
        generalize hWs : brkList t = WS at *
        go_loopw [11] (fun iv wx => ∃ k : Nat, iv = .int .i64 (k : Int) ∧ k ≤ L.length ∧ Below w6.heap.size w6 wx) (fun iv _ => L.length - (intOf iv).toNat)
        case atStart => exact ⟨0, rfl, by omega, Below.refl _ _⟩
        case round =>
          obtain ⟨k, rfl, hk, hbr6⟩ := hrel
          have HBr6 := hidd hbr6
          clear hbr6
          by_cases hkl : k < L.length
          · have hkz : (k : Int) < (L.length : Int) := by omega
            obtain ⟨g, hg0, hg1, q0, q1, q2, q3⟩ := (HRL6.out.below HBr6.out) k hkl
            subst hg0
            have hmem : L.getD k tk0 ∈ L := by
              rw [List.getD_eq_getElem?_getD, List.getElem?_eq_getElem hkl, Option.getD_some]
              exact List.getElem_mem _
            have hgd := HGd.out _ hmem
            have HPv : Hid (0 < k → (L.getD (k - 1) tk0).2.1 ≤ (L.getD k tk0).2.1) := fun h0 => by
              have q := List.pairwise_iff_getElem.1 HPr.out (k - 1) k (by omega) hkl (by omega)
              have ek : L.getD k tk0 = L[k] := by rw [List.getD_eq_getElem?_getD, List.getElem?_eq_getElem hkl, Option.getD_some]
              have ek1 : L.getD (k - 1) tk0 = L[k - 1]'(by omega) := by rw [List.getD_eq_getElem?_getD, List.getElem?_eq_getElem (by omega : k - 1 < L.length), Option.getD_some]
              rw [ek, ek1]
              exact q
            obtain ⟨⟨T, P, F, E⟩, htk⟩ : ∃ x, L.getD k tk0 = x := ⟨_, rfl⟩
            rw [htk] at q0 q1 q2 q3 hgd HPv
            dsimp only at q0 q1 q2 q3
            obtain ⟨hP, hPe, hT64⟩ := hgd
            dsimp only at hP hPe hT64
            obtain ⟨gW, hW0, hW1, p0, p1, p2, p3⟩ := (HRW.out.below HBr6.out) P hP
            rw [← hPe] at p1 p2 p3
            dsimp only at p1 p2 p3
            subst hW0
            clear p0 p1 htk hmem hPe
            go_upto_region 15 with fail
            have hb7 : Below wr.heap.size wr (wr.alloc (.cells #[.string ⟨T.toArray⟩, .int .i64 (P : Int), .int .i64 (F : Int), .int .i64 (E : Int)] 35)) := (Below.refl _ _).alloc (Nat.le_refl _) _
            have hn7 : (wr.alloc (.cells #[.string ⟨T.toArray⟩, .int .i64 (P : Int), .int .i64 (F : Int), .int .i64 (E : Int)] 35)).heap[wr.heap.size]? = some (.cells #[.string ⟨T.toArray⟩, .int .i64 (P : Int), .int .i64 (F : Int), .int .i64 (E : Int)] 35) := heap_alloc_new _ _
            have e0 : (wr.alloc (.cells #[.string ⟨T.toArray⟩, .int .i64 (P : Int), .int .i64 (F : Int), .int .i64 (E : Int)] 35)).cell? ⟨wr.heap.size, 0, none⟩ = some (.string ⟨T.toArray⟩) := blkc hn7 0
            have e1 : (wr.alloc (.cells #[.string ⟨T.toArray⟩, .int .i64 (P : Int), .int .i64 (F : Int), .int .i64 (E : Int)] 35)).cell? ⟨wr.heap.size, 1, none⟩ = some (.int .i64 (P : Int)) := blkc hn7 1
            have e2 : (wr.alloc (.cells #[.string ⟨T.toArray⟩, .int .i64 (P : Int), .int .i64 (F : Int), .int .i64 (E : Int)] 35)).cell? ⟨wr.heap.size, 2, none⟩ = some (.int .i64 (F : Int)) := blkc hn7 2
            have e3 : (wr.alloc (.cells #[.string ⟨T.toArray⟩, .int .i64 (P : Int), .int .i64 (F : Int), .int .i64 (E : Int)] 35)).cell? ⟨wr.heap.size, 3, none⟩ = some (.int .i64 (E : Int)) := blkc hn7 3
            have p2' := (hb7.cell (p := ⟨gW, P * 4 + 2, none⟩) hW1).trans p2
            have p3' := (hb7.cell (p := ⟨gW, P * 4 + 3, none⟩) hW1).trans p3
            have HB7 : Hid (Below w6.heap.size w6 (wr.alloc (.cells #[.string ⟨T.toArray⟩, .int .i64 (P : Int), .int .i64 (F : Int), .int .i64 (E : Int)] 35))) := HBr6.out.trans (hb7.mono HBr6.out.size)
            have HL7 := hidd ((HRL6.out.below HBr6.out).below hb7)
            clear q0 q1 q2 q3 p2 p3 hb7 hn7 hW1 hg1
            generalize wr.alloc (.cells #[.string ⟨T.toArray⟩, .int .i64 (P : Int), .int .i64 (F : Int), .int .i64 (E : Int)] 35) = w7 at *
            generalize wr.heap.size = TB at *
            have hP0 : ¬ ((P : Int) < 0) := by omega
            have hP1 : (0 : Int) ≤ (P : Int) := by omega
            have hPl : ¬ ((WS.length : Int) ≤ (P : Int)) := by omega
            have hPi : (P : Int) < (WS.length : Int) := by omega
            have hTz : ¬ ((64 : Int) < (T.length : Int)) := by omega
            go_cut [122] (fun v wy => v = .bool false ∧ Below w7.heap.size w7 wy)
            case first =>
              by_cases hk0 : 0 < k
              · obtain ⟨k', rfl⟩ : ∃ k', k = k' + 1 := ⟨k - 1, by omega⟩
                as_aux_lemma =>
                  obtain ⟨g', hg', _, _, r1, _, _⟩ := HL7.out k' (by omega)
                  cases hg'
                  have hpp := HPv.out (by omega)
                  dsimp only at hpp
                  rw [show k' + 1 - 1 = k' by omega] at hpp
                  generalize (L.getD k' tk0).2.1 = P' at *
                  have hPP : ¬ ((P : Int) < (P' : Int)) := by omega
                  have hkk : (0 : Int) < ((k' + 1 : Nat) : Int) := by omega
                  have hk1 : (k' : Int) < (L.length : Int) := by omega
                  have hk2 : (0 : Int) ≤ (k' : Int) := by omega
                  have hk3 : k' < L.length := by omega
                  rw [show ((k' + 1 : Nat) : Int) = (k' : Int) + 1 by omega]
                  have hkk2 : (0 : Int) < (k' : Int) + 1 := by omega
                  clear HPv HL7
                  refine wp_region_held (S := fun w' => w'.cell? ⟨TB, 0, none⟩ = some (.string ⟨T.toArray⟩) ∧ w'.cell? ⟨TB, 1, none⟩ = some (.int .i64 (P : Int)) ∧ w'.cell? ⟨TB, 2, none⟩ = some (.int .i64 (F : Int)) ∧ w'.cell? ⟨TB, 3, none⟩ = some (.int .i64 (E : Int)) ∧ w'.cell? ⟨gW, P * 4 + 2, none⟩ = some (.int .i64 (F : Int)) ∧ w'.cell? ⟨gW, P * 4 + 3, none⟩ = some (.int .i64 (E : Int)) ∧ w'.cell? ⟨g, k' * 4 + 1, none⟩ = some (.int .i64 (P' : Int))) (by kernel_rfl) ?_
                  have hB0 : Below w7.heap.size w7 ({ heap := w7.heap, tape := w7.tape, drawn := w7.drawn + 1, os := w7.os, output := w7.output } : World) := below_drewN (Below.refl _ _) 1
                  generalize ({ heap := w7.heap, tape := w7.tape, drawn := w7.drawn + 1, os := w7.os, output := w7.output } : World) = wd at *
                  have hSx : wd.cell? ⟨TB, 0, none⟩ = some (.string ⟨T.toArray⟩) ∧ wd.cell? ⟨TB, 1, none⟩ = some (.int .i64 (P : Int)) ∧ wd.cell? ⟨TB, 2, none⟩ = some (.int .i64 (F : Int)) ∧ wd.cell? ⟨TB, 3, none⟩ = some (.int .i64 (E : Int)) ∧ wd.cell? ⟨gW, P * 4 + 2, none⟩ = some (.int .i64 (F : Int)) ∧ wd.cell? ⟨gW, P * 4 + 3, none⟩ = some (.int .i64 (E : Int)) ∧ wd.cell? ⟨g, k' * 4 + 1, none⟩ = some (.int .i64 (P' : Int)) := ⟨(hB0.cell (p := ⟨TB, 0, none⟩) (cell_lt e0)).trans e0, (hB0.cell (p := ⟨TB, 1, none⟩) (cell_lt e1)).trans e1, (hB0.cell (p := ⟨TB, 2, none⟩) (cell_lt e2)).trans e2, (hB0.cell (p := ⟨TB, 3, none⟩) (cell_lt e3)).trans e3, (hB0.cell (p := ⟨gW, P * 4 + 2, none⟩) (cell_lt p2')).trans p2', (hB0.cell (p := ⟨gW, P * 4 + 3, none⟩) (cell_lt p3')).trans p3', (hB0.cell (p := ⟨g, k' * 4 + 1, none⟩) (cell_lt r1)).trans r1⟩
                  have HBd := hidd hB0
                  clear hB0
                  try simp only [Act.put, List.getElem_toArray, List.getElem_cons_succ, List.getElem_cons_zero, List.setIfInBounds_toArray, List.set_cons_zero, List.set_cons_succ]
                  refine tkX 0 (hS := hSx) (h := ?_)
                  try simp only [Act.put, List.getElem_toArray, List.getElem_cons_succ, List.getElem_cons_zero, List.setIfInBounds_toArray, List.set_cons_zero, List.set_cons_succ]
                  refine tkX 1 (hS := hSx) (h := ?_)
                  try simp only [Act.put, List.getElem_toArray, List.getElem_cons_succ, List.getElem_cons_zero, List.setIfInBounds_toArray, List.set_cons_zero, List.set_cons_succ]
                  refine wpAnyH_take (i := 2) (v := .bool false) rfl (by kernel_rfl) (by kernel_rfl) (by kernel_rfl) (fun _ _ _ h => h) (Or.inl ⟨by kernel_rfl, ?_⟩) hSx ?_
                  · (intro w hSw; (try dsimp only at hSw); go_simp; first | done | omega | (simp; omega) | exact w64_of (by omega) (by omega))
                  try simp only [Act.put, List.getElem_toArray, List.getElem_cons_succ, List.getElem_cons_zero, List.setIfInBounds_toArray, List.set_cons_zero, List.set_cons_succ]
                  refine tkX 3 (hS := hSx) (h := ?_)
                  refine tkX 4 (hS := hSx) (h := ?_)
                  try simp only [Act.put, List.getElem_toArray, List.getElem_cons_succ, List.getElem_cons_zero, List.setIfInBounds_toArray, List.set_cons_zero, List.set_cons_succ]
                  refine tkX 5 (hS := hSx) (h := ?_)
                  refine tkX 6 (hS := hSx) (h := ?_)
                  refine tkX 7 (hS := hSx) (h := ?_)
                  try simp only [Act.put, List.getElem_toArray, List.getElem_cons_succ, List.getElem_cons_zero, List.setIfInBounds_toArray, List.set_cons_zero, List.set_cons_succ]
                  refine wpAnyH_take (i := 8) (v := .bool false) rfl (by kernel_rfl) (by kernel_rfl) (by kernel_rfl) (fun _ _ _ h => h) (Or.inl ⟨by kernel_rfl, ?_⟩) hSx ?_
                  · (intro w hSw; (try dsimp only at hSw); go_simp; first | done | omega | (simp; omega) | exact w64_of (by omega) (by omega))
                  try simp only [Act.put, List.getElem_toArray, List.getElem_cons_succ, List.getElem_cons_zero, List.setIfInBounds_toArray, List.set_cons_zero, List.set_cons_succ]
                  refine tkX 9 (hS := hSx) (h := ?_)
                  refine tkX 10 (hS := hSx) (h := ?_)
                  refine tkX 11 (hS := hSx) (h := ?_)
                  refine tkX 12 (hS := hSx) (h := ?_)
                  try simp only [Act.put, List.getElem_toArray, List.getElem_cons_succ, List.getElem_cons_zero, List.setIfInBounds_toArray, List.set_cons_zero, List.set_cons_succ]
                  refine tkX 13 (hS := hSx) (h := ?_)
                  try simp only [Act.put, List.getElem_toArray, List.getElem_cons_succ, List.getElem_cons_zero, List.setIfInBounds_toArray, List.set_cons_zero, List.set_cons_succ]
                  refine wpAnyH_take (i := 14) (v := .pointer (some ⟨gW, P * 4, none⟩)) rfl (by kernel_rfl) (by kernel_rfl) (by kernel_rfl) (fun _ _ _ h => h) (Or.inl ⟨by kernel_rfl, fun W hW => exec_indexT W _ _ _ _ rfl gW P WS.length cW (by kernel_rfl) (by kernel_rfl) (by omega)⟩) hSx ?_
                  try simp only [Act.put, List.getElem_toArray, List.getElem_cons_succ, List.getElem_cons_zero, List.setIfInBounds_toArray, List.set_cons_zero, List.set_cons_succ]
                  refine tkX 15 (hS := hSx) (h := ?_)
                  refine tkX 16 (hS := hSx) (h := ?_)
                  try simp only [Act.put, List.getElem_toArray, List.getElem_cons_succ, List.getElem_cons_zero, List.setIfInBounds_toArray, List.set_cons_zero, List.set_cons_succ]
                  refine tkX 17 (hS := hSx) (h := ?_)
                  refine tkX 18 (hS := hSx) (h := ?_)
                  try simp only [Act.put, List.getElem_toArray, List.getElem_cons_succ, List.getElem_cons_zero, List.setIfInBounds_toArray, List.set_cons_zero, List.set_cons_succ]
                  refine wpAnyH_take (i := 19) (v := .bool false) rfl (by kernel_rfl) (by kernel_rfl) (by kernel_rfl) (fun _ _ _ h => h) (Or.inl ⟨by kernel_rfl, ?_⟩) hSx ?_
                  · (intro w hSw; (try dsimp only at hSw); go_simp; first | done | omega | (simp; omega) | exact w64_of (by omega) (by omega))
                  try simp only [Act.put, List.getElem_toArray, List.getElem_cons_succ, List.getElem_cons_zero, List.setIfInBounds_toArray, List.set_cons_zero, List.set_cons_succ]
                  refine tkX 20 (hS := hSx) (h := ?_)
                  try simp only [Act.put, List.getElem_toArray, List.getElem_cons_succ, List.getElem_cons_zero, List.setIfInBounds_toArray, List.set_cons_zero, List.set_cons_succ]
                  refine tkX 21 (hS := hSx) (h := ?_)
                  refine tkX 22 (hS := hSx) (h := ?_)
                  refine tkX 23 (hS := hSx) (h := ?_)
                  refine tkX 24 (hS := hSx) (h := ?_)
                  try simp only [Act.put, List.getElem_toArray, List.getElem_cons_succ, List.getElem_cons_zero, List.setIfInBounds_toArray, List.set_cons_zero, List.set_cons_succ]
                  try simp only [Act.put, List.getElem_toArray, List.getElem_cons_succ, List.getElem_cons_zero, List.setIfInBounds_toArray, List.set_cons_zero, List.set_cons_succ]
                  refine wpAnyH_take (i := 25) (v := .pointer (some ⟨gW, P * 4, none⟩)) rfl (by kernel_rfl) (by kernel_rfl) (by kernel_rfl) (fun _ _ _ h => h) (Or.inl ⟨by kernel_rfl, fun W hW => exec_indexT W _ _ _ _ rfl gW P WS.length cW (by kernel_rfl) (by kernel_rfl) (by omega)⟩) hSx ?_
                  try simp only [Act.put, List.getElem_toArray, List.getElem_cons_succ, List.getElem_cons_zero, List.setIfInBounds_toArray, List.set_cons_zero, List.set_cons_succ]
                  refine tkX 26 (hS := hSx) (h := ?_)
                  refine tkX 27 (hS := hSx) (h := ?_)
                  refine tkX 28 (hS := hSx) (h := ?_)
                  try simp only [Act.put, List.getElem_toArray, List.getElem_cons_succ, List.getElem_cons_zero, List.setIfInBounds_toArray, List.set_cons_zero, List.set_cons_succ]
                  refine tkX 29 (hS := hSx) (h := ?_)
                  try simp only [Act.put, List.getElem_toArray, List.getElem_cons_succ, List.getElem_cons_zero, List.setIfInBounds_toArray, List.set_cons_zero, List.set_cons_succ]
                  refine wpAnyH_take (i := 30) (v := .bool false) rfl (by kernel_rfl) (by kernel_rfl) (by kernel_rfl) (fun _ _ _ h => h) (Or.inl ⟨by kernel_rfl, ?_⟩) hSx ?_
                  · (intro w hSw; (try dsimp only at hSw); go_simp; first | done | omega | (simp; omega) | exact w64_of (by omega) (by omega))
                  try simp only [Act.put, List.getElem_toArray, List.getElem_cons_succ, List.getElem_cons_zero, List.setIfInBounds_toArray, List.set_cons_zero, List.set_cons_succ]
                  refine tkX 31 (hS := hSx) (h := ?_)
                  refine tkX 32 (hS := hSx) (h := ?_)
                  try simp only [Act.put, List.getElem_toArray, List.getElem_cons_succ, List.getElem_cons_zero, List.setIfInBounds_toArray, List.set_cons_zero, List.set_cons_succ]
                  refine tkX 33 (hS := hSx) (h := ?_)
                  try simp only [Act.put, List.getElem_toArray, List.getElem_cons_succ, List.getElem_cons_zero, List.setIfInBounds_toArray, List.set_cons_zero, List.set_cons_succ]
                  refine wpAnyH_take (i := 34) (v := .bool true) rfl (by kernel_rfl) (by kernel_rfl) (by kernel_rfl) (fun _ _ _ h => h) (Or.inl ⟨by kernel_rfl, ?_⟩) hSx ?_
                  · (intro w hSw; (try dsimp only at hSw); go_simp; first | done | omega | (simp; omega) | exact w64_of (by omega) (by omega))
                  try simp only [Act.put, List.getElem_toArray, List.getElem_cons_succ, List.getElem_cons_zero, List.setIfInBounds_toArray, List.set_cons_zero, List.set_cons_succ]
                  refine tkX 35 (hS := hSx) (h := ?_)
                  refine tkX 36 (hS := hSx) (h := ?_)
                  try simp only [Act.put, List.getElem_toArray, List.getElem_cons_succ, List.getElem_cons_zero, List.setIfInBounds_toArray, List.set_cons_zero, List.set_cons_succ]
                  refine tkX 37 (hS := hSx) (h := ?_)
                  refine tkX 38 (hS := hSx) (h := ?_)
                  refine tkX 39 (hS := hSx) (h := ?_)
                  try simp only [Act.put, List.getElem_toArray, List.getElem_cons_succ, List.getElem_cons_zero, List.setIfInBounds_toArray, List.set_cons_zero, List.set_cons_succ]
                  refine wpAnyH_take (i := 40) (v := .int .i64 (k' : Int)) rfl (by kernel_rfl) (by kernel_rfl) (by kernel_rfl) (fun _ _ _ h => h) (Or.inl ⟨by kernel_rfl, ?_⟩) hSx ?_
                  · (intro w hSw; (try dsimp only at hSw); go_simp; first | done | omega | (simp; omega) | exact w64_of (by omega) (by omega))
                  try simp only [Act.put, List.getElem_toArray, List.getElem_cons_succ, List.getElem_cons_zero, List.setIfInBounds_toArray, List.set_cons_zero, List.set_cons_succ]
                  try simp only [Act.put, List.getElem_toArray, List.getElem_cons_succ, List.getElem_cons_zero, List.setIfInBounds_toArray, List.set_cons_zero, List.set_cons_succ]
                  refine wpAnyH_take (i := 41) (v := .pointer (some ⟨g, k' * 4, none⟩)) rfl (by kernel_rfl) (by kernel_rfl) (by kernel_rfl) (fun _ _ _ h => h) (Or.inl ⟨by kernel_rfl, fun W hW => exec_indexT W _ _ _ _ rfl g k' L.length cL (by kernel_rfl) (by kernel_rfl) (by omega)⟩) hSx ?_
                  try simp only [Act.put, List.getElem_toArray, List.getElem_cons_succ, List.getElem_cons_zero, List.setIfInBounds_toArray, List.set_cons_zero, List.set_cons_succ]
                  refine tkX 42 (hS := hSx) (h := ?_)
                  refine tkX 43 (hS := hSx) (h := ?_)
                  try simp only [Act.put, List.getElem_toArray, List.getElem_cons_succ, List.getElem_cons_zero, List.setIfInBounds_toArray, List.set_cons_zero, List.set_cons_succ]
                  refine wpAnyH_take (i := 44) (v := .bool false) rfl (by kernel_rfl) (by kernel_rfl) (by kernel_rfl) (fun _ _ _ h => h) (Or.inl ⟨by kernel_rfl, ?_⟩) hSx ?_
                  · (intro w hSw; (try dsimp only at hSw); go_simp; first | done | omega | (simp; omega) | exact w64_of (by omega) (by omega))
                  try simp only [Act.put, List.getElem_toArray, List.getElem_cons_succ, List.getElem_cons_zero, List.setIfInBounds_toArray, List.set_cons_zero, List.set_cons_succ]
                  refine tkX 45 (hS := hSx) (h := ?_)
                  refine tkX 46 (hS := hSx) (h := ?_)
                  refine tkX 47 (hS := hSx) (h := ?_)
                  refine tkX 48 (hS := hSx) (h := ?_)
                  try simp only [Act.put, List.getElem_toArray, List.getElem_cons_succ, List.getElem_cons_zero, List.setIfInBounds_toArray, List.set_cons_zero, List.set_cons_succ]
                  refine tkX 49 (hS := hSx) (h := ?_)
                  refine tkX 50 (hS := hSx) (h := ?_)
                  try simp only [Act.put, List.getElem_toArray, List.getElem_cons_succ, List.getElem_cons_zero, List.setIfInBounds_toArray, List.set_cons_zero, List.set_cons_succ]
                  refine wpAnyH_take (i := 51) (v := .bool false) rfl (by kernel_rfl) (by kernel_rfl) (by kernel_rfl) (fun _ _ _ h => h) (Or.inl ⟨by kernel_rfl, ?_⟩) hSx ?_
                  · (intro w hSw; (try dsimp only at hSw); go_simp; first | done | omega | (simp; omega) | exact w64_of (by omega) (by omega))
                  try simp only [Act.put, List.getElem_toArray, List.getElem_cons_succ, List.getElem_cons_zero, List.setIfInBounds_toArray, List.set_cons_zero, List.set_cons_succ]
                  refine tkX 52 (hS := hSx) (h := ?_)
                  try simp only [Act.put, List.getElem_toArray, List.getElem_cons_succ, List.getElem_cons_zero, List.setIfInBounds_toArray, List.set_cons_zero, List.set_cons_succ]
                  try simp only [Act.put, List.getElem_toArray, List.getElem_cons_succ, List.getElem_cons_zero, List.setIfInBounds_toArray, List.set_cons_zero, List.set_cons_succ]
                  refine wpAnyH_done (by kernel_rfl) ?_ _
                  clear hSx
                  go_wp2_with fail
                  go_meet
                  case rel => exact ⟨rfl, HBd.out⟩
              · have hk00 : ¬ ((0 : Int) < (k : Int)) := by omega
                as_aux_lemma =>
                  clear HPv HL7
                  refine wp_region_held (S := fun w' => w'.cell? ⟨TB, 0, none⟩ = some (.string ⟨T.toArray⟩) ∧ w'.cell? ⟨TB, 1, none⟩ = some (.int .i64 (P : Int)) ∧ w'.cell? ⟨TB, 2, none⟩ = some (.int .i64 (F : Int)) ∧ w'.cell? ⟨TB, 3, none⟩ = some (.int .i64 (E : Int)) ∧ w'.cell? ⟨gW, P * 4 + 2, none⟩ = some (.int .i64 (F : Int)) ∧ w'.cell? ⟨gW, P * 4 + 3, none⟩ = some (.int .i64 (E : Int))) (by kernel_rfl) ?_
                  have hB0 : Below w7.heap.size w7 ({ heap := w7.heap, tape := w7.tape, drawn := w7.drawn + 1, os := w7.os, output := w7.output } : World) := below_drewN (Below.refl _ _) 1
                  generalize ({ heap := w7.heap, tape := w7.tape, drawn := w7.drawn + 1, os := w7.os, output := w7.output } : World) = wd at *
                  have hSx : wd.cell? ⟨TB, 0, none⟩ = some (.string ⟨T.toArray⟩) ∧ wd.cell? ⟨TB, 1, none⟩ = some (.int .i64 (P : Int)) ∧ wd.cell? ⟨TB, 2, none⟩ = some (.int .i64 (F : Int)) ∧ wd.cell? ⟨TB, 3, none⟩ = some (.int .i64 (E : Int)) ∧ wd.cell? ⟨gW, P * 4 + 2, none⟩ = some (.int .i64 (F : Int)) ∧ wd.cell? ⟨gW, P * 4 + 3, none⟩ = some (.int .i64 (E : Int)) := ⟨(hB0.cell (p := ⟨TB, 0, none⟩) (cell_lt e0)).trans e0, (hB0.cell (p := ⟨TB, 1, none⟩) (cell_lt e1)).trans e1, (hB0.cell (p := ⟨TB, 2, none⟩) (cell_lt e2)).trans e2, (hB0.cell (p := ⟨TB, 3, none⟩) (cell_lt e3)).trans e3, (hB0.cell (p := ⟨gW, P * 4 + 2, none⟩) (cell_lt p2')).trans p2', (hB0.cell (p := ⟨gW, P * 4 + 3, none⟩) (cell_lt p3')).trans p3'⟩
                  have HBd := hidd hB0
                  clear hB0
                  try simp only [Act.put, List.getElem_toArray, List.getElem_cons_succ, List.getElem_cons_zero, List.setIfInBounds_toArray, List.set_cons_zero, List.set_cons_succ]
                  refine tkX 0 (hS := hSx) (h := ?_)
                  try simp only [Act.put, List.getElem_toArray, List.getElem_cons_succ, List.getElem_cons_zero, List.setIfInBounds_toArray, List.set_cons_zero, List.set_cons_succ]
                  refine tkX 1 (hS := hSx) (h := ?_)
                  try simp only [Act.put, List.getElem_toArray, List.getElem_cons_succ, List.getElem_cons_zero, List.setIfInBounds_toArray, List.set_cons_zero, List.set_cons_succ]
                  refine wpAnyH_take (i := 2) (v := .bool false) rfl (by kernel_rfl) (by kernel_rfl) (by kernel_rfl) (fun _ _ _ h => h) (Or.inl ⟨by kernel_rfl, ?_⟩) hSx ?_
                  · (intro w hSw; (try dsimp only at hSw); go_simp; first | done | omega | (simp; omega) | exact w64_of (by omega) (by omega))
                  try simp only [Act.put, List.getElem_toArray, List.getElem_cons_succ, List.getElem_cons_zero, List.setIfInBounds_toArray, List.set_cons_zero, List.set_cons_succ]
                  refine tkX 3 (hS := hSx) (h := ?_)
                  refine tkX 4 (hS := hSx) (h := ?_)
                  try simp only [Act.put, List.getElem_toArray, List.getElem_cons_succ, List.getElem_cons_zero, List.setIfInBounds_toArray, List.set_cons_zero, List.set_cons_succ]
                  refine tkX 5 (hS := hSx) (h := ?_)
                  refine tkX 6 (hS := hSx) (h := ?_)
                  refine tkX 7 (hS := hSx) (h := ?_)
                  try simp only [Act.put, List.getElem_toArray, List.getElem_cons_succ, List.getElem_cons_zero, List.setIfInBounds_toArray, List.set_cons_zero, List.set_cons_succ]
                  refine wpAnyH_take (i := 8) (v := .bool false) rfl (by kernel_rfl) (by kernel_rfl) (by kernel_rfl) (fun _ _ _ h => h) (Or.inl ⟨by kernel_rfl, ?_⟩) hSx ?_
                  · (intro w hSw; (try dsimp only at hSw); go_simp; first | done | omega | (simp; omega) | exact w64_of (by omega) (by omega))
                  try simp only [Act.put, List.getElem_toArray, List.getElem_cons_succ, List.getElem_cons_zero, List.setIfInBounds_toArray, List.set_cons_zero, List.set_cons_succ]
                  refine tkX 9 (hS := hSx) (h := ?_)
                  refine tkX 10 (hS := hSx) (h := ?_)
                  refine tkX 11 (hS := hSx) (h := ?_)
                  refine tkX 12 (hS := hSx) (h := ?_)
                  try simp only [Act.put, List.getElem_toArray, List.getElem_cons_succ, List.getElem_cons_zero, List.setIfInBounds_toArray, List.set_cons_zero, List.set_cons_succ]
                  refine tkX 13 (hS := hSx) (h := ?_)
                  try simp only [Act.put, List.getElem_toArray, List.getElem_cons_succ, List.getElem_cons_zero, List.setIfInBounds_toArray, List.set_cons_zero, List.set_cons_succ]
                  refine wpAnyH_take (i := 14) (v := .pointer (some ⟨gW, P * 4, none⟩)) rfl (by kernel_rfl) (by kernel_rfl) (by kernel_rfl) (fun _ _ _ h => h) (Or.inl ⟨by kernel_rfl, fun W hW => exec_indexT W _ _ _ _ rfl gW P WS.length cW (by kernel_rfl) (by kernel_rfl) (by omega)⟩) hSx ?_
                  try simp only [Act.put, List.getElem_toArray, List.getElem_cons_succ, List.getElem_cons_zero, List.setIfInBounds_toArray, List.set_cons_zero, List.set_cons_succ]
                  refine tkX 15 (hS := hSx) (h := ?_)
                  refine tkX 16 (hS := hSx) (h := ?_)
                  try simp only [Act.put, List.getElem_toArray, List.getElem_cons_succ, List.getElem_cons_zero, List.setIfInBounds_toArray, List.set_cons_zero, List.set_cons_succ]
                  refine tkX 17 (hS := hSx) (h := ?_)
                  refine tkX 18 (hS := hSx) (h := ?_)
                  try simp only [Act.put, List.getElem_toArray, List.getElem_cons_succ, List.getElem_cons_zero, List.setIfInBounds_toArray, List.set_cons_zero, List.set_cons_succ]
                  refine wpAnyH_take (i := 19) (v := .bool false) rfl (by kernel_rfl) (by kernel_rfl) (by kernel_rfl) (fun _ _ _ h => h) (Or.inl ⟨by kernel_rfl, ?_⟩) hSx ?_
                  · (intro w hSw; (try dsimp only at hSw); go_simp; first | done | omega | (simp; omega) | exact w64_of (by omega) (by omega))
                  try simp only [Act.put, List.getElem_toArray, List.getElem_cons_succ, List.getElem_cons_zero, List.setIfInBounds_toArray, List.set_cons_zero, List.set_cons_succ]
                  refine tkX 20 (hS := hSx) (h := ?_)
                  try simp only [Act.put, List.getElem_toArray, List.getElem_cons_succ, List.getElem_cons_zero, List.setIfInBounds_toArray, List.set_cons_zero, List.set_cons_succ]
                  refine tkX 21 (hS := hSx) (h := ?_)
                  refine tkX 22 (hS := hSx) (h := ?_)
                  refine tkX 23 (hS := hSx) (h := ?_)
                  refine tkX 24 (hS := hSx) (h := ?_)
                  try simp only [Act.put, List.getElem_toArray, List.getElem_cons_succ, List.getElem_cons_zero, List.setIfInBounds_toArray, List.set_cons_zero, List.set_cons_succ]
                  try simp only [Act.put, List.getElem_toArray, List.getElem_cons_succ, List.getElem_cons_zero, List.setIfInBounds_toArray, List.set_cons_zero, List.set_cons_succ]
                  refine wpAnyH_take (i := 25) (v := .pointer (some ⟨gW, P * 4, none⟩)) rfl (by kernel_rfl) (by kernel_rfl) (by kernel_rfl) (fun _ _ _ h => h) (Or.inl ⟨by kernel_rfl, fun W hW => exec_indexT W _ _ _ _ rfl gW P WS.length cW (by kernel_rfl) (by kernel_rfl) (by omega)⟩) hSx ?_
                  try simp only [Act.put, List.getElem_toArray, List.getElem_cons_succ, List.getElem_cons_zero, List.setIfInBounds_toArray, List.set_cons_zero, List.set_cons_succ]
                  refine tkX 26 (hS := hSx) (h := ?_)
                  refine tkX 27 (hS := hSx) (h := ?_)
                  refine tkX 28 (hS := hSx) (h := ?_)
                  try simp only [Act.put, List.getElem_toArray, List.getElem_cons_succ, List.getElem_cons_zero, List.setIfInBounds_toArray, List.set_cons_zero, List.set_cons_succ]
                  refine tkX 29 (hS := hSx) (h := ?_)
                  try simp only [Act.put, List.getElem_toArray, List.getElem_cons_succ, List.getElem_cons_zero, List.setIfInBounds_toArray, List.set_cons_zero, List.set_cons_succ]
                  refine wpAnyH_take (i := 30) (v := .bool false) rfl (by kernel_rfl) (by kernel_rfl) (by kernel_rfl) (fun _ _ _ h => h) (Or.inl ⟨by kernel_rfl, ?_⟩) hSx ?_
                  · (intro w hSw; (try dsimp only at hSw); go_simp; first | done | omega | (simp; omega) | exact w64_of (by omega) (by omega))
                  try simp only [Act.put, List.getElem_toArray, List.getElem_cons_succ, List.getElem_cons_zero, List.setIfInBounds_toArray, List.set_cons_zero, List.set_cons_succ]
                  refine tkX 31 (hS := hSx) (h := ?_)
                  refine tkX 32 (hS := hSx) (h := ?_)
                  try simp only [Act.put, List.getElem_toArray, List.getElem_cons_succ, List.getElem_cons_zero, List.setIfInBounds_toArray, List.set_cons_zero, List.set_cons_succ]
                  refine tkX 33 (hS := hSx) (h := ?_)
                  try simp only [Act.put, List.getElem_toArray, List.getElem_cons_succ, List.getElem_cons_zero, List.setIfInBounds_toArray, List.set_cons_zero, List.set_cons_succ]
                  refine wpAnyH_take (i := 34) (v := .bool false) rfl (by kernel_rfl) (by kernel_rfl) (by kernel_rfl) (fun _ _ _ h => h) (Or.inl ⟨by kernel_rfl, ?_⟩) hSx ?_
                  · (intro w hSw; (try dsimp only at hSw); go_simp; first | done | omega | (simp; omega) | exact w64_of (by omega) (by omega))
                  try simp only [Act.put, List.getElem_toArray, List.getElem_cons_succ, List.getElem_cons_zero, List.setIfInBounds_toArray, List.set_cons_zero, List.set_cons_succ]
                  refine tkX 35 (hS := hSx) (h := ?_)
                  refine tkS 36 (hS := hSx) (h := ?_)
                  try simp only [Act.put, List.getElem_toArray, List.getElem_cons_succ, List.getElem_cons_zero, List.setIfInBounds_toArray, List.set_cons_zero, List.set_cons_succ]
                  refine tkS 37 (hS := hSx) (h := ?_)
                  refine tkS 38 (hS := hSx) (h := ?_)
                  refine tkS 39 (hS := hSx) (h := ?_)
                  refine tkS 40 (hS := hSx) (h := ?_)
                  try simp only [Act.put, List.getElem_toArray, List.getElem_cons_succ, List.getElem_cons_zero, List.setIfInBounds_toArray, List.set_cons_zero, List.set_cons_succ]
                  refine tkS 41 (hS := hSx) (h := ?_)
                  refine tkS 42 (hS := hSx) (h := ?_)
                  refine tkS 43 (hS := hSx) (h := ?_)
                  refine tkS 44 (hS := hSx) (h := ?_)
                  try simp only [Act.put, List.getElem_toArray, List.getElem_cons_succ, List.getElem_cons_zero, List.setIfInBounds_toArray, List.set_cons_zero, List.set_cons_succ]
                  refine tkX 45 (hS := hSx) (h := ?_)
                  refine tkX 46 (hS := hSx) (h := ?_)
                  refine tkX 47 (hS := hSx) (h := ?_)
                  refine tkX 48 (hS := hSx) (h := ?_)
                  try simp only [Act.put, List.getElem_toArray, List.getElem_cons_succ, List.getElem_cons_zero, List.setIfInBounds_toArray, List.set_cons_zero, List.set_cons_succ]
                  refine tkX 49 (hS := hSx) (h := ?_)
                  refine tkX 50 (hS := hSx) (h := ?_)
                  try simp only [Act.put, List.getElem_toArray, List.getElem_cons_succ, List.getElem_cons_zero, List.setIfInBounds_toArray, List.set_cons_zero, List.set_cons_succ]
                  refine wpAnyH_take (i := 51) (v := .bool false) rfl (by kernel_rfl) (by kernel_rfl) (by kernel_rfl) (fun _ _ _ h => h) (Or.inl ⟨by kernel_rfl, ?_⟩) hSx ?_
                  · (intro w hSw; (try dsimp only at hSw); go_simp; first | done | omega | (simp; omega) | exact w64_of (by omega) (by omega))
                  try simp only [Act.put, List.getElem_toArray, List.getElem_cons_succ, List.getElem_cons_zero, List.setIfInBounds_toArray, List.set_cons_zero, List.set_cons_succ]
                  refine tkX 52 (hS := hSx) (h := ?_)
                  try simp only [Act.put, List.getElem_toArray, List.getElem_cons_succ, List.getElem_cons_zero, List.setIfInBounds_toArray, List.set_cons_zero, List.set_cons_succ]
                  try simp only [Act.put, List.getElem_toArray, List.getElem_cons_succ, List.getElem_cons_zero, List.setIfInBounds_toArray, List.set_cons_zero, List.set_cons_succ]
                  refine wpAnyH_done (by kernel_rfl) ?_ _
                  clear hSx
                  go_wp2_with fail
                  go_meet
                  case rel => exact ⟨rfl, HBd.out⟩
            case rest =>
              obtain ⟨rfl, hbc⟩ := hcut
              have HBc := hidd (HB7.out.trans (hbc.mono HB7.out.size))
              clear hbc
              go_wp2_with fail
              go_roundw
              case rel => exact ⟨k + 1, by go_num, by omega, HBc.out⟩
              case measure => simp [intOf]; omega
          · have hkz : ¬ (k : Int) < (L.length : Int) := by omega
            as_aux_lemma =>
              go_upto_region 20 with fail
              clear hkz hkl HRL6 HGd HPr
              go_loopw [13] (fun iv wx => ∃ r : Nat, iv = .int .i64 (r : Int) ∧ r ≤ 2 ∧ Below w6.heap.size w6 wx) (fun iv _ => 2 - (intOf iv).toNat)
              case atStart => exact ⟨0, rfl, by omega, HBr6.out⟩
              case round =>
                obtain ⟨r, rfl, hr, hbr7⟩ := hrel
                have HB7 := hidd hbr7
                clear hbr7 HBr6
                by_cases hr2 : r < 2
                · have hrz : (r : Int) < 2 := by omega
                  go_upto_if 131 with fail
                  have HN8 : Hid ((wr.alloc (.cells #[.bool true, .bool false, .bool false, .slice none 0 0, .slice none 0 0, .int .i64 0, .int .i64 0] 26)).heap[wr.heap.size]? = some (.cells #[.bool true, .bool false, .bool false, .slice none 0 0, .slice none 0 0, .int .i64 0, .int .i64 0] 26)) := heap_alloc_new _ _
                  have HB8 : Hid (Below w6.heap.size w6 (wr.alloc (.cells #[.bool true, .bool false, .bool false, .slice none 0 0, .slice none 0 0, .int .i64 0, .int .i64 0] 26))) := HB7.out.alloc HB7.out.size _
                  have HZ8 : Hid (w6.heap.size ≤ wr.heap.size ∧ wr.heap.size < (wr.alloc (.cells #[.bool true, .bool false, .bool false, .slice none 0 0, .slice none 0 0, .int .i64 0, .int .i64 0] 26)).heap.size) := ⟨HB7.out.size, by simp⟩
                  generalize wr.alloc (.cells #[.bool true, .bool false, .bool false, .slice none 0 0, .slice none 0 0, .int .i64 0, .int .i64 0] 26) = w8 at *
                  generalize wr.heap.size = OX at *
                  have HS8 := hidd (HS6.out.below HB8.out)
                  have HX8 := hidd (blko HX6.out HB8.out)
                  go_cut [] (fun wy => ∃ (aR : Option Addr) (cR : Nat), wy.heap[OX]? = some (.cells #[.bool true, .bool false, .bool false, .slice aR (stR r stops).length cR, .slice none 0 0, .int .i64 0, .int .i64 0] 26) ∧ HoldS wy aR (stR r stops) ∧ Below w6.heap.size w6 wy)
                  case first =>
                    by_cases hr1 : r = 1
                    · subst hr1
                      have c3 : (w8.alloc (.cells #[] 9)).cell? ⟨BX, 3, none⟩ = some (.slice aS stops.length cS) := blkc (blko HX8.out ((Below.refl _ _).alloc (Nat.le_refl _) _)) 3
                      obtain ⟨i1, hi1, hy0, hy1, hy2⟩ := info_parts Tryz.infoStr2
                      have HO8 : Hid ((w8.alloc (.cells #[] 9)).ownsRow w8.heap.size 9 1 (.slice (some ⟨w8.heap.size, 0, none⟩) 0 0) 0 []) := own_empty w8 _
                      have HSs := hidd (holdS_src (c := cS) (HS8.out.below ((Below.refl _ _).alloc (Nat.le_refl _) (.cells #[] 9))) HCS.out)
                      have hNS := HNS.out.1
                      go_wp2_with (at_builtin; refine wpList_append_any _ rfl _ _ 23 rfl w8.heap.size 9 i1 (.string ⟨#[]⟩) 1 16 Tryz.underlying23 hi1 hy0 hy1 hy2 rfl (by decide) _ _ _ rfl HO8.out _ _ _ _ rfl HSs.out ?c1 ?c2 ?c3 ?_)
                      case c1 => unfold maxLen; omega
                      case c2 => omega
                      case c3 => simp
                      intro v25 w25 hown25 hgrow25
                      have HO25 : Hid (w25.ownsRow w8.heap.size 9 1 v25 stops.length (sCells stops)) := by
                        first
                          | exact hown25
                          | (have q := hown25; rw [Nat.zero_add, List.nil_append] at q; exact q)
                      have hzz := HZ8.out
                      have hN25 : w25.heap[OX]? = _ := (hgrow25.block OX (by simp; omega) (fun e => by have e2 : OX = w8.heap.size := Option.some.inj e; omega)).trans (blko HN8.out ((Below.refl _ _).alloc (Nat.le_refl _) _))
                      have HB25 : Hid (Below w6.heap.size w6 w25) := (HB8.out.alloc HB8.out.size _).grown hgrow25 (by simp; omega) (fun q e => by have e2 : w8.heap.size = q := Option.some.inj e; omega)
                      obtain ⟨aR, nR, cR, rfl⟩ := ownSl HO25.out
                      have hnR : nR = stops.length := by
                        rcases HO25.out.2 with ⟨e1, e2⟩ | ⟨g, c, cur, e1, e2, e3, e4⟩
                        · injection e1 with x1 x2 x3
                          have := sCells_len stops
                          omega
                        · injection e1 with x1 x2 x3
                      subst hnR
                      have c3' : w25.cell? ⟨OX, 3, none⟩ = some (.slice none 0 0) := blkc hN25 3
                      have f3' := blkf hN25 3
                      have HN26 := hidd (blk_setk hN25 3 (.slice aR stops.length cR))
                      have HS26 : Hid (HoldS (w25.setCell ⟨OX, 3, none⟩ (.slice aR stops.length cR)) aR stops) := by
                        have hof := ownOff HO25.out
                        have h0 : HoldS w25 aR stops := by
                          cases aR with
                          | none =>
                            rcases HO25.out.2 with ⟨e1, e2⟩ | ⟨g, c, cur, e1, e2, e3, e4⟩
                            · injection e1 with x1 x2 x3
                              exact Or.inl (List.length_eq_zero_iff.1 x2)
                            · injection e1 with x1; cases x1
                          | some ad =>
                            rcases HO25.out.2 with ⟨e1, e2⟩ | ⟨g, c, cur, e1, e2, e3, e4⟩
                            · injection e1 with x1; cases x1
                            · injection e1 with x1
                              cases x1
                              exact holdS_own HO25.out
                        exact holdS_heap2 h0 (by simp) (fun blk off e _ => heap_set_other _ _ _ _ _ (fun q => hof blk off e (by omega)))
                      clear hown25 hgrow25 hN25 HO25 HSs c3
                      go_wp2_with fail
                      go_meet
                      case rel => exact ⟨aR, cR, HN26.out, HS26.out, HB25.out.setCell (by dsimp only; omega) _⟩
                    · have hr0 : ¬ ((r : Int) = 1) := by omega
                      go_wp2_with fail
                      go_meet
                      case rel => exact ⟨none, 0, by rw [stR, if_neg hr1]; exact HN8.out, by rw [stR, if_neg hr1]; exact Or.inl rfl, HB8.out⟩
                  case rest =>
                    obtain ⟨aR, cR, hox, hSR, hb9⟩ := hcut
                    have HKP : Hid (anOf true false false (stR r stops) [] 0 0 t = (keptT (stR r stops) WS, 0)) := by
                      show _ = _
                      rw [← hWs]
                      refine anOf_fold _ t hsz ?_ HBr.out
                      unfold stR
                      split
                      · exact azOK_part HOk.out
                      · exact azOK_none
                    have HZR : Hid (szS (stR r stops) ∧ (stR r stops).length ≤ 1048576) := by
                      unfold stR
                      split
                      · exact ⟨HZS.out, HNS.out.1⟩
                      · exact ⟨fun k hk => by simp at hk, by simp⟩
                    have HB9 := hidd hb9
                    have HSR := hidd hSR
                    have HT9 := hidd (HT6.out.below hb9)
                    have o0 : wc.cell? ⟨OX, 0, none⟩ = some (.bool true) := blkc hox 0
                    have o1 : wc.cell? ⟨OX, 1, none⟩ = some (.bool false) := blkc hox 1
                    have o2 : wc.cell? ⟨OX, 2, none⟩ = some (.bool false) := blkc hox 2
                    have o3 : wc.cell? ⟨OX, 3, none⟩ = some (.slice aR (stR r stops).length cR) := blkc hox 3
                    have o4 : wc.cell? ⟨OX, 4, none⟩ = some (.slice none 0 0) := blkc hox 4
                    have o5 : wc.cell? ⟨OX, 5, none⟩ = some (.int .i64 0) := blkc hox 5
                    have o6 : wc.cell? ⟨OX, 6, none⟩ = some (.int .i64 0) := blkc hox 6
                    clear hox hSR hb9
                    go_upto_region 28 with (go_at_call 7; refine (implAnalyze_any true false false aR none cR 0 (stR r stops) [] 0 0 t wc HT9.out HSR.out (Or.inl rfl) HZR.out.1 (fun k hk => by simp at hk) HZR.out.2 (by simp) (by omega)).mono ?_; rintro e w10 ⟨v15, rfl, ho10, hb10⟩)
                    rw [HKP.out] at ho10
                    rw [HKP.out, show ((keptT (stR r stops) WS, (0 : Int)) : List Tk × Int).snd = 0 from rfl]
                    obtain ⟨aP, cP, rfl, hRP⟩ := tkRow_own ho10
                    have HRP := hidd hRP
                    have HB10 : Hid (Below w6.heap.size w6 w10) := HB9.out.trans (hb10.mono HB9.out.size)
                    clear ho10 hb10 hRP o0 o1 o2 o3 o4 o5 o6 HSR HT9 HB8 HB9
                    have hKl := keptT_len (stR r stops) WS
                    go_loopw [17, 18] (fun kv iv wx => ∃ i : Nat, iv = .int .i64 (i : Int) ∧ i ≤ WS.length ∧ kv = .int .i64 ((keptT (stR r stops) (WS.take i)).length : Int) ∧ Below w10.heap.size w10 wx) (fun _ iv _ => WS.length - (intOf iv).toNat)
                    case atStart => exact ⟨0, rfl, by omega, rfl, Below.refl _ _⟩
                    case round =>
                      obtain ⟨i, rfl, hi, rfl, hbi⟩ := hrel
                      have HBi := hidd hbi
                      clear hbi
                      by_cases hil : i < WS.length
                      · have hiz : (i : Int) < (WS.length : Int) := by omega
                        obtain ⟨gW, hW0, hW1, p0, p1, p2, p3⟩ := ((HRW.out.below HB10.out).below HBi.out) i hil
                        subst hW0
                        have hok : validB (bs (WS.getD i tk0).1) = true ∧ (bs (WS.getD i tk0).1).size ≤ 65536 := by
                          rw [← hWs] at hil ⊢
                          refine brkList_ok t _ ?_
                          rw [List.getD_eq_getElem?_getD, List.getElem?_eq_getElem hil, Option.getD_some]
                          exact List.getElem_mem _
                        obtain ⟨⟨T, P, F, E⟩, htk⟩ : ∃ x, WS.getD i tk0 = x := ⟨_, rfl⟩
                        rw [htk] at p0 p1 p2 p3 hok
                        dsimp only at p0 p1 p2 p3 hok
                        go_upto_region 31 with (go_at_call 11; refine (specFoldText_any (bs T) wr (by have := hok.2; omega)).mono ?_; rintro e w12 ⟨rfl, hb12⟩)
                        have hdc : decCode (bs T) = 0 := dec_zero hok.2 hok.1
                        have hft : foldText (bs T) = foldL T := by rw [foldText, if_pos hdc]; rfl
                        rw [hdc, hft]
                        have HBw : Hid (Below w10.heap.size w10 w12) := HBi.out.trans (hb12.mono HBi.out.size)
                        have HB12 : Hid (Below w6.heap.size w6 w12) := HB10.out.trans (HBw.out.mono HB10.out.size)
                        have HX12 := hidd (blko HX6.out HB12.out)
                        have HS12 := hidd (HS6.out.below HB12.out)
                        have HKs := hidd (keptT_snoc (stR r stops) WS i hil)
                        have HLe : Hid (leftT (stR r stops) (WS.getD i tk0) = (decide (64 < (foldL T).length) || hasT (stR r stops) (foldL T))) := by
                          show _ = _
                          rw [htk]; rfl
                        have HNum : Hid ((WS.getD i tk0).2.1 = i) := by
                          show _ = _
                          rw [← hWs] at hil ⊢
                          exact brkList_num t i hil
                        rw [htk] at HKs HLe HNum
                        dsimp only at HKs HLe HNum
                        clear hb12 hok hdc hft p0 p1 p2 p3 hW1
                        generalize foldL T = FT at *
                        go_upto_region 33 with fail
                        go_loopw [21, 22] (fun lv jv wx => ∃ j : Nat, jv = .int .i64 (j : Int) ∧ j ≤ (stR r stops).length ∧ lv = .bool (decide (64 < FT.length) || hasT ((stR r stops).take j) FT) ∧ Below w12.heap.size w12 wx) (fun _ jv _ => (stR r stops).length - (intOf jv).toNat)
                        case atStart => exact ⟨0, rfl, by omega, by first | (simp [hasT]; done) | (rw [List.take_zero]; simp [hasT]; omega), Below.refl _ _⟩
                        case round =>
                          obtain ⟨j, rfl, hj, rfl, hbj⟩ := hrel
                          have HBj := hidd hbj
                          clear hbj
                          have c3 : wr.cell? ⟨BX, 3, none⟩ = some (.slice aS stops.length cS) := blkc (blko HX12.out HBj.out) 3
                          by_cases hjl : j < (stR r stops).length
                          · have hr1 : r = 1 := by
                              apply Classical.byContradiction
                              intro h
                              rw [stR, if_neg h] at hjl
                              simp at hjl
                            subst hr1
                            have hjl2 : j < stops.length := hjl
                            have hst : stR 1 stops = stops := rfl
                            have hjz : (j : Int) < (stops.length : Int) := by omega
                            have hNS := HNS.out.1
                            have HSn := hidd (hasT_snoc stops j FT hjl2)
                            obtain ⟨sb, so, hsa, hsl, hsc⟩ : ∃ b off, aS = some ⟨b, off, none⟩ ∧ b < wr.heap.size ∧ ∀ t, t < stops.length → wr.cell? ⟨b, off + t, none⟩ = some (.string (bs (stops.getD t []))) := by
                              rcases HS12.out.below HBj.out with h | h
                              · rw [h] at hjl2; simp at hjl2
                              · exact h
                            subst hsa
                            have s1 := hsc j hjl2
                            clear hsc
                            generalize hLF : (decide (64 < FT.length) || hasT ((stR 1 stops).take j) FT) = lf at *
                            rw [hst] at hLF
                            have HLF := hidd hLF
                            clear hLF hst
                            cases lf with
                            | true =>
                              go_wp2_with fail
                              go_roundw
                              case rel => exact ⟨j + 1, by go_num, hjl2, by rw [show stR 1 stops = stops from rfl, HSn.out, ← Bool.or_assoc, HLF.out]; rfl, HBj.out⟩
                              case measure => show stops.length - _ < stops.length - _; simp [intOf]; omega
                            | false =>
                              go_wp2_with fail
                              go_roundw
                              case rel => exact ⟨j + 1, by go_num, hjl2, by rw [show stR 1 stops = stops from rfl, HSn.out, ← Bool.or_assoc, HLF.out, Bool.false_or, List.getD_eq_getElem?_getD]; simp [hjl2, bs_tl], HBj.out⟩
                              case measure => show stops.length - _ < stops.length - _; simp [intOf]; omega
                          · have HLv : Hid ((decide (64 < FT.length) || hasT ((stR r stops).take j) FT) = leftT (stR r stops) (T, P, F, E)) := by
                              show _ = _
                              rw [List.take_of_length_le (by omega), HLe.out]
                            rw [HLv.out]
                            have HBz : Hid (Below w10.heap.size w10 wr) := HBw.out.trans (HBj.out.mono HBw.out.size)
                            have HKe : Hid (leftT (stR r stops) (T, P, F, E) = false → (keptT (stR r stops) (WS.take i)).length < (keptT (stR r stops) WS).length ∧ (keptT (stR r stops) WS).getD (keptT (stR r stops) (WS.take i)).length tk0 = (FT, P, F, E)) := fun h0 => by
                              have h1 := HKs.out
                              rw [h0] at h1
                              simp only [Bool.false_eq_true, if_false] at h1
                              have h2 := keptT_cut (stR r stops) WS (i + 1)
                              rw [h1] at h2
                              rw [h2]
                              refine ⟨by simp, ?_⟩
                              rw [List.getD_eq_getElem?_getD, List.append_assoc, List.getElem?_append_right (Nat.le_refl _), Nat.sub_self]
                              rfl
                            generalize hLL : leftT (stR r stops) (T, P, F, E) = ll at *
                            have HLL := hidd hLL
                            clear hLL HLv HLe
                            by_cases hjs : j < stops.length
                            · have hr1 : ¬ ((r : Int) = 1) := by
                                intro h
                                have h' : r = 1 := by omega
                                rw [stR, if_pos h'] at hjl
                                exact hjl hjs
                              have hjz : (j : Int) < (stops.length : Int) := by omega
                              cases ll with
                              | true =>
                                go_wp2_with fail
                                go_roundw
                                case rel => exact ⟨i + 1, by go_num, by omega, by rw [HKs.out]; simp, HBz.out⟩
                                case measure => simp [intOf]; omega
                              | false =>
                                obtain ⟨hKlt, hKe⟩ := HKe.out rfl
                                obtain ⟨gP, hP0, hP1, z0, z1, z2, z3⟩ := (HRP.out.below HBz.out) _ hKlt
                                rw [hKe] at z0 z1
                                dsimp only at z0 z1
                                have hPn : P = i := HNum.out
                                subst hPn
                                subst hP0
                                have HKn : Hid ((keptT (stR r stops) (WS.take (P + 1))).length = (keptT (stR r stops) (WS.take P)).length + 1) := by
                                  show _ = _
                                  rw [HKs.out]
                                  simp
                                have hKz : ¬ (((keptT (stR r stops) WS).length : Int) ≤ ((keptT (stR r stops) (WS.take P)).length : Int)) := by omega
                                have hKy : ((keptT (stR r stops) (WS.take P)).length : Int) < ((keptT (stR r stops) WS).length : Int) := by omega
                                clear hKe z2 z3 HKe HKs
                                generalize hKK : (keptT (stR r stops) (WS.take P)).length = KK at *
                                go_wp2_with fail
                                go_roundw
                                case rel => exact ⟨P + 1, by go_num, by omega, by rw [HKn.out]; go_num, HBz.out⟩
                                case measure => simp [intOf]; omega
                            · have hjz : ¬ (j : Int) < (stops.length : Int) := by omega
                              cases ll with
                              | true =>
                                go_wp2_with fail
                                go_roundw
                                case rel => exact ⟨i + 1, by go_num, by omega, by rw [HKs.out]; simp, HBz.out⟩
                                case measure => simp [intOf]; omega
                              | false =>
                                obtain ⟨hKlt, hKe⟩ := HKe.out rfl
                                obtain ⟨gP, hP0, hP1, z0, z1, z2, z3⟩ := (HRP.out.below HBz.out) _ hKlt
                                rw [hKe] at z0 z1
                                dsimp only at z0 z1
                                have hPn : P = i := HNum.out
                                subst hPn
                                subst hP0
                                have HKn : Hid ((keptT (stR r stops) (WS.take (P + 1))).length = (keptT (stR r stops) (WS.take P)).length + 1) := by
                                  show _ = _
                                  rw [HKs.out]
                                  simp
                                have hKz : ¬ (((keptT (stR r stops) WS).length : Int) ≤ ((keptT (stR r stops) (WS.take P)).length : Int)) := by omega
                                have hKy : ((keptT (stR r stops) (WS.take P)).length : Int) < ((keptT (stR r stops) WS).length : Int) := by omega
                                clear hKe z2 z3 HKe HKs
                                generalize hKK : (keptT (stR r stops) (WS.take P)).length = KK at *
                                go_wp2_with fail
                                go_roundw
                                case rel => exact ⟨P + 1, by go_num, by omega, by rw [HKn.out]; go_num, HBz.out⟩
                                case measure => simp [intOf]; omega
                      · have hiz : ¬ (i : Int) < (WS.length : Int) := by omega
                        obtain rfl : i = WS.length := by omega
                        rw [List.take_length]
                        have HBe : Hid (Below w6.heap.size w6 wr) := HB10.out.trans (HBi.out.mono HB10.out.size)
                        go_wp2_with fail
                        refine ⟨⟨r + 1, by go_num, by omega, HBe.out⟩, by simp [intOf]; omega⟩
                · have hrz : ¬ (r : Int) < 2 := by omega
                  go_wp2_with fail
                  go_ret
                  exact ⟨rfl, HB6.out.trans (HB7.out.mono HB6.out.size)⟩
      · go_wp2_with fail
        go_ret
        exact ⟨rfl, HB5.out⟩
end Go.Proofs.YtionicjnoogpjaaGreatDoor
