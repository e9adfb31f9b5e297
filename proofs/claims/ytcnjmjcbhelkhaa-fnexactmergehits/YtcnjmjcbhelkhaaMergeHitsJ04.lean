import Derived.Test.YtcnjmjcbhelkhaaMergeHitsJ03
namespace Go.Proofs.Ytcnjmjcbhelkhaa
open Go Go.RowKit
set_option linter.unusedVariables false
set_option maxRecDepth 100000
set_option linter.unusedSimpArgs false

/-! Hits compared, by the program. -/
set_option maxHeartbeats 4000000 in
theorem skCmp_any (t : ByteArray) (d : Bool) (x y : Int) (w : World) :
    Calls Try.prog 52 #[.agg #[.string t, .bool d], .int .i64 x, .int .i64 y] w fun e w' => e = .returned (.int .i64 (kcM d x y)) ∧ Below w.heap.size w w' := by
  have HB := hidd ((Below.refl w.heap.size w).alloc (Nat.le_refl _) (.cells #[.string t, .bool d] 50))
  go_enter Try.func52, Try.ntmps52
  by_cases h1 : x = y
  · have HC : Hid (kcM d x y = 0) := by show _ = _; rw [kcM, if_pos h1]
    subst h1
    go_wp2_with fail
    go_ret
    exact ⟨by rw [HC.out]; rfl, HB.out⟩
  · have h1b : (x == y) = false := by simpa using h1
    by_cases h2 : x = 1000000000001
    · have HC : Hid (kcM d x y = 1) := by show _ = _; rw [kcM, if_neg h1, noKey, if_pos h2]
      subst h2
      go_wp2_with fail
      go_ret
      exact ⟨by rw [HC.out]; rfl, HB.out⟩
    · have h2b : (x == 1000000000001) = false := by simpa using h2
      by_cases h3 : y = 1000000000001
      · have HC : Hid (kcM d x y = -1) := by show _ = _; rw [kcM, if_neg h1, noKey, if_neg h2, if_pos h3]
        subst h3
        go_wp2_with fail
        go_ret
        exact ⟨by rw [HC.out]; rfl, HB.out⟩
      · have h3b : (y == 1000000000001) = false := by simpa using h3
        have HC : Hid (kcM d x y = if d = true then cmpI y x else cmpI x y) := by show _ = _; rw [kcM, if_neg h1, noKey, if_neg h2, if_neg h3]; rfl
        cases d with
        | true =>
          go_wp2_with (go_at_call 63; refine (compare_any _ _ _).mono ?_; rintro e w' ⟨rfl, rfl⟩)
          go_ret
          exact ⟨by rw [HC.out]; rfl, HB.out⟩
        | false =>
          go_wp2_with (go_at_call 63; refine (compare_any _ _ _).mono ?_; rintro e w' ⟨rfl, rfl⟩)
          go_ret
          exact ⟨by rw [HC.out]; rfl, HB.out⟩
set_option maxHeartbeats 4000000 in
theorem hitCmp_any (x y : Tx) (s t : Int) (w : World) : Calls Try.prog 53 #[.agg #[.string (bs x), .int .i64 s], .agg #[.string (bs y), .int .i64 t]] w fun e w' => e = .returned (.int .i64 (lexM (ciM t s) (ctM x y))) ∧ Below w.heap.size w w' := by
  have HCi : Hid (∀ W, Calls Try.prog 63 #[.int .i64 t, .int .i64 s] W fun e w' => e = .returned (.int .i64 (ciM t s)) ∧ w' = W) := fun W => compare_any _ _ W
  have HCs : Hid (∀ W, Calls Try.prog 65 #[.string (bs x), .string (bs y)] W fun e w' => e = .returned (.int .i64 (ctM x y)) ∧ w' = W) := fun W => compareS_any _ _ W
  generalize ciM t s = p at *
  generalize ctM x y = q at *
  generalize bs x = X at *
  generalize bs y = Y at *
  have HB := hidd ((((Below.refl w.heap.size w).alloc (Nat.le_refl _) (.cells #[.string X, .int .i64 s] 92))).alloc (by simp) (.cells #[.string Y, .int .i64 t] 92))
  go_enter Try.func53, Try.ntmps53
  go_wp2_with fail
  obtain ⟨R, hR⟩ : ∃ R, (if p ≠ 0 then p else q) = R := ⟨_, rfl⟩
  have HR := hidd hR
  have HG : Hid (lexM p q = R) := hR
  clear hR
  generalize hW : (w.alloc (Obj.cells #[Value.string X, Value.int IntKind.i64 s] 92)).alloc (Obj.cells #[Value.string Y, Value.int IntKind.i64 t] 92) = W at *
  have hb2 := box_two w (Obj.cells #[Value.string X, Value.int IntKind.i64 s] 92) (Obj.cells #[Value.string Y, Value.int IntKind.i64 t] 92)
  rw [hW] at hb2
  have x0 : W.cell? ⟨w.heap.size, 0, none⟩ = some (.string X) := blkc hb2.1 0
  have x1 : W.cell? ⟨w.heap.size, 1, none⟩ = some (.int .i64 s) := blkc hb2.1 1
  have y0 : W.cell? ⟨w.heap.size + 1, 0, none⟩ = some (.string Y) := blkc hb2.2 0
  have y1 : W.cell? ⟨w.heap.size + 1, 1, none⟩ = some (.int .i64 t) := blkc hb2.2 1
  have hz : W.heap.size = w.heap.size + 1 + 1 := by rw [← hW]; simp
  clear hb2 hW
  generalize hn0 : w.heap.size = n0 at *
  have Hn0 := hidd hn0
  clear hn0
  go_region_held3 (fun W => W.cell? ⟨n0, 0, none⟩ = some (.string X) ∧ W.cell? ⟨n0, 1, none⟩ = some (.int .i64 s) ∧ W.cell? ⟨n0 + 1, 0, none⟩ = some (.string Y) ∧ W.cell? ⟨n0 + 1, 1, none⟩ = some (.int .i64 t))
    (first | exact ⟨x0, x1, y0, y1⟩ | go_keep)
    (first
    | (go_at_call 63; refine (HCi.out _).mono ?_; rintro e w' ⟨rfl, rfl⟩)
    | (go_at_call 65; refine (HCs.out _).mono ?_; rintro e w' ⟨rfl, rfl⟩)
    | (go_at_call 64; refine (or_any p q _ _ _ (by go_simp) (by go_simp) R HR).mono ?_; rintro e w' ⟨rfl, rfl⟩))
  all_goals
    go_wp2
    go_ret
    exact ⟨by rw [HG.out]; rfl, by rw [Hn0.out]; exact (HB.out.alloc (by omega) _).drew⟩
/-- The keys to sort by, and numbers, as they lie in a world. -/
def HoldSK (w : World) (a : Option Addr) (l : List (Tx × Bool)) : Prop := l = [] ∨ ∃ b off, a = some ⟨b, off, none⟩ ∧ b < w.heap.size ∧ ∀ i, i < l.length → w.cell? ⟨b, off + i * 2, none⟩ = some (.string (bs (l.getD i ([], false)).1)) ∧ w.cell? ⟨b, off + i * 2 + 1, none⟩ = some (.bool (l.getD i ([], false)).2)
def HoldZ (w : World) (a : Option Addr) (l : List Int) : Prop := l = [] ∨ ∃ b off, a = some ⟨b, off, none⟩ ∧ b < w.heap.size ∧ ∀ i, i < l.length → w.cell? ⟨b, off + i, none⟩ = some (.int .i64 (l.getD i 0))
theorem HoldSK.but {X : Nat → Prop} {w w' : World} {a : Option Addr} {l : List (Tx × Bool)} (h : HoldSK w a l) (hb : But X w w') (hX : ∀ b off, a = some ⟨b, off, none⟩ → ¬ X b) : HoldSK w' a l := by
  rcases h with h | ⟨b, off, ha, hbl, h⟩
  · exact Or.inl h
  · exact Or.inr ⟨b, off, ha, Nat.lt_of_lt_of_le hbl hb.size, fun i hi => ⟨(hb.cell (p := ⟨b, off + i * 2, none⟩) hbl (hX b off ha)).trans (h i hi).1, (hb.cell (p := ⟨b, off + i * 2 + 1, none⟩) hbl (hX b off ha)).trans (h i hi).2⟩⟩
theorem HoldSK.below {w w' : World} {a : Option Addr} {l : List (Tx × Bool)} (h : HoldSK w a l) (hb : Below w.heap.size w w') : HoldSK w' a l := h.but (X := fun _ => False) (But.of_below hb) (fun _ _ _ h => h)
theorem HoldZ.but {X : Nat → Prop} {w w' : World} {a : Option Addr} {l : List Int} (h : HoldZ w a l) (hb : But X w w') (hX : ∀ b off, a = some ⟨b, off, none⟩ → ¬ X b) : HoldZ w' a l := by
  rcases h with h | ⟨b, off, ha, hbl, h⟩
  · exact Or.inl h
  · exact Or.inr ⟨b, off, ha, Nat.lt_of_lt_of_le hbl hb.size, fun i hi => (hb.cell (p := ⟨b, off + i, none⟩) hbl (hX b off ha)).trans (h i hi)⟩
theorem HoldZ.below {w w' : World} {a : Option Addr} {l : List Int} (h : HoldZ w a l) (hb : Below w.heap.size w w') : HoldZ w' a l := h.but (X := fun _ => False) (But.of_below hb) (fun _ _ _ h => h)
theorem ksM_at (ds : List Bool) (x y : List Int) (i : Nat) (hi : i < ds.length) (hx : i < x.length) (hy : i < y.length) :
    ksM (ds.drop i) (x.drop i) (y.drop i) = lexM (kcM (ds.getD i false) (x.getD i 0) (y.getD i 0)) (ksM (ds.drop (i + 1)) (x.drop (i + 1)) (y.drop (i + 1))) := by
  rw [List.drop_eq_getElem_cons hi, List.drop_eq_getElem_cons hx, List.drop_eq_getElem_cons hy, ksM]
  simp [hi, hx, hy]
def dsOf (l : List (Tx × Bool)) : List Bool := l.map fun x => x.2
theorem dsOf_at (l : List (Tx × Bool)) (i : Nat) (hi : i < l.length) : (dsOf l).getD i false = (l.getD i ([], false)).2 := by simp [dsOf, hi]
set_option maxHeartbeats 8000000 in
theorem ordCmp_any (w : World) (sa : Option Addr) (sc : Nat) (ks : List (Tx × Bool)) (f g : Fd) (fa ga : Option Addr) (fc gc : Nat) (hk : ks.length ≤ 4) (hS : HoldSK w sa ks) (hf : HoldZ w fa f.2.2) (hg : HoldZ w ga g.2.2) (hfl : f.2.2.length = ks.length) (hgl : g.2.2.length = ks.length) :
    Calls Try.prog 36 #[.slice sa ks.length sc, .agg #[.string (bs f.1), .int .i64 f.2.1, .slice fa f.2.2.length fc], .agg #[.string (bs g.1), .int .i64 g.2.1, .slice ga g.2.2.length gc]] w fun e w' => e = .returned (.int .i64 (fcM (dsOf ks) f g)) ∧ Below w.heap.size w w' := by
  rw [hfl, hgl]
  have HS := hidd hS
  have HF := hidd hf
  have HG := hidd hg
  have HFl := hidd hfl
  have HGl := hidd hgl
  have HH : Hid (∀ W, Calls Try.prog 53 #[.agg #[.string (bs f.1), .int .i64 f.2.1], .agg #[.string (bs g.1), .int .i64 g.2.1]] W fun e w' => e = .returned (.int .i64 (hcM f g)) ∧ Below W.heap.size W w') := fun W => hitCmp_any f.1 g.1 f.2.1 g.2.1 W
  clear hS hf hg hfl hgl
  obtain ⟨n, hn⟩ : ∃ n, ks.length = n := ⟨_, rfl⟩
  rw [hn] at hk HFl HGl ⊢
  have HN := hidd hn
  clear hn
  have HE : Hid (fcM (dsOf ks) f g = lexM (ksM (dsOf ks) f.2.2 g.2.2) (hcM f g)) := rfl
  generalize fcM (dsOf ks) f g = R at *
  generalize hcM f g = hc at *
  generalize bs f.1 = fi at *
  generalize bs g.1 = gi at *
  generalize f.2.1 = fs at *
  generalize g.2.1 = gs at *
  generalize f.2.2 = fk at *
  generalize g.2.2 = gk at *
  have HB := hidd ((((Below.refl w.heap.size w).alloc (Nat.le_refl _) (.cells #[.string fi, .int .i64 fs, .slice fa n fc] 47))).alloc (by simp) (.cells #[.string gi, .int .i64 gs, .slice ga n gc] 47))
  have hb2 := box_two w (Obj.cells #[.string fi, .int .i64 fs, .slice fa n fc] 47) (Obj.cells #[.string gi, .int .i64 gs, .slice ga n gc] 47)
  have HX := hidd hb2
  clear hb2
  go_enter Try.func36, Try.ntmps36
  go_wp2_with fail
  generalize (w.alloc (Obj.cells #[Value.string fi, Value.int IntKind.i64 fs, Value.slice fa (↑n) (↑fc)] 47)).alloc (Obj.cells #[Value.string gi, Value.int IntKind.i64 gs, Value.slice ga (↑n) (↑gc)] 47) = W at *
  go_loopw [12] (fun iv wx => ∃ i : Nat, i ≤ n ∧ iv = .int .i64 (i : Int) ∧ ksM (dsOf ks) fk gk = ksM ((dsOf ks).drop i) (fk.drop i) (gk.drop i) ∧ Below W.heap.size W wx) (fun iv _ => n - (intOf iv).toNat)
  case atStart => exact ⟨0, by omega, rfl, by simp, Below.refl _ _⟩
  case round =>
    obtain ⟨i, hi, rfl, hq, hbx⟩ := hrel
    have HQ := hidd hq
    have HBx := hidd (HB.out.trans (hbx.mono HB.out.size))
    have HX1 := hidd (blko HX.out.1 hbx)
    have HX2 := hidd (blko HX.out.2 hbx)
    clear hq
    have HSx := hidd (HS.out.below HBx.out)
    have HFx := hidd (HF.out.below HBx.out)
    have HGx := hidd (HG.out.below HBx.out)
    have HBw := hidd hbx
    clear hbx HX HS HF HG
    by_cases hin : i < n
    · have hiz : (i : Int) < (n : Int) := by omega
      obtain ⟨sb, so, rfl, hsb, k0, k1⟩ : ∃ b off, sa = some ⟨b, off, none⟩ ∧ b < wr.heap.size ∧ wr.cell? ⟨b, off + i * 2, none⟩ = some (.string (bs (ks.getD i ([], false)).1)) ∧ wr.cell? ⟨b, off + i * 2 + 1, none⟩ = some (.bool (ks.getD i ([], false)).2) := by
        rcases HSx.out with h | ⟨b, off, ha, hbl, h⟩
        · have := HN.out; rw [h] at this; simp at this; omega
        · exact ⟨b, off, ha, hbl, h i (by rw [HN.out]; exact hin)⟩
      obtain ⟨fb, fo, rfl, hfb, f0⟩ : ∃ b off, fa = some ⟨b, off, none⟩ ∧ b < wr.heap.size ∧ wr.cell? ⟨b, off + i, none⟩ = some (.int .i64 (fk.getD i 0)) := by
        rcases HFx.out with h | ⟨b, off, ha, hbl, h⟩
        · have := HFl.out; rw [h] at this; simp at this; omega
        · exact ⟨b, off, ha, hbl, h i (by rw [HFl.out]; exact hin)⟩
      obtain ⟨gb, go, rfl, hgb, g0⟩ : ∃ b off, ga = some ⟨b, off, none⟩ ∧ b < wr.heap.size ∧ wr.cell? ⟨b, off + i, none⟩ = some (.int .i64 (gk.getD i 0)) := by
        rcases HGx.out with h | ⟨b, off, ha, hbl, h⟩
        · have := HGl.out; rw [h] at this; simp at this; omega
        · exact ⟨b, off, ha, hbl, h i (by rw [HGl.out]; exact hin)⟩
      have HQ2 : Hid (ksM (dsOf ks) fk gk = lexM (kcM (ks.getD i ([], false)).2 (fk.getD i 0) (gk.getD i 0)) (ksM ((dsOf ks).drop (i + 1)) (fk.drop (i + 1)) (gk.drop (i + 1)))) := by
        show _ = _
        have hl : (dsOf ks).length = n := by rw [dsOf, List.length_map, HN.out]
        rw [HQ.out, ksM_at _ _ _ i (by omega) (by rw [HFl.out]; exact hin) (by rw [HGl.out]; exact hin), dsOf_at _ _ (by rw [HN.out]; exact hin)]
      generalize bs (ks.getD i ([], false)).1 = kt at *
      generalize (ks.getD i ([], false)).2 = kd at *
      generalize fk.getD i 0 = x at *
      generalize gk.getD i 0 = y at *
      have HK : Hid (∀ W, Calls Try.prog 52 #[.agg #[.string kt, .bool kd], .int .i64 x, .int .i64 y] W fun e w' => e = .returned (.int .i64 (kcM kd x y)) ∧ Below W.heap.size W w') := fun W => skCmp_any _ _ _ _ W
      generalize kcM kd x y = c at *
      obtain ⟨kb, hkb⟩ : ∃ kb, kb = wr.heap.size := ⟨_, rfl⟩
      have HKb := hidd hkb
      have hb3 := Below.refl wr.heap.size wr |>.alloc (Nat.le_refl _) (.cells #[.string kt, .bool kd] 50)
      have hX1 := blkc (blko HX1.out hb3) 2
      have hX2 := blkc (blko HX2.out hb3) 2
      have hK := heap_alloc_new wr (.cells #[.string kt, .bool kd] 50)
      have hK0 := blkc hK 0
      have hK1 := blkc hK 1
      have f1 := (hb3.cell (p := ⟨fb, fo + i, none⟩) hfb).trans f0
      have g1 := (hb3.cell (p := ⟨gb, go + i, none⟩) hgb).trans g0
      simp only [List.getElem?_toArray, List.getElem?_cons_zero, List.getElem?_cons_succ] at hX1 hX2 hK0 hK1
      have HB3 := hidd hb3
      clear hb3 hK hkb
      go_wp2_with fail
      generalize wr.alloc (Obj.cells #[Value.string kt, Value.bool kd] 50) = V at *
      rw [← HKb.out] at hK0 hK1 ⊢
      go_region_held3 (fun W => W.cell? ⟨kb, 0, none⟩ = some (.string kt) ∧ W.cell? ⟨kb, 1, none⟩ = some (.bool kd) ∧ W.cell? ⟨w.heap.size, 2, none⟩ = some (.slice (some ⟨fb, fo, none⟩) n fc) ∧ W.cell? ⟨w.heap.size + 1, 2, none⟩ = some (.slice (some ⟨gb, go, none⟩) n gc) ∧ W.cell? ⟨fb, fo + i, none⟩ = some (.int .i64 x) ∧ W.cell? ⟨gb, go + i, none⟩ = some (.int .i64 y))
        (first | exact ⟨hK0, hK1, hX1, hX2, f1, g1⟩ | exact ⟨(hb.cell (p := ⟨kb, 0, none⟩) (cell_lt hK0)).trans hK0, (hb.cell (p := ⟨kb, 1, none⟩) (cell_lt hK1)).trans hK1, (hb.cell (p := ⟨w.heap.size, 2, none⟩) (cell_lt hX1)).trans hX1, (hb.cell (p := ⟨w.heap.size + 1, 2, none⟩) (cell_lt hX2)).trans hX2, (hb.cell (p := ⟨fb, fo + i, none⟩) (cell_lt f1)).trans f1, (hb.cell (p := ⟨gb, go + i, none⟩) (cell_lt g1)).trans g1⟩ | go_keep)
        ((go_at_call 52; refine (HK.out _).mono ?_; rintro e w' ⟨rfl, hb⟩))
      have HBq : Hid (Below W.heap.size W w') := by
        have h1 := HBw.out
        have h2 := HB3.out
        exact ((h1.trans (h2.mono h1.size)).drew).trans (hb.mono (Nat.le_trans h1.size h2.size))
      clear hK0 hK1 hX1 hX2 f1 g1 hb k0 k1 f0 g0
      by_cases hc0 : c = 0
      · have hcb : (c != 0) = false := by simp [hc0]
        have HQ3 : Hid (ksM (dsOf ks) fk gk = ksM ((dsOf ks).drop (i + 1)) (fk.drop (i + 1)) (gk.drop (i + 1))) := by
          show _ = _
          rw [HQ2.out, lexM, if_neg (by simp [hc0])]
        clear hc0
        go_wp2_with fail
        go_roundw
        case rel => exact ⟨i + 1, by omega, by go_num, HQ3.out, HBq.out⟩
        case measure => simp [intOf]; omega
      · have hcb : (c != 0) = true := by simp [hc0]
        have HQ3 : Hid (R = c) := by
          show _ = _
          rw [HE.out, HQ2.out, lexM, lexM, if_pos hc0, if_pos hc0]
        have HBr : Hid (Below w.heap.size w w') := HB.out.trans (HBq.out.mono HB.out.size)
        clear hc0
        go_wp2_with fail
        go_ret
        exact ⟨by rw [HQ3.out]; rfl, HBr.out⟩
    · have hiz : ¬ (i : Int) < (n : Int) := by omega
      have x0 := blkc HX1.out 0
      have x1 := blkc HX1.out 1
      have y0 := blkc HX2.out 0
      have y1 := blkc HX2.out 1
      simp only [List.getElem?_toArray, List.getElem?_cons_zero, List.getElem?_cons_succ] at x0 x1 y0 y1
      have HR : Hid (R = hc) := by
        show _ = _
        have hl : (dsOf ks).length = n := by rw [dsOf, List.length_map, HN.out]
        rw [HE.out, HQ.out, List.drop_of_length_le (by omega), ksM]
        rfl
      go_wp2_with fail
      refine (HH.out _).mono ?_
      rintro e w' ⟨rfl, hb⟩
      have HBq := hidd (HBx.out.trans (hb.mono HBx.out.size))
      clear hb
      go_wp2_with fail
      go_ret
      exact ⟨by rw [HR.out]; rfl, HBq.out⟩
end Go.Proofs.Ytcnjmjcbhelkhaa

namespace Go.Proofs.Ytcnjmjcbhelkhaa
open Go Go.RowKit
set_option linter.unusedVariables false
set_option maxRecDepth 100000
set_option linter.unusedSimpArgs false

/-! Hits compared, by the specification. -/
theorem kcM_some {d : Bool} {x y : Int} (h : x ≠ y) (hk : x = 1000000000001 ∨ y = 1000000000001) : kcM d x y ≠ 0 ∧ decide (kcM d x y < 0) = (y == 1000000000001) := by
  unfold kcM noKey
  rw [if_neg h]
  by_cases h1 : x = 1000000000001
  · rw [if_pos h1]
    have : ¬ y = 1000000000001 := fun e => h (h1.trans e.symm)
    simp [this]
  · rw [if_neg h1]
    have h2 : y = 1000000000001 := hk.resolve_left h1
    rw [if_pos h2]
    simp [h2]
theorem kcM_both {d : Bool} {x y : Int} (h : x ≠ y) (h1 : x ≠ 1000000000001) (h2 : y ≠ 1000000000001) : kcM d x y ≠ 0 ∧ decide (kcM d x y < 0) = (decide (x < y) != d) := by
  unfold kcM noKey
  rw [if_neg h, if_neg h1, if_neg h2]
  cases d
  · simp only [Bool.false_eq_true, if_false, ciM]
    by_cases e : x < y
    · rw [if_pos e]; simp [e]
    · rw [if_neg e, if_pos (by omega)]; simp; omega
  · simp only [if_true, ciM]
    by_cases e : y < x
    · rw [if_pos e]; simp; omega
    · rw [if_neg e, if_pos (by omega)]; simp; omega
theorem kcM_self (d : Bool) (x : Int) : kcM d x x = 0 := by simp [kcM]
theorem hcM_score {a b : Fd} (h : a.2.1 ≠ b.2.1) : decide (hcM a b < 0) = decide (a.2.1 > b.2.1) := by
  unfold hcM lexM ciM
  by_cases e : b.2.1 < a.2.1
  · rw [if_pos e]; simp [e]
  · rw [if_neg e, if_pos (by omega)]; simp; omega
theorem hcM_id {a b : Fd} (h : a.2.1 = b.2.1) : decide (hcM a b < 0) = ltT a.1 b.1 := by
  unfold hcM lexM
  rw [if_neg (by simp [ciM, h])]
  unfold ctM
  cases e : ltT a.1 b.1 with
  | true => simp
  | false =>
    simp only [Bool.false_eq_true, if_false]
    split
    · simp
    · simp
set_option maxHeartbeats 8000000 in
theorem ahead_any (w : World) (sa : Option Addr) (sc : Nat) (ks : List (Tx × Bool)) (f g : Fd) (fa ga : Option Addr) (fc gc : Nat) (hk : ks.length ≤ 4) (hS : HoldSK w sa ks) (hf : HoldZ w fa f.2.2) (hg : HoldZ w ga g.2.2) (hfl : f.2.2.length = ks.length) (hgl : g.2.2.length = ks.length) :
    Calls Try.prog 19 #[.slice sa ks.length sc, .agg #[.string (bs f.1), .int .i64 f.2.1, .slice fa f.2.2.length fc], .agg #[.string (bs g.1), .int .i64 g.2.1, .slice ga g.2.2.length gc]] w fun e w' => e = .returned (.bool (decide (fcM (dsOf ks) f g < 0))) ∧ Below w.heap.size w w' := by
  rw [hfl, hgl]
  have HS := hidd hS
  have HF := hidd hf
  have HG := hidd hg
  have HFl := hidd hfl
  have HGl := hidd hgl
  have HH1 : Hid (f.2.1 ≠ g.2.1 → decide (hcM f g < 0) = decide (f.2.1 > g.2.1)) := hcM_score
  have HH2 : Hid (f.2.1 = g.2.1 → decide (hcM f g < 0) = ltT f.1 g.1) := hcM_id
  have hlt : Op.bytesLess (bs f.1).toList (bs g.1).toList = ltT f.1 g.1 := by rw [bs_tl, bs_tl, less_lt]
  clear hS hf hg hfl hgl
  obtain ⟨n, hn⟩ : ∃ n, ks.length = n := ⟨_, rfl⟩
  rw [hn] at hk HFl HGl ⊢
  have HN := hidd hn
  clear hn
  have HE : Hid (fcM (dsOf ks) f g = lexM (ksM (dsOf ks) f.2.2 g.2.2) (hcM f g)) := rfl
  generalize fcM (dsOf ks) f g = R at *
  generalize hcM f g = hc at *
  generalize ltT f.1 g.1 = lid at *
  generalize bs f.1 = fi at *
  generalize bs g.1 = gi at *
  generalize f.2.1 = fs at *
  generalize g.2.1 = gs at *
  generalize f.2.2 = fk at *
  generalize g.2.2 = gk at *
  have HB := hidd ((((Below.refl w.heap.size w).alloc (Nat.le_refl _) (.cells #[.string fi, .int .i64 fs, .slice fa n fc] 47))).alloc (by simp) (.cells #[.string gi, .int .i64 gs, .slice ga n gc] 47))
  have hb2 := box_two w (Obj.cells #[.string fi, .int .i64 fs, .slice fa n fc] 47) (Obj.cells #[.string gi, .int .i64 gs, .slice ga n gc] 47)
  have HX := hidd hb2
  clear hb2
  go_enter Try.func19, Try.ntmps19
  go_wp2_with fail
  generalize (w.alloc (Obj.cells #[Value.string fi, Value.int IntKind.i64 fs, Value.slice fa (↑n) (↑fc)] 47)).alloc (Obj.cells #[Value.string gi, Value.int IntKind.i64 gs, Value.slice ga (↑n) (↑gc)] 47) = W at *
  have HSx := hidd (HS.out.below HB.out)
  have HFx := hidd (HF.out.below HB.out)
  have HGx := hidd (HG.out.below HB.out)
  have x0 : W.cell? ⟨w.heap.size, 0, none⟩ = some (.string fi) := blkc HX.out.1 0
  have x1 : W.cell? ⟨w.heap.size, 1, none⟩ = some (.int .i64 fs) := blkc HX.out.1 1
  have x2 : W.cell? ⟨w.heap.size, 2, none⟩ = some (.slice fa n fc) := blkc HX.out.1 2
  have y0 : W.cell? ⟨w.heap.size + 1, 0, none⟩ = some (.string gi) := blkc HX.out.2 0
  have y1 : W.cell? ⟨w.heap.size + 1, 1, none⟩ = some (.int .i64 gs) := blkc HX.out.2 1
  have y2 : W.cell? ⟨w.heap.size + 1, 2, none⟩ = some (.slice ga n gc) := blkc HX.out.2 2
  clear HS HF HG HX
  go_loopw [7] (fun iv wx => ∃ i : Nat, i ≤ n ∧ iv = .int .i64 (i : Int) ∧ ksM (dsOf ks) fk gk = ksM ((dsOf ks).drop i) (fk.drop i) (gk.drop i) ∧ wx = W) (fun iv _ => n - (intOf iv).toNat)
  case atStart => exact ⟨0, by omega, rfl, by simp, rfl⟩
  case round =>
    obtain ⟨i, hi, rfl, hq, hww⟩ := hrel
    obtain rfl := hww.symm
    have HQ := hidd hq
    clear hq
    by_cases hin : i < n
    · have hiz : (i : Int) < (n : Int) := by omega
      obtain ⟨sb, so, rfl, hsb, k0, k1⟩ : ∃ b off, sa = some ⟨b, off, none⟩ ∧ b < W.heap.size ∧ W.cell? ⟨b, off + i * 2, none⟩ = some (.string (bs (ks.getD i ([], false)).1)) ∧ W.cell? ⟨b, off + i * 2 + 1, none⟩ = some (.bool (ks.getD i ([], false)).2) := by
        rcases HSx.out with h | ⟨b, off, ha, hbl, h⟩
        · have := HN.out; rw [h] at this; simp at this; omega
        · exact ⟨b, off, ha, hbl, h i (by rw [HN.out]; exact hin)⟩
      obtain ⟨fb, fo, rfl, hfb, f0⟩ : ∃ b off, fa = some ⟨b, off, none⟩ ∧ b < W.heap.size ∧ W.cell? ⟨b, off + i, none⟩ = some (.int .i64 (fk.getD i 0)) := by
        rcases HFx.out with h | ⟨b, off, ha, hbl, h⟩
        · have := HFl.out; rw [h] at this; simp at this; omega
        · exact ⟨b, off, ha, hbl, h i (by rw [HFl.out]; exact hin)⟩
      obtain ⟨gb, go, rfl, hgb, g0⟩ : ∃ b off, ga = some ⟨b, off, none⟩ ∧ b < W.heap.size ∧ W.cell? ⟨b, off + i, none⟩ = some (.int .i64 (gk.getD i 0)) := by
        rcases HGx.out with h | ⟨b, off, ha, hbl, h⟩
        · have := HGl.out; rw [h] at this; simp at this; omega
        · exact ⟨b, off, ha, hbl, h i (by rw [HGl.out]; exact hin)⟩
      have HQ2 : Hid (ksM (dsOf ks) fk gk = lexM (kcM (ks.getD i ([], false)).2 (fk.getD i 0) (gk.getD i 0)) (ksM ((dsOf ks).drop (i + 1)) (fk.drop (i + 1)) (gk.drop (i + 1)))) := by
        show _ = _
        have hl : (dsOf ks).length = n := by rw [dsOf, List.length_map, HN.out]
        rw [HQ.out, ksM_at _ _ _ i (by omega) (by rw [HFl.out]; exact hin) (by rw [HGl.out]; exact hin), dsOf_at _ _ (by rw [HN.out]; exact hin)]
      clear k0
      generalize (ks.getD i ([], false)).2 = kd at *
      generalize fk.getD i 0 = x at *
      generalize gk.getD i 0 = y at *
      by_cases hxy : x = y
      · have HQ3 : Hid (ksM (dsOf ks) fk gk = ksM ((dsOf ks).drop (i + 1)) (fk.drop (i + 1)) (gk.drop (i + 1))) := by
          show _ = _
          rw [HQ2.out, hxy, kcM_self]; rfl
        subst hxy
        have hb0 : (x == x) = true := by simp
        go_wp2_with fail
        go_roundw
        case rel => exact ⟨i + 1, by omega, by go_num, HQ3.out, by first | trivial | rfl⟩
        case measure => simp [intOf]; omega
      · have hb0 : (x == y) = false := by simpa using hxy
        by_cases hno : x = 1000000000001 ∨ y = 1000000000001
        · have HR : Hid (decide (R < 0) = (y == 1000000000001)) := by
            have h1 := kcM_some (d := kd) hxy hno
            show _ = _
            rw [HE.out, HQ2.out, lexM, lexM, if_pos h1.1, if_pos h1.1]
            exact h1.2
          by_cases hx1 : x = 1000000000001
          · have hb1 : (x == 1000000000001) = true := by simpa using hx1
            clear hno hxy hx1
            go_wp2_with fail
            go_ret
            exact ⟨by rw [HR.out]; rfl, HB.out⟩
          · have hb1 : (x == 1000000000001) = false := by simpa using hx1
            have hy1 := hno.resolve_left hx1
            have hb2 : (y == 1000000000001) = true := by simpa using hy1
            clear hno hxy hx1 hy1
            go_wp2_with fail
            go_ret
            exact ⟨by rw [HR.out]; simp [hb2], HB.out⟩
        · have hx1 : ¬ x = 1000000000001 := fun h => hno (Or.inl h)
          have hy1 : ¬ y = 1000000000001 := fun h => hno (Or.inr h)
          have HR : Hid (decide (R < 0) = (decide (x < y) != kd)) := by
            have h1 := kcM_both (d := kd) hxy hx1 hy1
            show _ = _
            rw [HE.out, HQ2.out, lexM, lexM, if_pos h1.1, if_pos h1.1]
            exact h1.2
          have hb1 : (x == 1000000000001) = false := by simpa using hx1
          have hb2 : (y == 1000000000001) = false := by simpa using hy1
          clear hno hxy hx1 hy1
          go_wp2_with fail
          go_ret
          exact ⟨by rw [HR.out]; rfl, HB.out⟩
    · have hiz : ¬ (i : Int) < (n : Int) := by omega
      have HR : Hid (R = hc) := by
        show _ = _
        have hl : (dsOf ks).length = n := by rw [dsOf, List.length_map, HN.out]
        rw [HE.out, HQ.out, List.drop_of_length_le (by omega), ksM]
        rfl
      by_cases hsc : fs = gs
      · have hb1 : (fs != gs) = false := by simp [hsc]
        have HR2 := hidd (HH2.out hsc)
        clear hsc
        go_wp2_with fail
        go_ret
        exact ⟨by rw [HR.out, HR2.out]; rfl, HB.out⟩
      · have hb1 : (fs != gs) = true := by simp [hsc]
        have HR2 := hidd (HH1.out hsc)
        clear hsc
        go_wp2_with fail
        go_ret
        exact ⟨by rw [HR.out, HR2.out]; rfl, HB.out⟩
end Go.Proofs.Ytcnjmjcbhelkhaa
