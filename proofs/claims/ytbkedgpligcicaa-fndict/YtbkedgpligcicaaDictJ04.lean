import Derived.Test.YtbkedgpligcicaaDictJ01
import Derived.Deep.RegionWith
import Derived.Handy
import Derived.Deep.CutBlock
import Derived.Test.YtbkedgpligcicaaDictJ00
namespace Go.Proofs.Ytbkedgpligcicaa
open Go Go.RowKit
set_option linter.unusedVariables false

set_option maxHeartbeats 2000000 in
set_option maxRecDepth 100000 in
theorem eqArc_same (p : Ar) (w : World) :
    Calls Try.prog 107 #[.agg #[.int .i64 p.1, .int .i64 p.2.1, .int .i64 p.2.2], .agg #[.int .i64 p.1, .int .i64 p.2.1, .int .i64 p.2.2]] w fun e w' => e = .returned (.bool true) ∧ Below w.heap.size w w' := by
  obtain ⟨p0, p1, p2⟩ := p
  have HBa : Hid (Below w.heap.size w ((w.alloc (.cells #[.int .i64 p0, .int .i64 p1, .int .i64 p2] 85)).alloc (.cells #[.int .i64 p0, .int .i64 p1, .int .i64 p2] 85))) := ((Below.refl _ _).alloc (Nat.le_refl _) _).alloc (by simp) _
  have h0 : (p0 != p0) = false := by simp
  have h1 : (p1 != p1) = false := by simp
  have h2 : (p2 != p2) = false := by simp
  dsimp only
  go_enter Try.func107, Try.ntmps107
  go_wp2_with fail
  go_ret
  exact ⟨rfl, HBa.out⟩
set_option maxHeartbeats 4000000 in
set_option maxRecDepth 100000 in
theorem eqArcs_same (a1 a2 : Option Addr) (c1 c2 : Nat) (l : List Ar) (w : World) (hn : l.length ≤ 1048576) (h1 : HoldA w a1 l) (h2 : HoldA w a2 l) :
    Calls Try.prog 103 #[.slice a1 l.length c1, .slice a2 l.length c2] w fun e w' => e = .returned (.bool true) ∧ Below w.heap.size w w' := by
  have H1 := hidd h1
  have H2 := hidd h2
  clear h1 h2
  go_enter Try.func103, Try.ntmps103
  go_wp2_with fail
  go_loopw [5] (fun iv wr => ∃ k : Nat, k ≤ l.length ∧ iv = .int .i64 (k : Int) ∧ Below w.heap.size w wr) (fun iv _ => l.length - (intOf iv).toNat)
  case atStart => exact ⟨0, Nat.zero_le _, rfl, Below.refl _ _⟩
  case round =>
    obtain ⟨k, hk, rfl, hbel⟩ := hrel
    have HB := hidd hbel
    clear hbel
    by_cases hlt : k < l.length
    · have hkz : (k : Int) < (l.length : Int) := by omega
      obtain ⟨b1, o1, rfl, hb1, hc1⟩ := (H1.out.below HB.out).resolve_left (fun h => by rw [h] at hlt; simp at hlt)
      obtain ⟨b2, o2, rfl, hb2, hc2⟩ := (H2.out.below HB.out).resolve_left (fun h => by rw [h] at hlt; simp at hlt)
      obtain ⟨x0, x1, x2⟩ := hc1 k hlt
      obtain ⟨y0, y1, y2⟩ := hc2 k hlt
      clear hc1 hc2
      generalize l.getD k ar0 = p at *
      go_wp2_with fail
      go_region_with (go_at_call 107; refine (eqArc_same p _).mono ?_; rintro e' w3 ⟨rfl, hb3⟩)
      all_goals
        go_wp2_with fail
        go_roundw
        · exact ⟨k + 1, by omega, by go_num, HB.out.trans ((below_drewN (Below.refl _ _) 1).trans hb3 |>.mono HB.out.size)⟩
        · simp [intOf]; omega
    · have hkz : ¬ (k : Int) < (l.length : Int) := by omega
      go_wp2_with fail
      go_ret
      exact ⟨rfl, HB.out⟩
set_option maxHeartbeats 2000000 in
set_option maxRecDepth 100000 in
theorem eqState_same (f : Bool) (a1 a2 : Option Addr) (c1 c2 : Nat) (l : List Ar) (w : World) (hn : l.length ≤ 1048576) (h1 : HoldA w a1 l) (h2 : HoldA w a2 l) :
    Calls Try.prog 86 #[.agg #[.bool f, .slice a1 l.length c1], .agg #[.bool f, .slice a2 l.length c2]] w fun e w' => e = .returned (.bool true) ∧ Below w.heap.size w w' := by
  have HBa : Hid (Below w.heap.size w ((w.alloc (.cells #[.bool f, .slice a1 l.length c1] 82)).alloc (.cells #[.bool f, .slice a2 l.length c2] 82))) := ((Below.refl _ _).alloc (Nat.le_refl _) _).alloc (by simp) _
  have H1 := hidd (h1.below HBa.out)
  have H2 := hidd (h2.below HBa.out)
  clear h1 h2
  have hneq : (f != f) = false := by cases f <;> rfl
  go_enter Try.func86, Try.ntmps86
  go_wp2_with fail
  refine (eqArcs_same a1 a2 c1 c2 l _ hn H1.out H2.out).mono ?_
  rintro e w3 ⟨rfl, hb3⟩
  have HB3 := hidd (HBa.out.trans (hb3.mono HBa.out.size))
  clear hb3
  go_wp2_with fail
  go_ret
  exact ⟨rfl, HB3.out⟩
set_option maxHeartbeats 4000000 in
set_option maxRecDepth 100000 in
theorem eqStates_same (a1 a2 : Option Addr) (c1 c2 : Nat) (S : List St) (w : World) (hn : S.length ≤ 1048576) (hA : ∀ i, (arcsAt S i).length ≤ 1048576) (h1 : HoldS w a1 S) (h2 : HoldS w a2 S) :
    Calls Try.prog 54 #[.slice a1 S.length c1, .slice a2 S.length c2] w fun e w' => e = .returned (.bool true) ∧ Below w.heap.size w w' := by
  have H1 := hidd h1
  have H2 := hidd h2
  have HA := hidd hA
  clear h1 h2 hA
  go_enter Try.func54, Try.ntmps54
  go_wp2_with fail
  go_loopw [5] (fun iv wr => ∃ k : Nat, k ≤ S.length ∧ iv = .int .i64 (k : Int) ∧ Below w.heap.size w wr) (fun iv _ => S.length - (intOf iv).toNat)
  case atStart => exact ⟨0, Nat.zero_le _, rfl, Below.refl _ _⟩
  case round =>
    obtain ⟨k, hk, rfl, hbel⟩ := hrel
    have HB := hidd hbel
    clear hbel
    by_cases hlt : k < S.length
    · have hkz : (k : Int) < (S.length : Int) := by omega
      obtain ⟨b1, o1, rfl, hb1, hc1⟩ := (H1.out.below HB.out).resolve_left (fun h => by rw [h] at hlt; simp at hlt)
      obtain ⟨b2, o2, rfl, hb2, hc2⟩ := (H2.out.below HB.out).resolve_left (fun h => by rw [h] at hlt; simp at hlt)
      obtain ⟨x0, ai, ci, x1, hx⟩ := hc1 k hlt
      obtain ⟨y0, aj, cj, y1, hy⟩ := hc2 k hlt
      clear hc1 hc2
      have hal := HA.out k
      rw [arcsAt] at hal
      have HC : Hid (Calls Try.prog 86 #[.agg #[.bool (S.getD k st0).1, .slice ai (S.getD k st0).2.length ci], .agg #[.bool (S.getD k st0).1, .slice aj (S.getD k st0).2.length cj]] wr.drew fun e w' => e = .returned (.bool true) ∧ Below wr.drew.heap.size wr.drew w') := eqState_same _ ai aj ci cj _ wr.drew hal (hx.below (below_drewN (Below.refl _ _) 1)) (hy.below (below_drewN (Below.refl _ _) 1))
      clear hx hy hal
      generalize S.getD k st0 = s at *
      go_wp2_with fail
      go_region_with (go_at_call 86; refine HC.out.mono ?_; rintro e' w3 ⟨rfl, hb3⟩)
      all_goals
        go_wp2_with fail
        go_roundw
        · exact ⟨k + 1, by omega, by go_num, HB.out.trans ((below_drewN (Below.refl _ _) 1).trans hb3 |>.mono HB.out.size)⟩
        · simp [intOf]; omega
    · have hkz : ¬ (k : Int) < (S.length : Int) := by omega
      go_wp2_with fail
      go_ret
      exact ⟨rfl, HB.out⟩
set_option maxHeartbeats 2000000 in
set_option maxRecDepth 100000 in
theorem eqDict_same (c : Int) (a1 a2 : Option Addr) (c1 c2 : Nat) (S : List St) (w : World) (hn : S.length ≤ 1048576) (hA : ∀ i, (arcsAt S i).length ≤ 1048576) (h1 : HoldS w a1 S) (h2 : HoldS w a2 S) :
    Calls Try.prog 19 #[.agg #[.int .i64 c, .slice a1 S.length c1], .agg #[.int .i64 c, .slice a2 S.length c2]] w fun e w' => e = .returned (.bool true) ∧ Below w.heap.size w w' := by
  have HBa : Hid (Below w.heap.size w ((w.alloc (.cells #[.int .i64 c, .slice a1 S.length c1] 27)).alloc (.cells #[.int .i64 c, .slice a2 S.length c2] 27))) := ((Below.refl _ _).alloc (Nat.le_refl _) _).alloc (by simp) _
  have H1 := hidd (h1.below HBa.out)
  have H2 := hidd (h2.below HBa.out)
  have HA := hidd hA
  clear h1 h2 hA
  have hneq : (c != c) = false := by simp
  go_enter Try.func19, Try.ntmps19
  go_wp2_with fail
  refine (eqStates_same a1 a2 c1 c2 S _ hn HA.out H1.out H2.out).mono ?_
  rintro e w3 ⟨rfl, hb3⟩
  have HB3 := hidd (HBa.out.trans (hb3.mono HBa.out.size))
  clear hb3
  go_wp2_with fail
  go_ret
  exact ⟨rfl, HB3.out⟩
end Go.Proofs.Ytbkedgpligcicaa

namespace Go.Proofs.Ytbkedgpligcicaa
open Go Go.RowKit
set_option linter.unusedVariables false

theorem Try.infoArc : (Try.prog.info? 85).map (fun i => (i.zero, i.size, i.bytes)) = some (some (.agg #[.int .i64 0, .int .i64 0, .int .i64 0]), 3, 24) := by kernel_rfl
def aCells (l : List Ar) : List Value := l.flatMap fun a => [.int .i64 a.1, .int .i64 a.2.1, .int .i64 a.2.2]
theorem aCells_len : ∀ l : List Ar, (aCells l).length = l.length * 3
  | [] => rfl
  | y :: t => by have := aCells_len t; simp only [aCells, List.flatMap_cons, List.length_append, List.length_cons, List.length_nil] at *; omega
theorem aCells_snoc (l : List Ar) (y : Ar) : aCells (l ++ [y]) = aCells l ++ [.int .i64 y.1, .int .i64 y.2.1, .int .i64 y.2.2] := by simp [aCells]
theorem aCells_at : ∀ (l : List Ar) (k : Nat), k < l.length → (aCells l)[k * 3]? = some (.int .i64 (l.getD k ar0).1) ∧ (aCells l)[k * 3 + 1]? = some (.int .i64 (l.getD k ar0).2.1) ∧ (aCells l)[k * 3 + 2]? = some (.int .i64 (l.getD k ar0).2.2)
  | y :: t, 0, _ => ⟨rfl, rfl, rfl⟩
  | y :: t, k + 1, h => by
    have ih := aCells_at t k (by simpa using h)
    have e : aCells (y :: t) = [.int .i64 y.1, .int .i64 y.2.1, .int .i64 y.2.2] ++ aCells t := by simp [aCells]
    rw [e, List.getElem?_append_right (by simp; omega), List.getElem?_append_right (by simp; omega), List.getElem?_append_right (by simp; omega)]
    simp only [List.length_cons, List.length_nil, List.getD_cons_succ]
    rw [show (k + 1) * 3 - (0 + 1 + 1 + 1) = k * 3 by omega, show (k + 1) * 3 + 1 - (0 + 1 + 1 + 1) = k * 3 + 1 by omega, show (k + 1) * 3 + 2 - (0 + 1 + 1 + 1) = k * 3 + 2 by omega]
    exact ih
theorem aSet (l : List Ar) (k : Nat) (xs : List Value) (hl : xs.length = l.length * 3) (hk : k < l.length) : (((aCells (l.take k) ++ xs.drop (k * 3)).set (k * 3) (.int .i64 (l.getD k ar0).1)).set (k * 3 + 1) (.int .i64 (l.getD k ar0).2.1)).set (k * 3 + 2) (.int .i64 (l.getD k ar0).2.2) = aCells (l.take (k + 1)) ++ xs.drop ((k + 1) * 3) := by
  have e : (aCells (l.take k)).length = k * 3 := by rw [aCells_len, List.length_take]; omega
  have d1 : xs.drop (k * 3) = xs[k * 3]'(by omega) :: xs[k * 3 + 1]'(by omega) :: xs[k * 3 + 2]'(by omega) :: xs.drop ((k + 1) * 3) := by
    rw [List.drop_eq_getElem_cons (by omega : k * 3 < xs.length), List.drop_eq_getElem_cons (by omega : k * 3 + 1 < xs.length), List.drop_eq_getElem_cons (by omega : k * 3 + 2 < xs.length), show k * 3 + 2 + 1 = (k + 1) * 3 by omega]
  rw [List.set_append_right _ _ (by omega), e, Nat.sub_self, d1, List.set_cons_zero, List.set_append_right _ _ (by omega), e, show k * 3 + 1 - k * 3 = 1 by omega, List.set_append_right _ _ (by omega), e, show k * 3 + 2 - k * 3 = 2 by omega, List.take_succ_eq_append_getElem hk, aCells_snoc, List.append_assoc]
  simp [hk]
theorem own3_lt {w : World} {base e g n cap : Nat} {xs : List Value} (h : w.ownsRow base e 3 (.slice (some ⟨g, 0, none⟩) n cap) n xs) : g < w.heap.size := by
  rcases h.2 with ⟨h', _⟩ | ⟨g', cap', cur, h', _, hg, _⟩
  · simp at h'
  · simp only [Value.slice.injEq, Option.some.injEq, Addr.mk.injEq, and_true, true_and] at h'
    obtain ⟨rfl, rfl⟩ := h'
    exact (Array.getElem?_eq_some_iff.1 hg).1
theorem own3_below {w w' : World} {base e n : Nat} {v : Value} {xs : List Value} (h : w.ownsRow base e 3 v n xs) (hb : Below w.heap.size w w') : w'.ownsRow base e 3 v n xs := by
  refine ⟨h.1, ?_⟩
  rcases h.2 with h' | ⟨g, cap, cur, h1, h2, h3, h4⟩
  · exact Or.inl h'
  · exact Or.inr ⟨g, cap, cur, h1, h2, by rw [hb.block g (Array.getElem?_eq_some_iff.1 h3).1]; exact h3, h4⟩
theorem holdA_own {w : World} {base g cap : Nat} {l : List Ar} (h : w.ownsRow base 85 3 (.slice (some ⟨g, 0, none⟩) l.length cap) l.length (aCells l)) : HoldA w (some ⟨g, 0, none⟩) l :=
  Or.inr ⟨g, 0, rfl, own3_lt h, fun t ht => by
    rw [Nat.zero_add]
    have := aCells_at l t ht
    exact ⟨by rw [h.cellAt (t * 3) (by omega)]; exact this.1, by rw [h.cellAt (t * 3 + 1) (by omega)]; exact this.2.1, by rw [h.cellAt (t * 3 + 2) (by omega)]; exact this.2.2⟩⟩

set_option maxHeartbeats 2000000 in
theorem toArc_any (p0 p1 p2 : Int) (w : World) :
    Calls Try.prog 108 #[.agg #[.int .i64 p0, .int .i64 p1, .int .i64 p2]] w fun e w' => e = .returned (.agg #[.int .i64 p0, .int .i64 p1, .int .i64 p2]) ∧ Below w.heap.size w w' := by
  go_enter Try.func108, Try.ntmps108
  go_wp2
  go_returns
  refine ⟨rfl, ?_⟩
  repeat (first | exact Below.refl _ _ | refine Below.alloc ?_ (by simp; try omega) _ | refine Below.setCell ?_ (by simp; try omega) _)

set_option maxHeartbeats 4000000 in
theorem toArcs_any (a : Option Addr) (cap : Nat) (l : List Ar) (w : World) (hn : l.length ≤ 1048576) (hS : HoldA w a l) :
    Calls Try.prog 105 #[.slice a l.length cap] w fun e w' => e = .returned (.slice (some ⟨w.heap.size, 0, none⟩) l.length l.length) ∧
      w'.ownsRow w.heap.size 85 3 (.slice (some ⟨w.heap.size, 0, none⟩) l.length l.length) l.length (aCells l) ∧ Below w.heap.size w w' := by
  obtain ⟨i0, hi, hz0, hz1, hz2⟩ := info_parts Try.infoArc
  have HS := hidd hS
  clear hS
  go_enter Try.func105, Try.ntmps105
  go_wp2_with (at_make; refine wpList_make_full _ rfl _ _ 80 rfl w.heap.size 85 i0 (.agg #[.int .i64 0, .int .i64 0, .int .i64 0]) 3 Try.underlying80 hi hz0 hz1 _ _ _ _ l.length rfl rfl (by omega) (by omega) ?b2 ?b3 (Nat.le_refl _) ?_)
  case b2 => (first | omega | (rw [hz2]; omega))
  case b3 => unfold maxLen; omega
  intro w0 hown0 hgrow0
  generalize (madeCells #[.int .i64 0, .int .i64 0, .int .i64 0] (l.length * 3)).toList = xs at hown0
  have hxl : xs.length = l.length * 3 := by have := hown0.1; omega
  have HO0 := hidd hown0
  have HB0 : Hid (Below w.heap.size w w0) := (Below.refl _ _).grown hgrow0 (Nat.le_refl _) (fun k h => by cases h)
  clear hown0 hgrow0
  go_wp2
  go_loopw [4] (fun i wr => ∃ k : Nat, k ≤ l.length ∧ i = .int .i64 k ∧ wr.ownsRow w.heap.size 85 3 (.slice (some ⟨w.heap.size, 0, none⟩) l.length l.length) l.length (aCells (l.take k) ++ xs.drop (k * 3)) ∧ Below w.heap.size w wr) (fun i _ => l.length - (intOf i).toNat)
  case atStart => exact ⟨0, Nat.zero_le _, rfl, HO0.out, HB0.out⟩
  case round =>
    obtain ⟨k, hk, rfl, hown, hbel⟩ := hrel
    have HO := hidd hown
    have HB := hidd hbel
    by_cases hlt : k < l.length
    · obtain ⟨b, off, rfl, hbl, hc⟩ := HS.out.resolve_left (fun h => by rw [h] at hlt; simp at hlt)
      have g1 := (hbel.cell (p := ⟨b, off + k * 3, none⟩) hbl).trans (hc k hlt).1
      have g2 := (hbel.cell (p := ⟨b, off + k * 3 + 1, none⟩) hbl).trans (hc k hlt).2.1
      have HSet := hidd (aSet l k xs hxl hlt)
      have g3 := (hbel.cell (p := ⟨b, off + k * 3 + 2, none⟩) hbl).trans (hc k hlt).2.2
      obtain ⟨p, hp⟩ : ∃ p, l.getD k ar0 = p := ⟨_, rfl⟩
      rw [hp] at g1 g2 g3 HSet
      clear hp
      obtain ⟨f, t, r⟩ := p
      dsimp only at g1 g2 g3 HSet
      clear hown hbel hc
      go_wp2_with fail
      refine (toArc_any f t r _).mono ?_
      rintro e w2 ⟨rfl, hb2⟩
      have hown2 := own3_below HO.out hb2
      have HB2 := hidd (HB.out.trans (hb2.mono HB.out.size))
      have f1 := hown2.frozenAt (k * 3)
      have f2 := hown2.frozenAt (k * 3 + 1)
      have f3 := hown2.frozenAt (k * 3 + 2)
      have hlen : (aCells (l.take k) ++ xs.drop (k * 3)).length = l.length * 3 := by rw [List.length_append, aCells_len, List.length_take, List.length_drop]; omega
      have hex : ∀ j, j < l.length * 3 → ∃ u, w2.cell? ⟨w.heap.size, j, none⟩ = some u := fun j hj => by
        rw [hown2.cellAt j hj]
        exact ⟨_, List.getElem?_eq_getElem (by omega)⟩
      obtain ⟨u1, q1⟩ := hex (k * 3) (by omega)
      obtain ⟨u2, q2⟩ := hex (k * 3 + 1) (by omega)
      obtain ⟨u3, q3⟩ := hex (k * 3 + 2) (by omega)
      have HO2 := hidd hown2
      clear hown2 hb2 hex hlen HO HB g1 g2 g3
      go_wp2
      go_roundw
      case rel =>
        have s0 := HO2.out.stored (k * 3) (.int .i64 f)
        have s1 := s0.1.stored (k * 3 + 1) (.int .i64 t)
        have s2 := s1.1.stored (k * 3 + 2) (.int .i64 r)
        have st := s2.1
        rw [HSet.out] at st
        exact ⟨k + 1, by omega, by go_num, st, (HB2.out.setCell (p := ⟨w.heap.size, k * 3, none⟩) (Nat.le_refl _) _).setCell (p := ⟨w.heap.size, k * 3 + 1, none⟩) (Nat.le_refl _) _ |>.setCell (p := ⟨w.heap.size, k * 3 + 2, none⟩) (Nat.le_refl _) _⟩
      case measure => simp [intOf]; omega
    · have HF := HO.out
      rw [List.take_of_length_le (by omega), List.drop_of_length_le (by omega), List.append_nil] at HF
      have HF2 := hidd HF
      clear HF hown hbel
      go_wp2
      go_ret
      exact ⟨rfl, HF2.out, HB.out⟩

end Go.Proofs.Ytbkedgpligcicaa

namespace Go.Proofs.Ytbkedgpligcicaa
open Go Go.RowKit
set_option linter.unusedVariables false

theorem Try.infoSt : (Try.prog.info? 82).map (fun i => (i.zero, i.size, i.bytes)) = some (some (.agg #[.bool false, .slice none 0 0]), 2, 32) := by kernel_rfl
theorem own2_lt {w : World} {base e g n cap : Nat} {xs : List Value} (h : w.ownsRow base e 2 (.slice (some ⟨g, 0, none⟩) n cap) n xs) : g < w.heap.size := by
  rcases h.2 with ⟨h', _⟩ | ⟨g', cap', cur, h', _, hg, _⟩
  · simp at h'
  · simp only [Value.slice.injEq, Option.some.injEq, Addr.mk.injEq, and_true, true_and] at h'
    obtain ⟨rfl, rfl⟩ := h'
    exact (Array.getElem?_eq_some_iff.1 hg).1
theorem own2_below {w w' : World} {base e n : Nat} {v : Value} {xs : List Value} (h : w.ownsRow base e 2 v n xs) (hb : Below w.heap.size w w') : w'.ownsRow base e 2 v n xs := by
  refine ⟨h.1, ?_⟩
  rcases h.2 with h' | ⟨g, cap, cur, h1, h2, h3, h4⟩
  · exact Or.inl h'
  · exact Or.inr ⟨g, cap, cur, h1, h2, by rw [hb.block g (Array.getElem?_eq_some_iff.1 h3).1]; exact h3, h4⟩

theorem HoldA.setOther {w : World} {a : Option Addr} {l : List Ar} (h : HoldA w a l) (B j : Nat) (u : Value) (hne : ∀ b off, a = some ⟨b, off, none⟩ → B < b) : HoldA (w.setCell ⟨B, j, none⟩ u) a l :=
  h.keep (by simp) fun b off e _ => heap_setCell_other w ⟨B, j, none⟩ b u (by have := hne b off e; show b ≠ B; omega)
set_option maxHeartbeats 4000000 in
set_option maxRecDepth 100000 in
theorem toState_any (f : Bool) (a : Option Addr) (cap : Nat) (l : List Ar) (w : World) (hn : l.length ≤ 1048576) (h : HoldA w a l) :
    Calls Try.prog 90 #[.agg #[.bool f, .slice a l.length cap]] w fun e w' => ∃ g, e = .returned (.agg #[.bool f, .slice (some ⟨g, 0, none⟩) l.length l.length]) ∧ w.heap.size ≤ g ∧ HoldA w' (some ⟨g, 0, none⟩) l ∧ Below w.heap.size w w' := by
  have HH := hidd h
  clear h
  go_enter Try.func90, Try.ntmps90
  go_upto_region 3 with fail
  obtain ⟨W3, hW3⟩ : ∃ W3, ((w.alloc (.cells #[.bool f, .slice a l.length cap] 150)).alloc (.cells #[.bool false, .slice none 0 0] 82)).alloc (.cells #[.bool f, .slice none 0 0] 82) = W3 := ⟨_, rfl⟩
  have hk0 : W3.heap[w.heap.size]? = some (.cells #[.bool f, .slice a l.length cap] 150) ∧ W3.heap[w.heap.size + 1]? = some (.cells #[.bool false, .slice none 0 0] 82) ∧ W3.heap[w.heap.size + 1 + 1]? = some (.cells #[.bool f, .slice none 0 0] 82) ∧ W3.heap.size = w.heap.size + 3 := by
    rw [← hW3]
    have h2 := box_two w (.cells #[.bool f, .slice a l.length cap] 150) (.cells #[.bool false, .slice none 0 0] 82)
    refine ⟨?_, ?_, ?_, by simp⟩
    · rw [Below.heap_alloc _ _ _ (by simp; omega)]; exact h2.1
    · rw [Below.heap_alloc _ _ _ (by simp)]; exact h2.2
    · have := heap_alloc_new ((w.alloc (.cells #[.bool f, .slice a l.length cap] 150)).alloc (.cells #[.bool false, .slice none 0 0] 82)) (.cells #[.bool f, .slice none 0 0] 82)
      simpa using this
  have HB3 : Hid (Below w.heap.size w W3) := by
    show Below _ _ _
    rw [← hW3]
    exact (((Below.refl _ _).alloc (Nat.le_refl _) _).alloc (by simp) _).alloc (by simp; omega) _
  try rw [hW3]
  clear hW3
  have HK := hidd hk0
  clear hk0
  have q1 : W3.cell? ⟨w.heap.size, 1, none⟩ = some (.slice a l.length cap) := blkc HK.out.1 1
  go_wp2_with fail
  refine (toArcs_any a cap l _ hn (HH.out.below HB3.out)).mono ?_
  rintro e w4 ⟨rfl, hown4, hb4⟩
  have Hh4 := hidd (holdA_own hown4)
  have hz3 := HK.out.2.2.2
  have k1 := blko HK.out.2.1 hb4
  have k2 := blko HK.out.2.2.1 hb4
  have HB4 := hidd (HB3.out.trans (hb4.mono HB3.out.size))
  have c10 : w4.cell? ⟨w.heap.size + 1, 0, none⟩ = some (.bool false) := blkc k1 0
  have c11 : w4.cell? ⟨w.heap.size + 1, 1, none⟩ = some (.slice none 0 0) := blkc k1 1
  have c20 : w4.cell? ⟨w.heap.size + 1 + 1, 0, none⟩ = some (.bool f) := blkc k2 0
  have c21 : w4.cell? ⟨w.heap.size + 1 + 1, 1, none⟩ = some (.slice none 0 0) := blkc k2 1
  have f10 : w4.frozen? ⟨w.heap.size + 1, 0, none⟩ = false := frozen_of_row w4 _ 0 _ _ k1
  have f11 : w4.frozen? ⟨w.heap.size + 1, 1, none⟩ = false := frozen_of_row w4 _ 1 _ _ k1
  have f21 : w4.frozen? ⟨w.heap.size + 1 + 1, 1, none⟩ = false := frozen_of_row w4 _ 1 _ _ k2
  clear hown4 hb4 HB3 q1
  rw [hz3] at Hh4
  clear k1 k2
  go_wp2_with fail
  refine bodyPost_ret (v := .agg #[.bool f, .slice (some ⟨w.heap.size + 3, 0, none⟩) l.length l.length]) (by simp [results, Try.results90, go_sem, *]) rfl ?_
  refine ⟨w.heap.size + 3, rfl, by omega, ?_, ?_⟩
  · repeat (first | exact Hh4.out | refine HoldA.setOther ?_ _ _ _ (fun b off e => by cases e; omega))
  · iterate 3 refine Below.setCell ?_ (by dsimp only; omega) _
    exact HB4.out

/-- Cells of states whose arcs lie somewhere. -/
def CellsS (w : World) (B : Nat) (zs : List Value) (S : List St) (k : Nat) : Prop := zs.length = k * 2 ∧ ∀ j, j < k → zs[j * 2]? = some (.bool (S.getD j st0).1) ∧ ∃ g c, zs[j * 2 + 1]? = some (.slice (some ⟨g, 0, none⟩) (S.getD j st0).2.length c) ∧ B < g ∧ HoldA w (some ⟨g, 0, none⟩) (S.getD j st0).2
theorem CellsS.below {w w' : World} {B : Nat} {zs : List Value} {S : List St} {k : Nat} (h : CellsS w B zs S k) (hb : Below w.heap.size w w') : CellsS w' B zs S k :=
  ⟨h.1, fun j hj => by obtain ⟨h1, g, c, h2, h3, h4⟩ := h.2 j hj; exact ⟨h1, g, c, h2, h3, h4.below hb⟩⟩
theorem CellsS.set {w : World} {B : Nat} {zs : List Value} {S : List St} {k : Nat} (h : CellsS w B zs S k) (i : Nat) (u : Value) : CellsS (w.setCell ⟨B, i, none⟩ u) B zs S k :=
  ⟨h.1, fun j hj => by obtain ⟨h1, g, c, h2, h3, h4⟩ := h.2 j hj; exact ⟨h1, g, c, h2, h3, h4.setOther B i u (fun b off e => by cases e; exact h3)⟩⟩
theorem CellsS.snoc {w : World} {B g c : Nat} {zs : List Value} {S : List St} {k : Nat} (h : CellsS w B zs S k) (hg : B < g) (hh : HoldA w (some ⟨g, 0, none⟩) (S.getD k st0).2) : CellsS w B (zs ++ [.bool (S.getD k st0).1, .slice (some ⟨g, 0, none⟩) (S.getD k st0).2.length c]) S (k + 1) := by
  refine ⟨by rw [List.length_append, h.1]; simp; omega, fun j hj => ?_⟩
  have hl := h.1
  by_cases hjk : j = k
  · subst hjk
    refine ⟨?_, g, c, ?_, hg, hh⟩
    · rw [List.getElem?_append_right (by omega), hl, Nat.sub_self]; rfl
    · rw [List.getElem?_append_right (by omega), hl, show j * 2 + 1 - j * 2 = 1 by omega]; rfl
  · obtain ⟨h1, g', c', h2, h3, h4⟩ := h.2 j (by omega)
    exact ⟨by rw [List.getElem?_append_left (by omega)]; exact h1, g', c', by rw [List.getElem?_append_left (by omega)]; exact h2, h3, h4⟩
theorem setTwo (zs xs : List Value) (k n : Nat) (u v : Value) (hz : zs.length = k * 2) (hx : xs.length = n * 2) (hk : k < n) : ((zs ++ xs.drop (k * 2)).set (k * 2) u).set (k * 2 + 1) v = (zs ++ [u, v]) ++ xs.drop ((k + 1) * 2) := by
  have d1 : xs.drop (k * 2) = xs[k * 2]'(by omega) :: xs[k * 2 + 1]'(by omega) :: xs.drop ((k + 1) * 2) := by
    rw [List.drop_eq_getElem_cons (by omega : k * 2 < xs.length), List.drop_eq_getElem_cons (by omega : k * 2 + 1 < xs.length), show k * 2 + 1 + 1 = (k + 1) * 2 by omega]
  rw [List.set_append_right _ _ (by omega), hz, Nat.sub_self, d1, List.set_cons_zero, List.set_append_right _ _ (by omega), hz, show k * 2 + 1 - k * 2 = 1 by omega, List.append_assoc]
  rfl
/-- States that lie in new blocks alone. -/
def HoldN (w : World) (base : Nat) (a : Option Addr) (S : List St) : Prop := ∀ w', w.heap.size ≤ w'.heap.size → (∀ b, base ≤ b → b < w.heap.size → w'.heap[b]? = w.heap[b]?) → HoldS w' a S
theorem HoldN.now {w : World} {base : Nat} {a : Option Addr} {S : List St} (h : HoldN w base a S) : HoldS w a S := h w (Nat.le_refl _) fun _ _ _ => rfl
theorem HoldN.set {w : World} {base : Nat} {a : Option Addr} {S : List St} (h : HoldN w base a S) (B j : Nat) (u : Value) (hB : B < base) : HoldN (w.setCell ⟨B, j, none⟩ u) base a S := fun w' hz hk =>
  h w' (by simpa using hz) fun b hb hbl => (hk b hb (by simpa using hbl)).trans (heap_setCell_other w ⟨B, j, none⟩ b u (by show b ≠ B; omega))
theorem HoldN.below {w w' : World} {base : Nat} {a : Option Addr} {S : List St} (h : HoldN w base a S) (hb : Below w.heap.size w w') : HoldN w' base a S := fun w'' hz hk =>
  h w'' (Nat.le_trans hb.size hz) fun b h1 h2 => (hk b h1 (Nat.lt_of_lt_of_le h2 hb.size)).trans (hb.block b h2)
set_option maxHeartbeats 4000000 in
set_option maxRecDepth 100000 in
theorem toStates_any (a : Option Addr) (cap : Nat) (S : List St) (w : World) (hn : S.length ≤ 1048576) (hA : ∀ i, (arcsAt S i).length ≤ 1048576) (hS : HoldS w a S) :
    Calls Try.prog 60 #[.slice a S.length cap] w fun e w' => e = .returned (.slice (some ⟨w.heap.size, 0, none⟩) S.length S.length) ∧ HoldN w' w.heap.size (some ⟨w.heap.size, 0, none⟩) S ∧ w.heap.size < w'.heap.size ∧ Below w.heap.size w w' := by
  obtain ⟨i0, hi, hz0, hz1, hz2⟩ := info_parts Try.infoSt
  have HS := hidd hS
  have HA := hidd hA
  clear hS hA
  go_enter Try.func60, Try.ntmps60
  go_wp2_with (at_make; refine wpList_make_full _ rfl _ _ 25 rfl w.heap.size 82 i0 (.agg #[.bool false, .slice none 0 0]) 2 Try.underlying25 hi hz0 hz1 _ _ _ _ S.length rfl rfl (by omega) (by omega) ?b2 ?b3 (Nat.le_refl _) ?_)
  case b2 => (first | omega | (rw [hz2]; omega))
  case b3 => unfold maxLen; omega
  intro w0 hown0 hgrow0
  generalize (madeCells #[.bool false, .slice none 0 0] (S.length * 2)).toList = xs at hown0
  have hxl : xs.length = S.length * 2 := by have := hown0.1; omega
  have HO0 := hidd hown0
  have HB0 : Hid (Below w.heap.size w w0) := (Below.refl _ _).grown hgrow0 (Nat.le_refl _) (fun k h => by cases h)
  clear hown0 hgrow0
  go_wp2
  go_loopw [4] (fun i wr => ∃ (k : Nat) (zs : List Value), k ≤ S.length ∧ i = .int .i64 k ∧ wr.ownsRow w.heap.size 82 2 (.slice (some ⟨w.heap.size, 0, none⟩) S.length S.length) S.length (zs ++ xs.drop (k * 2)) ∧ CellsS wr w.heap.size zs S k ∧ Below w.heap.size w wr) (fun i _ => S.length - (intOf i).toNat)
  case atStart => exact ⟨0, [], Nat.zero_le _, rfl, HO0.out, ⟨rfl, fun j hj => absurd hj (by omega)⟩, HB0.out⟩
  case round =>
    obtain ⟨k, zs, hk, rfl, hown, hcs, hbel⟩ := hrel
    have HO := hidd hown
    have HB := hidd hbel
    have HC := hidd hcs
    have hrl : w.heap.size < wr.heap.size := own2_lt hown
    clear hcs
    by_cases hlt : k < S.length
    · obtain ⟨b, off, rfl, hbl, hc⟩ := (HS.out.below hbel).resolve_left (fun h => by rw [h] at hlt; simp at hlt)
      obtain ⟨x0, ai, ci, x1, hha⟩ := hc k hlt
      have hal := HA.out k
      rw [arcsAt] at hal
      have HHA := hidd hha
      have Hsn := hidd (fun (w' : World) (g c : Nat) (h : CellsS w' w.heap.size zs S k) => CellsS.snoc (c := c) (g := g) h)
      clear hown hbel hc hha
      obtain ⟨s, hs⟩ : ∃ s, S.getD k st0 = s := ⟨_, rfl⟩
      rw [hs] at x0 x1 HHA hal Hsn
      clear hs
      obtain ⟨f, l⟩ := s
      dsimp only at x0 x1 HHA hal Hsn
      go_wp2_with fail
      refine (toState_any f ai ci l _ hal HHA.out).mono ?_
      rintro e w2 ⟨g, rfl, hg, hh2, hb2⟩
      have hown2 := own2_below HO.out hb2
      have HB2 := hidd (HB.out.trans (hb2.mono HB.out.size))
      have HC2 := hidd (HC.out.below hb2)
      have HH2 := hidd hh2
      have f1 := hown2.frozenAt (k * 2)
      have f2 := hown2.frozenAt (k * 2 + 1)
      have hzl := HC.out.1
      have hlen : (zs ++ xs.drop (k * 2)).length = S.length * 2 := by rw [List.length_append, hzl, List.length_drop]; omega
      have hex : ∀ j, j < S.length * 2 → ∃ u, w2.cell? ⟨w.heap.size, j, none⟩ = some u := fun j hj => by
        rw [hown2.cellAt j hj]
        exact ⟨_, List.getElem?_eq_getElem (by omega)⟩
      obtain ⟨u1, q1⟩ := hex (k * 2) (by omega)
      obtain ⟨u2, q2⟩ := hex (k * 2 + 1) (by omega)
      have HO2 := hidd hown2
      have HSet := hidd (setTwo zs xs k S.length (.bool f) (.slice (some ⟨g, 0, none⟩) l.length l.length) hzl hxl hlt)
      clear hown2 hb2 hex hlen HO HB x0 x1 hh2 HC
      go_wp2
      go_roundw
      case rel =>
        have s0 := HO2.out.stored (k * 2) (.bool f)
        have s1 := s0.1.stored (k * 2 + 1) (.slice (some ⟨g, 0, none⟩) l.length l.length)
        have st := s1.1
        rw [HSet.out] at st
        exact ⟨k + 1, _, by omega, by go_num, st, Hsn.out _ g l.length ((HC2.out.set _ _).set _ _) (by omega) ((HH2.out.setOther _ _ _ (fun b off e => by cases e; omega)).setOther _ _ _ (fun b off e => by cases e; omega)), (HB2.out.setCell (p := ⟨w.heap.size, k * 2, none⟩) (Nat.le_refl _) _).setCell (p := ⟨w.heap.size, k * 2 + 1, none⟩) (Nat.le_refl _) _⟩
      case measure => simp [intOf]; omega
    · obtain rfl : k = S.length := by omega
      have HF := HO.out
      rw [List.drop_of_length_le (by omega), List.append_nil] at HF
      have HF2 : Hid (HoldN wr w.heap.size (some ⟨w.heap.size, 0, none⟩) S) := fun w' hz hk => Or.inr ⟨w.heap.size, 0, rfl, by omega, fun j hj => by
        obtain ⟨h1, g, c, h2, h3, h4⟩ := HC.out.2 j hj
        have e : ∀ i, w'.cell? ⟨w.heap.size, i, none⟩ = wr.cell? ⟨w.heap.size, i, none⟩ := fun i => by simp [World.cell?, hk w.heap.size (Nat.le_refl _) hrl]
        rw [Nat.zero_add, e, e]
        exact ⟨by rw [HF.cellAt (j * 2) (by omega)]; exact h1, _, c, by rw [HF.cellAt (j * 2 + 1) (by omega)]; exact h2, h4.keep hz fun b off he hb => hk b (by cases he; omega) hb⟩⟩
      clear HF hown hbel
      go_wp2
      go_ret
      exact ⟨rfl, HF2.out, hrl, HB.out⟩
set_option maxHeartbeats 4000000 in
set_option maxRecDepth 100000 in
theorem toDict_any (f : Int) (a : Option Addr) (cap : Nat) (l : List St) (w : World) (hn : l.length ≤ 1048576) (hA : ∀ i, (arcsAt l i).length ≤ 1048576) (h : HoldS w a l) :
    Calls Try.prog 26 #[.agg #[.int .i64 f, .slice a l.length cap]] w fun e w' => ∃ g, e = .returned (.agg #[.int .i64 f, .slice (some ⟨g, 0, none⟩) l.length l.length]) ∧ w.heap.size ≤ g ∧ HoldN w' g (some ⟨g, 0, none⟩) l ∧ Below w.heap.size w w' := by
  have HH := hidd h
  clear h
  go_enter Try.func26, Try.ntmps26
  go_upto_region 3 with fail
  obtain ⟨W3, hW3⟩ : ∃ W3, ((w.alloc (.cells #[.int .i64 f, .slice a l.length cap] 49)).alloc (.cells #[.int .i64 0, .slice none 0 0] 27)).alloc (.cells #[.int .i64 f, .slice none 0 0] 27) = W3 := ⟨_, rfl⟩
  have hk0 : W3.heap[w.heap.size]? = some (.cells #[.int .i64 f, .slice a l.length cap] 49) ∧ W3.heap[w.heap.size + 1]? = some (.cells #[.int .i64 0, .slice none 0 0] 27) ∧ W3.heap[w.heap.size + 1 + 1]? = some (.cells #[.int .i64 f, .slice none 0 0] 27) ∧ W3.heap.size = w.heap.size + 3 := by
    rw [← hW3]
    have h2 := box_two w (.cells #[.int .i64 f, .slice a l.length cap] 49) (.cells #[.int .i64 0, .slice none 0 0] 27)
    refine ⟨?_, ?_, ?_, by simp⟩
    · rw [Below.heap_alloc _ _ _ (by simp; omega)]; exact h2.1
    · rw [Below.heap_alloc _ _ _ (by simp)]; exact h2.2
    · have := heap_alloc_new ((w.alloc (.cells #[.int .i64 f, .slice a l.length cap] 49)).alloc (.cells #[.int .i64 0, .slice none 0 0] 27)) (.cells #[.int .i64 f, .slice none 0 0] 27)
      simpa using this
  have HB3 : Hid (Below w.heap.size w W3) := by
    show Below _ _ _
    rw [← hW3]
    exact (((Below.refl _ _).alloc (Nat.le_refl _) _).alloc (by simp) _).alloc (by simp; omega) _
  try rw [hW3]
  clear hW3
  have HK := hidd hk0
  clear hk0
  have q1 : W3.cell? ⟨w.heap.size, 1, none⟩ = some (.slice a l.length cap) := blkc HK.out.1 1
  go_wp2_with fail
  refine (toStates_any a cap l _ hn hA (HH.out.below HB3.out)).mono ?_
  rintro e w4 ⟨rfl, hhn4, hsz4, hb4⟩
  have Hh4 := hidd hhn4
  have hz3 := HK.out.2.2.2
  have k1 := blko HK.out.2.1 hb4
  have k2 := blko HK.out.2.2.1 hb4
  have HB4 := hidd (HB3.out.trans (hb4.mono HB3.out.size))
  have c10 : w4.cell? ⟨w.heap.size + 1, 0, none⟩ = some (.int .i64 0) := blkc k1 0
  have c11 : w4.cell? ⟨w.heap.size + 1, 1, none⟩ = some (.slice none 0 0) := blkc k1 1
  have c20 : w4.cell? ⟨w.heap.size + 1 + 1, 0, none⟩ = some (.int .i64 f) := blkc k2 0
  have c21 : w4.cell? ⟨w.heap.size + 1 + 1, 1, none⟩ = some (.slice none 0 0) := blkc k2 1
  have f10 : w4.frozen? ⟨w.heap.size + 1, 0, none⟩ = false := frozen_of_row w4 _ 0 _ _ k1
  have f11 : w4.frozen? ⟨w.heap.size + 1, 1, none⟩ = false := frozen_of_row w4 _ 1 _ _ k1
  have f21 : w4.frozen? ⟨w.heap.size + 1 + 1, 1, none⟩ = false := frozen_of_row w4 _ 1 _ _ k2
  clear hhn4 hsz4 hb4 HB3 q1
  rw [hz3] at Hh4
  clear k1 k2
  go_wp2_with fail
  refine bodyPost_ret (v := .agg #[.int .i64 f, .slice (some ⟨w.heap.size + 3, 0, none⟩) l.length l.length]) (by simp [results, Try.results26, go_sem, *]) rfl ?_
  refine ⟨w.heap.size + 3, rfl, by omega, ?_, ?_⟩
  · iterate 3 refine HoldN.set ?_ _ _ _ (by omega)
    exact Hh4.out
  · iterate 3 refine Below.setCell ?_ (by dsimp only; omega) _
    exact HB4.out

end Go.Proofs.Ytbkedgpligcicaa

namespace Go.Proofs.Ytbkedgpligcicaa
open Go Go.RowKit
set_option linter.unusedVariables false

def szN (left : Int) (n : Nat) : Int := if left - (n : Int) < 0 then -1 else left - (n : Int)
def szGoD : Int → List St → Int
  | left, [] => left
  | left, s :: t => if szN left s.2.length < 0 then -1 else szGoD (szN left s.2.length) t
def szD (left : Int) (S : List St) : Int := if left - (S.length : Int) < 0 then -1 else szGoD (left - (S.length : Int)) S
theorem szGoD_ok : ∀ (S : List St) (left : Int), 0 ≤ szGoD left S → szGoD left S ≤ left ∧ ∀ s ∈ S, (s.2.length : Int) ≤ left
  | [], left, h => ⟨by simp [szGoD], by simp⟩
  | s :: t, left, h => by
    simp only [szGoD] at h ⊢
    split at h
    · omega
    · rename_i hn
      rw [if_neg hn]
      have hs : (s.2.length : Int) ≤ left ∧ szN left s.2.length ≤ left := by
        unfold szN at hn ⊢
        split at hn
        · omega
        · rename_i h2; rw [if_neg h2]; omega
      obtain ⟨h1, h2⟩ := szGoD_ok t _ h
      refine ⟨by omega, fun x hx => ?_⟩
      rcases List.mem_cons.1 hx with rfl | hx
      · exact hs.1
      · have := h2 x hx; omega
theorem szD_ok {S : List St} (h : 0 ≤ szD 1048576 S) : S.length ≤ 1048576 ∧ ∀ i, (arcsAt S i).length ≤ 1048576 := by
  unfold szD at h
  split at h
  · omega
  · obtain ⟨h1, h2⟩ := szGoD_ok S _ h
    refine ⟨by omega, fun i => ?_⟩
    by_cases hi : i < S.length
    · have : S.getD i st0 ∈ S := by rw [List.getD_eq_getElem?_getD, List.getElem?_eq_getElem hi]; exact List.getElem_mem _
      have := h2 _ this
      unfold arcsAt
      omega
    · simp [arcsAt, hi, st0]
theorem szN_le (left : Int) (n : Nat) (h0 : 0 ≤ left) : -1 ≤ szN left n ∧ szN left n ≤ left := by
  unfold szN; split <;> omega
theorem szGoD_step (S : List St) (k : Nat) (left : Int) (h : k < S.length) : szGoD left (S.drop k) = if szN left (S.getD k st0).2.length < 0 then -1 else szGoD (szN left (S.getD k st0).2.length) (S.drop (k + 1)) := by
  rw [List.drop_eq_getElem_cons h, szGoD]; simp [h]

set_option maxHeartbeats 1000000 in
theorem szArcs_any (a : Option Addr) (n c : Nat) (left : Int) (w : World) (h0 : 0 ≤ left) (h1 : left ≤ 1048576) (hn : n ≤ 9223372036854775807) :
    Calls Try.prog 104 #[.slice a n c, .int .i64 left] w fun e w' => e = .returned (.int .i64 (szN left n)) ∧ w' = w := by
  by_cases h : left - (n : Int) < 0
  · have HE : Hid (szN left n = -1) := by show _ = _; rw [szN, if_pos h]
    go_enter Try.func104, Try.ntmps104
    go_wp2_with fail
    go_ret
    rw [HE.out]
    exact ⟨rfl, rfl⟩
  · have HE : Hid (szN left n = left - (n : Int)) := by show _ = _; rw [szN, if_neg h]
    go_enter Try.func104, Try.ntmps104
    go_wp2_with fail
    go_ret
    rw [HE.out]
    exact ⟨rfl, rfl⟩
set_option maxHeartbeats 1000000 in
theorem szState_any (f : Bool) (a : Option Addr) (n c : Nat) (left : Int) (w : World) (h0 : 0 ≤ left) (h1 : left ≤ 1048576) (hn : n ≤ 9223372036854775807) :
    Calls Try.prog 89 #[.agg #[.bool f, .slice a n c], .int .i64 left] w fun e w' => e = .returned (.int .i64 (szN left n)) ∧ Below w.heap.size w w' := by
  have HBa : Hid (Below w.heap.size w (w.alloc (.cells #[.bool f, .slice a n c] 150))) := (Below.refl _ _).alloc (Nat.le_refl _) _
  have hs := szN_le left n h0
  obtain ⟨X, hX0⟩ : ∃ X, szN left n = X := ⟨_, rfl⟩
  rw [hX0] at hs ⊢
  have HX := hidd hX0
  clear hX0
  go_enter Try.func89, Try.ntmps89
  go_wp2_with fail
  refine (szArcs_any a n c left _ h0 h1 hn).mono ?_
  rintro e w' ⟨rfl, hw'⟩
  subst hw'
  rw [HX.out]
  by_cases hX : X < 0
  · obtain rfl : X = -1 := by omega
    go_wp2_with fail
    go_ret
    exact ⟨rfl, HBa.out⟩
  · go_wp2_with fail
    go_ret
    exact ⟨rfl, HBa.out⟩
set_option maxHeartbeats 2000000 in
set_option maxRecDepth 100000 in
theorem szStates_any (a : Option Addr) (c : Nat) (S : List St) (left : Int) (w : World) (h0 : 0 ≤ left) (h1 : left ≤ 1048576) (hn : S.length ≤ 9223372036854775807) (hA : ∀ i, (arcsAt S i).length ≤ 9223372036854775807) (hS : HoldS w a S) :
    Calls Try.prog 58 #[.slice a S.length c, .int .i64 left] w fun e w' => e = .returned (.int .i64 (szD left S)) ∧ Below w.heap.size w w' := by
  have HS := hidd hS
  have HA := hidd hA
  clear hS hA
  by_cases h : left - (S.length : Int) < 0
  · have HE : Hid (szD left S = -1) := by show _ = _; rw [szD, if_pos h]
    go_enter Try.func58, Try.ntmps58
    go_wp2_with fail
    go_ret
    rw [HE.out]
    exact ⟨rfl, Below.refl _ _⟩
  · obtain ⟨R, hR⟩ : ∃ R, szD left S = R := ⟨_, rfl⟩
    rw [hR]
    have HE : Hid (szGoD (left - (S.length : Int)) S = R) := by show _ = _; rw [← hR, szD, if_neg h]
    clear hR
    go_enter Try.func58, Try.ntmps58
    go_wp2_with fail
    go_loopw [1, 5] (fun lv iv wr => ∃ (k : Nat) (x : Int), k ≤ S.length ∧ iv = .int .i64 (k : Int) ∧ lv = .int .i64 x ∧ 0 ≤ x ∧ x ≤ 1048576 ∧ szGoD x (S.drop k) = R ∧ Below w.heap.size w wr) (fun _ iv _ => S.length - (intOf iv).toNat)
    case atStart => exact ⟨0, _, Nat.zero_le _, rfl, rfl, by omega, by omega, by rw [List.drop_zero]; exact HE.out, Below.refl _ _⟩
    case round =>
      clear HE
      obtain ⟨k, x, hk, rfl, rfl, hx0, hx1, hgo, hbel⟩ := hrel
      have HG := hidd hgo
      have HB := hidd hbel
      clear hgo hbel
      by_cases hlt : k < S.length
      · have hkz : (k : Int) < (S.length : Int) := by omega
        obtain ⟨b, off, rfl, hbl, hc⟩ := (HS.out.below HB.out).resolve_left (fun h => by rw [h] at hlt; simp at hlt)
        obtain ⟨x0, ai, ci, x1, hha⟩ := hc k hlt
        clear hc hha
        rw [szGoD_step S k x hlt] at HG
        have hal := HA.out k
        rw [arcsAt] at hal
        generalize S.getD k st0 = s at *
        obtain ⟨f, l⟩ := s
        dsimp only at x0 x1 HG hal
        have hs := szN_le x l.length hx0
        go_wp2_with fail
        refine (szState_any f ai l.length ci x _ hx0 hx1 hal).mono ?_
        rintro e w3 ⟨rfl, hb3⟩
        have HB3 := hidd (HB.out.trans (hb3.mono HB.out.size))
        clear hb3
        generalize szN x l.length = X at *
        by_cases hX : X < 0
        · obtain rfl : X = -1 := by omega
          rw [if_pos hX] at HG
          go_wp2_with fail
          go_ret
          rw [← HG.out]
          exact ⟨rfl, HB3.out⟩
        · rw [if_neg hX] at HG
          go_wp2_with fail
          go_roundw
          case rel => exact ⟨k + 1, X, by omega, by go_num, rfl, by omega, by omega, HG.out, HB3.out⟩
          case measure => simp [intOf]; omega
      · have hkz : ¬ (k : Int) < (S.length : Int) := by omega
        rw [List.drop_of_length_le (by omega), szGoD] at HG
        go_wp2_with fail
        go_ret
        rw [← HG.out]
        exact ⟨rfl, HB.out⟩
set_option maxHeartbeats 1000000 in
theorem szDict_any (c : Int) (a : Option Addr) (cap : Nat) (S : List St) (w : World) (hn : S.length ≤ 9223372036854775807) (hA : ∀ i, (arcsAt S i).length ≤ 9223372036854775807) (hS : HoldS w a S) :
    Calls Try.prog 24 #[.agg #[.int .i64 c, .slice a S.length cap], .int .i64 1048576] w fun e w' => e = .returned (.int .i64 (szD 1048576 S)) ∧ Below w.heap.size w w' := by
  have HBa : Hid (Below w.heap.size w (w.alloc (.cells #[.int .i64 c, .slice a S.length cap] 49))) := (Below.refl _ _).alloc (Nat.le_refl _) _
  have HS := hidd hS
  clear hS
  obtain ⟨X, hX0⟩ : ∃ X, szD 1048576 S = X := ⟨_, rfl⟩
  have hge : -1 ≤ X := by
    rw [← hX0]
    unfold szD
    split
    · omega
    · have key : ∀ (t : List St) (l : Int), 0 ≤ l → -1 ≤ szGoD l t := by
        intro t
        induction t with
        | nil => intro l hl; simp [szGoD]; omega
        | cons s t ih =>
          intro l hl
          simp only [szGoD]
          split
          · omega
          · exact ih _ (by omega)
      exact key S _ (by omega)
  rw [hX0]
  have HX := hidd hX0
  clear hX0
  go_enter Try.func24, Try.ntmps24
  go_wp2_with fail
  refine (szStates_any a cap S 1048576 _ (by omega) (by omega) hn hA (HS.out.below HBa.out)).mono ?_
  rintro e w3 ⟨rfl, hb3⟩
  have HB3 := hidd (HBa.out.trans (hb3.mono HBa.out.size))
  clear hb3
  rw [HX.out]
  by_cases hX : X < 0
  · obtain rfl : X = -1 := by omega
    go_wp2_with fail
    go_ret
    exact ⟨rfl, HB3.out⟩
  · go_wp2_with fail
    go_ret
    exact ⟨rfl, HB3.out⟩
end Go.Proofs.Ytbkedgpligcicaa

namespace Go.Proofs.Ytbkedgpligcicaa
open Go Go.RowKit
set_option linter.unusedVariables false

/-- Whether states and a count are a dictionary. -/
noncomputable def okD (c : Int) (S : List St) : Bool := @decide (∃ ts, IsDict (c, S) ts) (Classical.propDecidable _)
/-- What the two functions have to do. -/
def OkC (fn : Nat) : Prop := ∀ (c : Int) (a : Option Addr) (cap : Nat) (S : List St) (w : World), S.length ≤ 1048576 → (∀ i, (arcsAt S i).length ≤ 1048576) → HoldS w a S →
  Calls Try.prog fn #[.agg #[.int .i64 c, .slice a S.length cap]] w fun e w' => e = .returned (.bool (okD c S)) ∧ Below w.heap.size w w'

end Go.Proofs.Ytbkedgpligcicaa

namespace Go.Proofs.Ytbkedgpligcicaa
open Go
set_option linter.unusedVariables false

/-! The tally: of each state how many endings it has, how long they are. -/
def valE (E : List Nat) (j : Nat) : Nat := E.getD j 0
structure TalOK (S : List St) (E G : List Nat) : Prop where
  lenE : E.length = S.length
  lenG : G.length = S.length
  ends : ∀ i, i < S.length → 0 < valE E i → valE E i = (if finAt S i then 1 else 0) + sumE (valE E) (arcsAt S i)
  most : ∀ i, i < S.length → 0 < valE E i → valE E i ≤ 4096 ∧ valE G i ≤ 64
  next : ∀ i, i < S.length → 0 < valE E i → ∀ a ∈ arcsAt S i, 0 < valE E a.2.1.toNat ∧ valE G a.2.1.toNat + 1 ≤ valE G i
structure Sane (S : List St) (e g : Nat → Nat) : Prop where
  ends : ∀ i, i < S.length → e i = (if finAt S i then 1 else 0) + sumE e (arcsAt S i)
  least : ∀ i, i < S.length → 1 ≤ e i
  most : ∀ i, i < S.length → e i ≤ 4096
  long : ∀ i, i < S.length → ∀ a ∈ arcsAt S i, g a.2.1.toNat + 1 ≤ g i
  deep : ∀ i, i < S.length → g i ≤ 64
def Agree (S : List St) (E G : List Nat) (e g : Nat → Nat) : Prop := ∀ i, i < S.length → 0 < valE E i → valE E i = e i ∧ valE G i ≤ g i
theorem valE_set (E : List Nat) (i x j : Nat) (hi : i < E.length) : valE (E.set i x) j = if j = i then x else valE E j := by
  unfold valE
  rw [List.getD_eq_getElem?_getD, List.getD_eq_getElem?_getD, List.getElem?_set]
  by_cases h : j = i
  · subst h; simp [hi]
  · rw [if_neg h, if_neg (fun e => h e.symm)]
theorem sumE_congr {e e' : Nat → Nat} {l : List Ar} (h : ∀ a ∈ l, e a.2.1.toNat = e' a.2.1.toNat) : sumE e l = sumE e' l := by
  unfold sumE
  rw [List.map_congr_left h]
theorem sumE_take {e : Nat → Nat} {l : List Ar} {k : Nat} {a : Ar} (h : l[k]? = some a) : sumE e (l.take (k + 1)) = sumE e (l.take k) + e a.2.1.toNat := by
  obtain ⟨hk, rfl⟩ := List.getElem?_eq_some_iff.1 h
  rw [sumE, List.take_succ_eq_append_getElem hk, List.map_append, List.sum_append]
  simp [sumE]
/-- What one state is given. -/
theorem TalOK.set {S : List St} {E G : List Nat} (h : TalOK S E G) {i en lo : Nat} (hi : i < S.length) (hen : en = (if finAt S i then 1 else 0) + sumE (valE E) (arcsAt S i))
    (hpos : ∀ a ∈ arcsAt S i, 0 < valE E a.2.1.toNat ∧ valE G a.2.1.toNat + 1 ≤ lo) (hlo : ∀ m, (∀ a ∈ arcsAt S i, valE G a.2.1.toNat + 1 ≤ m) → lo ≤ m) (h1 : en ≤ 4096) (h2 : lo ≤ 64) : TalOK S (E.set i en) (G.set i lo) := by
  have vE := fun j => valE_set E i en j (by rw [h.lenE]; exact hi)
  have vG := fun j => valE_set G i lo j (by rw [h.lenG]; exact hi)
  by_cases h0 : 0 < valE E i
  · have hsame : en = valE E i := hen.trans (h.ends i hi h0).symm
    have hlo' : lo ≤ valE G i := hlo _ fun a ha => (h.next i hi h0 a ha).2
    have vE' : ∀ j, valE (E.set i en) j = valE E j := by
      intro j
      rw [vE]
      by_cases hj : j = i
      · rw [if_pos hj, hj, hsame]
      · rw [if_neg hj]
    have hno : ∀ a ∈ arcsAt S i, a.2.1.toNat ≠ i := fun a ha he => by have := (h.next i hi h0 a ha).2; rw [he] at this; omega
    refine ⟨by simpa using h.lenE, by simpa using h.lenG, fun j hj hp => ?_, fun j hj hp => ?_, fun j hj hp a ha => ?_⟩
    · rw [vE'] at hp ⊢
      rw [h.ends j hj hp, sumE_congr (fun a _ => vE' _)]
    · rw [vE'] at hp ⊢
      refine ⟨(h.most j hj hp).1, ?_⟩
      rw [vG]
      split
      · exact h2
      · exact (h.most j hj hp).2
    · rw [vE'] at hp ⊢
      have hn := h.next j hj hp a ha
      refine ⟨hn.1, ?_⟩
      rw [vG, vG]
      by_cases hji : j = i
      · subst hji
        rw [if_pos rfl, if_neg (hno a ha)]
        exact (hpos a ha).2
      · rw [if_neg hji]
        split
        · rename_i ht; rw [ht] at hn; omega
        · exact hn.2
  · have h0' : valE E i = 0 := by omega
    have hne : ∀ j, j < S.length → 0 < valE E j → ∀ a ∈ arcsAt S j, a.2.1.toNat ≠ i := fun j hj hp a ha he => by have := (h.next j hj hp a ha).1; rw [he] at this; omega
    have hno : ∀ a ∈ arcsAt S i, a.2.1.toNat ≠ i := fun a ha he => by have := (hpos a ha).1; rw [he] at this; omega
    refine ⟨by simpa using h.lenE, by simpa using h.lenG, fun j hj hp => ?_, fun j hj hp => ?_, fun j hj hp a ha => ?_⟩
    · by_cases hji : j = i
      · subst hji
        have e1 : sumE (valE (E.set j en)) (arcsAt S j) = sumE (valE E) (arcsAt S j) := sumE_congr fun a ha => by rw [vE, if_neg (hno a ha)]
        rw [e1, vE, if_pos rfl]
        exact hen
      · rw [vE, if_neg hji] at hp ⊢
        rw [h.ends j hj hp]
        congr 1
        exact sumE_congr fun a ha => by rw [vE, if_neg (hne j hj hp a ha)]
    · by_cases hji : j = i
      · subst hji; rw [vE, vG, if_pos rfl, if_pos rfl]; exact ⟨h1, h2⟩
      · rw [vE, if_neg hji] at hp ⊢
        rw [vG, if_neg hji]
        exact h.most j hj hp
    · by_cases hji : j = i
      · subst hji
        rw [vE, vG, vG, if_neg (hno a ha), if_neg (hno a ha), if_pos rfl]
        exact hpos a ha
      · rw [vE, if_neg hji] at hp
        rw [vE, vG, vG, if_neg (hne j hj hp a ha), if_neg (hne j hj hp a ha), if_neg hji]
        exact h.next j hj hp a ha
/-- What a way through all states has counted. -/
theorem TalOK.ends_all {S : List St} {E G : List Nat} (h : TalOK S E G) (h0 : 0 < valE E 0) (hn : 0 < S.length) (hto : ∀ i, i < S.length → ∀ a ∈ arcsAt S i, a.2.1.toNat < S.length) (hb : IsBfs (toAt S) 0 (List.range S.length)) : ∀ i, i < S.length → 0 < valE E i := by
  intro i hi
  have := hb.all (fun x => x < S.length ∧ 0 < valE E x) ⟨hn, h0⟩ (fun x hx y hy => by
    obtain ⟨a, ha, rfl⟩ := List.mem_map.1 hy
    exact ⟨hto x hx.1 a ha, (h.next x hx.1 hx.2 a ha).1⟩) i (by simp; exact hi)
  exact this.2
theorem IsDict.sane {c : Int} {S : List St} {ts : List Tx} (h : IsDict (c, S) ts) (hne : ts ≠ []) : Sane S (fun i => (lang S i).length) (fun i => maxT (lang S i)) := by
  have hc := h.checks hne
  refine ⟨hc.ends, hc.least, ?_, hc.long, hc.deep⟩
  obtain ⟨hg, ord, hb, hlen, hd⟩ := h
  unfold dictOf at hd
  obtain ⟨_, hS⟩ := Prod.mk.inj hd
  intro i hi
  have hi' : i < ord.length := by rw [hS, List.length_map] at hi; exact hi
  have hway : ∀ L ∈ ord, OnWay ts L := hb.all (OnWay ts) ⟨hg.1, hne, Nat.le_refl _, fun t ht => (hg.2.2 t ht).2⟩ (fun x hx => hx.next)
  have hw := hway ord[i] (List.getElem_mem hi')
  have := langF_of hb 65 i ord[i] (List.getElem?_eq_getElem hi') hw.1 (fun t ht => by have := hw.2.2.2 t ht; omega)
  rw [← hS] at this
  show (lang S i).length ≤ 4096
  rw [lang, this]
  exact Nat.le_trans hw.2.2.1 hg.2.1
end Go.Proofs.Ytbkedgpligcicaa

namespace Go.Proofs.Ytbkedgpligcicaa
open Go
set_option linter.unusedVariables false

/-! Whether the states have the numbers with which they are met. -/
def arcGo (n : Nat) : Nat → Int → List Ar → Option Nat
  | met, last, [] => some met
  | met, last, a :: t => if last + 1 ≤ a.1 ∧ a.1 ≤ 255 ∧ 0 ≤ a.2.1 ∧ a.2.1 ≤ min (met : Int) ((n : Int) - 1) then arcGo n (if a.2.1 = (met : Int) then met + 1 else met) a.1 t else none
def metGo (n : Nat) : Nat → Nat → List St → Bool
  | i, met, [] => true
  | i, met, s :: t => if i = met then false else match arcGo n met (-1) s.2 with
    | none => false
    | some m => metGo n (i + 1) m t
def metOK (S : List St) : Bool := decide (1 ≤ S.length ∧ S.length ≤ 16384) && metGo S.length 0 1 S

theorem meet_range (m x : Nat) (h : x ≤ m) : meet (List.range m) x = List.range (if x = m then m + 1 else m) := by
  unfold meet
  by_cases hx : x = m
  · subst hx
    rw [if_neg (by simp), if_pos rfl, List.range_succ]
  · rw [if_pos (by simp; omega), if_neg hx]
theorem arcGo_some (n : Nat) : ∀ (l : List Ar) (met : Nat) (last : Int) (m : Nat), arcGo n met last l = some m →
    (l.Pairwise fun a b => a.1 < b.1) ∧ (∀ a ∈ l, last < a.1 ∧ a.1 ≤ 255 ∧ 0 ≤ a.2.1 ∧ a.2.1 < n) ∧ meets (List.range met) (l.map fun a => a.2.1.toNat) = List.range m
  | [], met, last, m, h => by
    simp only [arcGo, Option.some.injEq] at h
    subst h
    exact ⟨List.Pairwise.nil, by simp, rfl⟩
  | a :: t, met, last, m, h => by
    simp only [arcGo] at h
    split at h
    · rename_i hc
      obtain ⟨h1, h2, h3, h4⟩ := hc
      obtain ⟨g1, g2, g3⟩ := arcGo_some n t _ _ m h
      refine ⟨List.pairwise_cons.2 ⟨fun b hb => (g2 b hb).1, g1⟩, ?_, ?_⟩
      · intro b hb
        rcases List.mem_cons.1 hb with rfl | hb
        · exact ⟨by omega, h2, h3, by omega⟩
        · have := g2 b hb
          exact ⟨by omega, this.2⟩
      · show meets (meet (List.range met) a.2.1.toNat) (t.map fun a => a.2.1.toNat) = _
        rw [meet_range met a.2.1.toNat (by omega), ← g3]
        by_cases hm : a.2.1 = (met : Int)
        · rw [if_pos hm, if_pos (by omega)]
        · rw [if_neg hm, if_neg (by omega)]
    · cases h
theorem range_pre {m k : Nat} {r : List Nat} (h : List.range m ++ r = List.range k) : m ≤ k ∧ ∀ x ∈ r.head?, x = m := by
  have hl := congrArg List.length h
  simp at hl
  refine ⟨by omega, ?_⟩
  intro x hx
  cases r with
  | nil => simp at hx
  | cons y t =>
    simp at hx
    subst hx
    have := congrArg (fun l => l[m]?) h
    simp only [List.getElem?_append_right (show (List.range m).length ≤ m by simp), List.length_range, Nat.sub_self, List.getElem?_cons_zero] at this
    simp at hl
    have h2 : (List.range k)[m]? = some m := List.getElem?_range (by omega)
    rw [h2] at this
    exact Option.some.inj this
theorem arcGo_of (n : Nat) : ∀ (l : List Ar) (met : Nat) (last : Int) (k : Nat), (l.Pairwise fun a b => a.1 < b.1) → (∀ a ∈ l, last < a.1 ∧ a.1 ≤ 255 ∧ 0 ≤ a.2.1 ∧ a.2.1.toNat < n) → (∃ r, meets (List.range met) (l.map fun a => a.2.1.toNat) ++ r = List.range k) →
    ∃ m, arcGo n met last l = some m
  | [], met, last, k, _, _, _ => ⟨met, rfl⟩
  | a :: t, met, last, k, hp, hl, ⟨r, hr⟩ => by
    rw [List.pairwise_cons] at hp
    have ha := hl a (by simp)
    have hr' : meets (meet (List.range met) a.2.1.toNat) (t.map fun a => a.2.1.toNat) ++ r = List.range k := hr
    have hle : a.2.1.toNat ≤ met := by
      by_cases hx : a.2.1.toNat < met
      · omega
      · have e : meet (List.range met) a.2.1.toNat = List.range met ++ [a.2.1.toNat] := by
          unfold meet
          rw [if_neg (by simp; omega)]
        rw [e] at hr'
        obtain ⟨q, hq⟩ := meets_pre (t.map fun a => a.2.1.toNat) (List.range met ++ [a.2.1.toNat])
        rw [hq, List.append_assoc, List.append_assoc] at hr'
        have := (range_pre hr').2 a.2.1.toNat (by simp)
        omega
    have hc : last + 1 ≤ a.1 ∧ a.1 ≤ 255 ∧ 0 ≤ a.2.1 ∧ a.2.1 ≤ min (met : Int) ((n : Int) - 1) := ⟨by omega, ha.2.1, ha.2.2.1, by omega⟩
    rw [meet_range met a.2.1.toNat hle] at hr'
    have e2 : (if a.2.1.toNat = met then met + 1 else met) = (if a.2.1 = (met : Int) then met + 1 else met) := by
      by_cases hm : a.2.1 = (met : Int)
      · rw [if_pos hm, if_pos (by omega)]
      · rw [if_neg hm, if_neg (by omega)]
    rw [e2] at hr'
    obtain ⟨m, hm⟩ := arcGo_of n t _ a.1 k hp.2 (fun b hb => ⟨hp.1 b hb, (hl b (by simp [hb])).2⟩) ⟨r, hr'⟩
    exact ⟨m, by rw [arcGo, if_pos hc]; exact hm⟩
theorem drop_arcs {S : List St} {i : Nat} {s : St} {t : List St} (h : S.drop i = s :: t) : i < S.length ∧ arcsAt S i = s.2 ∧ S.drop (i + 1) = t := by
  have hi : i < S.length := by
    rcases Nat.lt_or_ge i S.length with h' | h'
    · exact h'
    · rw [List.drop_of_length_le h'] at h; cases h
  rw [List.drop_eq_getElem_cons hi] at h
  injection h with h1 h2
  exact ⟨hi, by rw [arcsAt, List.getD_eq_getElem?_getD, List.getElem?_eq_getElem hi, ← h1]; rfl, h2⟩
def ArcsOK (S : List St) (i : Nat) : Prop := ((arcsAt S i).Pairwise fun a b => a.1 < b.1) ∧ ∀ a ∈ arcsAt S i, 0 ≤ a.1 ∧ a.1 ≤ 255 ∧ 0 ≤ a.2.1 ∧ a.2.1.toNat < S.length
theorem arcGo_ge (n : Nat) {l : List Ar} {met : Nat} {last : Int} {m : Nat} (h : arcGo n met last l = some m) : met ≤ m := by
  obtain ⟨_, _, g3⟩ := arcGo_some n l met last m h
  obtain ⟨r, hr⟩ := meets_pre (l.map fun a => a.2.1.toNat) (List.range met)
  rw [g3] at hr
  have := congrArg List.length hr
  simp at this
  omega
theorem metGo_true (S : List St) : ∀ (t : List St) (i met : Nat), S.drop i = t → bfs (toAt S) i 0 [0] = List.range met → metGo S.length i met t = true → i + t.length = S.length → i ≤ met →
    (∀ j, i ≤ j → j < S.length → ArcsOK S j) ∧ ∃ m, bfs (toAt S) S.length 0 [0] = List.range m ∧ S.length ≤ m
  | [], i, met, hd, hb, hm, hl, hle => by
    simp at hl
    subst hl
    exact ⟨fun j h1 h2 => absurd h1 (by omega), met, hb, hle⟩
  | s :: t, i, met, hd, hb, hm, hl, hle => by
    obtain ⟨hi, ha, hd2⟩ := drop_arcs hd
    simp only [metGo] at hm
    split at hm
    · cases hm
    · rename_i hne
      cases hg : arcGo S.length met (-1) s.2 with
      | none => rw [hg] at hm; cases hm
      | some m =>
        rw [hg] at hm
        obtain ⟨g1, g2, g3⟩ := arcGo_some _ _ _ _ _ hg
        have hge := arcGo_ge _ hg
        have hx : (List.range met)[i]? = some i := List.getElem?_range (by omega)
        have hb2 : bfs (toAt S) (i + 1) 0 [0] = List.range m := by
          rw [bfs_step hb hx, toAt, ha, g3]
        simp only [List.length_cons] at hl
        obtain ⟨r1, m', r2, r3⟩ := metGo_true S t (i + 1) m hd2 hb2 hm (by omega) (by omega)
        refine ⟨fun j h1 h2 => ?_, m', r2, r3⟩
        by_cases hj : j = i
        · subst hj
          refine ⟨ha ▸ g1, fun a haa => ?_⟩
          rw [ha] at haa
          have := g2 a haa
          omega
        · exact r1 j (by omega) h2
theorem metGo_of (S : List St) (hok : ∀ j, j < S.length → ArcsOK S j) (f : Nat) (hf : bfs (toAt S) f 0 [0] = List.range S.length) (hlen : S.length ≤ f) : ∀ (t : List St) (i met : Nat), S.drop i = t → bfs (toAt S) i 0 [0] = List.range met → i + t.length = S.length → metGo S.length i met t = true
  | [], i, met, hd, hb, hl => rfl
  | s :: t, i, met, hd, hb, hl => by
    obtain ⟨hi, ha, hd2⟩ := drop_arcs hd
    simp only [List.length_cons] at hl
    have hpre : ∀ i, i ≤ f → ∃ r, bfs (toAt S) i 0 [0] ++ r = List.range S.length := by
      intro i hif
      obtain ⟨d, rfl⟩ : ∃ d, f = i + d := ⟨f - i, by omega⟩
      clear hlen
      have key : ∀ d, ∃ r, bfs (toAt S) (i + d) 0 [0] = bfs (toAt S) i 0 [0] ++ r := by
        intro d
        induction d with
        | zero => exact ⟨[], by simp⟩
        | succ d ih =>
          obtain ⟨r, hr⟩ := ih
          rw [show i + (d + 1) = (i + d) + 1 from by omega, bfs_snoc]
          split
          · exact ⟨r, hr⟩
          · rename_i x hx
            obtain ⟨r2, hr2⟩ := meets_pre (toAt S x) (bfs (toAt S) (i + d) 0 [0])
            exact ⟨r ++ r2, by rw [hr2, hr, List.append_assoc]⟩
      obtain ⟨r, hr⟩ := key d
      exact ⟨r, by rw [← hr, hf]⟩
    have hne : ¬ i = met := by
      intro he
      subst he
      have hm := bfs_more (toAt S) i 0 [0] (by rw [hb]; simp) (f - i)
      rw [show i + (f - i) = f from by omega, hf, hb] at hm
      have := congrArg List.length hm
      simp at this
      omega
    have hlt : i < met := by
      rcases Nat.lt_or_ge i met with h | h
      · exact h
      · exfalso
        have hm := bfs_more (toAt S) i 0 [0] (by rw [hb]; simp; omega) (f - i)
        rw [show i + (f - i) = f from by omega, hf, hb] at hm
        have := congrArg List.length hm
        simp at this
        omega
    have hx : (List.range met)[i]? = some i := List.getElem?_range hlt
    have hb2 := bfs_step hb hx
    rw [toAt, ha] at hb2
    obtain ⟨r, hr⟩ := hpre (i + 1) (by omega)
    rw [hb2] at hr
    have hokI := hok i hi
    obtain ⟨m, hm⟩ := arcGo_of S.length s.2 met (-1) S.length (ha ▸ hokI.1) (fun a haa => by have := hokI.2 a (ha ▸ haa); omega) ⟨r, hr⟩
    have g3 := (arcGo_some _ _ _ _ _ hm).2.2
    rw [metGo, if_neg hne, hm]
    exact metGo_of S hok f hf hlen t (i + 1) m hd2 (by rw [hb2, g3]) (by omega)
theorem metOK_iff (S : List St) : metOK S = true ↔ (1 ≤ S.length ∧ S.length ≤ 16384) ∧ (∀ j, j < S.length → ArcsOK S j) ∧ IsBfs (toAt S) 0 (List.range S.length) := by
  unfold metOK
  rw [Bool.and_eq_true, decide_eq_true_eq]
  constructor
  · rintro ⟨hn, hm⟩
    obtain ⟨h1, m, h2, h3⟩ := metGo_true S S 0 1 (by simp) (by simp [bfs]) hm (by simp) (by omega)
    have hall := bfs_all (toAt S) (fun x => x < S.length) (fun x hx y hy => by
      obtain ⟨a, ha, rfl⟩ := List.mem_map.1 hy
      exact ((h1 x (by omega) hx).2 a ha).2.2.2) S.length 0 [0] (by simp; omega)
    rw [h2] at hall
    have hmn : m ≤ S.length := by
      rcases Nat.lt_or_ge S.length m with h | h
      · have := hall S.length (by simp; omega); omega
      · exact h
    obtain rfl : m = S.length := by omega
    exact ⟨hn, fun j hj => h1 j (by omega) hj, S.length, h2, by simp⟩
  · rintro ⟨hn, hok, f, hf, hlen⟩
    exact ⟨hn, metGo_of S hok f hf (by simpa using hlen) S 0 1 (by simp) (by simp [bfs]) (by simp)⟩
end Go.Proofs.Ytbkedgpligcicaa
