import Derived.Test.YtoinajfliogcdaaDoorFuzzyJ04
import Derived.Test.YtoinajfliogcdaaDoorFuzzyJ16
import Derived.Test.YtoinajfliogcdaaDoorFuzzyJ00
import Derived.WalkMore
import Derived.Deep.RegionWith
namespace Go.Proofs.YtoinajfliogcdaaDoor
open Go Go.RowKit
set_option linter.unusedVariables false

/-! An automaton that is read: laws.eqDfa. -/
def ps0 : PSt := (false, [], 0)
def HDA (w : World) (a : Option Addr) (l : List (Int × Int)) : Prop :=
  l = [] ∨ ∃ b off, a = some ⟨b, off, none⟩ ∧ b < w.heap.size ∧ ∀ t, t < l.length → w.cell? ⟨b, off + t * 2, none⟩ = some (.int .i64 (l.getD t (0, 0)).1) ∧ w.cell? ⟨b, off + t * 2 + 1, none⟩ = some (.int .i64 (l.getD t (0, 0)).2)
theorem HDA.below {w w' : World} {a : Option Addr} {l : List (Int × Int)} (h : HDA w a l) (hb : Below w.heap.size w w') : HDA w' a l := by
  rcases h with h | ⟨b, off, h1, h2, h3⟩
  · exact .inl h
  · refine .inr ⟨b, off, h1, Nat.lt_of_lt_of_le h2 hb.size, fun t ht => ?_⟩
    obtain ⟨k1, k2⟩ := h3 t ht
    exact ⟨(hb.cell (p := ⟨b, off + t * 2, none⟩) h2).trans k1, (hb.cell (p := ⟨b, off + t * 2 + 1, none⟩) h2).trans k2⟩
def HDS (w : World) (a : Option Addr) (S : List PSt) : Prop :=
  S = [] ∨ ∃ b off, a = some ⟨b, off, none⟩ ∧ b < w.heap.size ∧ ∀ t, t < S.length → w.cell? ⟨b, off + t * 3, none⟩ = some (.bool (S.getD t ps0).1) ∧ ∃ ai ci, w.cell? ⟨b, off + t * 3 + 1, none⟩ = some (.slice ai (S.getD t ps0).2.1.length ci) ∧ HDA w ai (S.getD t ps0).2.1 ∧ w.cell? ⟨b, off + t * 3 + 2, none⟩ = some (.int .i64 (S.getD t ps0).2.2)
theorem HDS.below {w w' : World} {a : Option Addr} {S : List PSt} (h : HDS w a S) (hb : Below w.heap.size w w') : HDS w' a S := by
  rcases h with h | ⟨b, off, h1, h2, h3⟩
  · exact .inl h
  · refine .inr ⟨b, off, h1, Nat.lt_of_lt_of_le h2 hb.size, fun t ht => ?_⟩
    obtain ⟨k1, ai, ci, k2, k3, k4⟩ := h3 t ht
    exact ⟨(hb.cell (p := ⟨b, off + t * 3, none⟩) h2).trans k1, ai, ci, (hb.cell (p := ⟨b, off + t * 3 + 1, none⟩) h2).trans k2, k3.below hb, (hb.cell (p := ⟨b, off + t * 3 + 2, none⟩) h2).trans k4⟩
theorem arc_at (l : List (Int × Int)) : ∀ (i : Nat), i < l.length → (arcCells l)[i * 2]? = some (.int .i64 (l.getD i (0, 0)).1) ∧ (arcCells l)[i * 2 + 1]? = some (.int .i64 (l.getD i (0, 0)).2) := by
  induction l with
  | nil => intro i h; simp at h
  | cons x l ih =>
    intro i h
    cases i with
    | zero => exact ⟨rfl, rfl⟩
    | succ i =>
      have := ih i (by simpa using h)
      have e1 : (i + 1) * 2 = i * 2 + 1 + 1 := by omega
      have e2 : (i + 1) * 2 + 1 = i * 2 + 1 + 1 + 1 := by omega
      show (.int .i64 x.1 :: .int .i64 x.2 :: arcCells l)[(i + 1) * 2]? = _ ∧ (.int .i64 x.1 :: .int .i64 x.2 :: arcCells l)[(i + 1) * 2 + 1]? = _
      rw [e1]
      simpa using this
theorem st_at (l : List MSt) : ∀ (i : Nat) (s : MSt), l[i]? = some s → (stCells l)[i * 3]? = some (.bool s.2.1) ∧ (stCells l)[i * 3 + 1]? = some s.1 ∧ (stCells l)[i * 3 + 2]? = some (.int .i64 s.2.2.2) := by
  induction l with
  | nil => intro i s h; simp at h
  | cons x l ih =>
    intro i s h
    cases i with
    | zero =>
      have e : x = s := by simpa using h
      subst e
      exact ⟨rfl, rfl, rfl⟩
    | succ i =>
      have := ih i s (by simpa using h)
      have e1 : (i + 1) * 3 = i * 3 + 1 + 1 + 1 := by omega
      show (.bool x.2.1 :: x.1 :: .int .i64 x.2.2.2 :: stCells l)[(i + 1) * 3]? = _ ∧ (.bool x.2.1 :: x.1 :: .int .i64 x.2.2.2 :: stCells l)[(i + 1) * 3 + 1]? = _ ∧ (.bool x.2.1 :: x.1 :: .int .i64 x.2.2.2 :: stCells l)[(i + 1) * 3 + 2]? = _
      rw [e1]
      simpa using this
theorem arcs_hda {W : World} {base : Nat} {va : Value} {rs : List (Int × Int)} (h : W.ownsRow base 97 2 va rs.length (arcCells rs)) : ∃ a c, va = .slice a rs.length c ∧ HDA W a rs := by
  rcases h.2 with ⟨h1, h2⟩ | ⟨g, cap, cur, rfl, h2, h3, _⟩
  · exact ⟨none, 0, by rw [h1, h2], Or.inl (List.length_eq_zero_iff.1 h2)⟩
  · refine ⟨_, cap, rfl, Or.inr ⟨g, 0, rfl, (Array.getElem?_eq_some_iff.1 h3).1, fun t ht => ?_⟩⟩
    obtain ⟨e1, e2⟩ := arc_at rs t ht
    rw [Nat.zero_add]
    exact ⟨own_cellk h e1, own_cellk h e2⟩
theorem DfaM.hds {W : World} {base : Nat} {v : Value} {l : List MSt} (h : DfaM W base v l) : ∃ a c, v = .slice a (l.map Prod.snd).length c ∧ HDS W a (l.map Prod.snd) := by
  rw [List.length_map]
  rcases h.row.2 with ⟨h1, h2⟩ | ⟨g, cap, cur, rfl, h2, h3, _⟩
  · exact ⟨none, 0, by rw [h1, h2], Or.inl (by rw [List.length_eq_zero_iff.1 h2]; rfl)⟩
  · refine ⟨_, cap, rfl, Or.inr ⟨g, 0, rfl, (Array.getElem?_eq_some_iff.1 h3).1, fun t ht => ?_⟩⟩
    rw [List.length_map] at ht
    have hs := List.getElem?_eq_getElem ht
    obtain ⟨e1, e2, e3⟩ := st_at l t _ hs
    have eg : (l.map Prod.snd).getD t ps0 = l[t].2 := by rw [List.getD_eq_getElem?_getD, List.getElem?_map, hs]; rfl
    obtain ⟨ai, ci, q1, q2⟩ := arcs_hda (h.arcs _ (List.getElem_mem ht))
    rw [Nat.zero_add, eg]
    refine ⟨own_cellk h.row e1, ai, ci, ?_, q2, own_cellk h.row e3⟩
    rw [own_cellk h.row e2, q1]
set_option maxHeartbeats 2000000 in
set_option maxRecDepth 100000 in
theorem eqArc_same (p : Int × Int) (w : World) :
    Calls Tryd.prog 147 #[.agg #[.int .i64 p.1, .int .i64 p.2], .agg #[.int .i64 p.1, .int .i64 p.2]] w fun e w' => e = .returned (.bool true) ∧ Below w.heap.size w w' := by
  obtain ⟨p0, p1⟩ := p
  have HBa : Hid (Below w.heap.size w ((w.alloc (.cells #[.int .i64 p0, .int .i64 p1] 97)).alloc (.cells #[.int .i64 p0, .int .i64 p1] 97))) := ((Below.refl _ _).alloc (Nat.le_refl _) _).alloc (by simp) _
  have h0 : (p0 != p0) = false := by simp
  have h1 : (p1 != p1) = false := by simp
  dsimp only
  go_enter Tryd.func147, Tryd.ntmps147
  go_wp2_with fail
  go_ret
  exact ⟨rfl, HBa.out⟩
set_option maxHeartbeats 4000000 in
set_option maxRecDepth 100000 in
theorem eqArcs_same (a1 a2 : Option Addr) (c1 c2 : Nat) (l : List (Int × Int)) (w : World) (hn : l.length ≤ 1048576) (h1 : HDA w a1 l) (h2 : HDA w a2 l) :
    Calls Tryd.prog 137 #[.slice a1 l.length c1, .slice a2 l.length c2] w fun e w' => e = .returned (.bool true) ∧ Below w.heap.size w w' := by
  have H1 := hidd h1
  have H2 := hidd h2
  clear h1 h2
  go_enter Tryd.func137, Tryd.ntmps137
  go_wp2_with fail
  go_loopw [5] (fun iv wr => ∃ k : Nat, k ≤ l.length ∧ iv = .int .i64 (k : Int) ∧ Below w.heap.size w wr) (fun iv _ => l.length - (intOf iv).toNat)
  case atStart => exact ⟨0, Nat.zero_le _, rfl, Below.refl _ _⟩
  case round =>
    obtain ⟨k, hk, rfl, hbel⟩ := hrel
    have HB := hidd hbel
    clear hbel
    by_cases hlt : k < l.length
    · have hkz : (k : Int) < (l.length : Int) := by omega
      obtain ⟨b1, o1, rfl, hb1, hc1⟩ := (H1.out.below HB.out).resolve_left (fun h => by rw [h] at hlt; simp at hlt)
      obtain ⟨b2, o2, rfl, hb2, hc2⟩ := (H2.out.below HB.out).resolve_left (fun h => by rw [h] at hlt; simp at hlt)
      obtain ⟨x0, x1⟩ := hc1 k hlt
      obtain ⟨y0, y1⟩ := hc2 k hlt
      clear hc1 hc2
      generalize l.getD k (0, 0) = p at *
      go_wp2_with fail
      go_region_with (go_at_call 147; refine (eqArc_same p _).mono ?_; rintro e' w3 ⟨rfl, hb3⟩)
      all_goals
        go_wp2_with fail
        go_roundw
        · exact ⟨k + 1, by omega, by go_num, HB.out.trans ((below_drewN (Below.refl _ _) 1).trans hb3 |>.mono HB.out.size)⟩
        · simp [intOf]; omega
    · have hkz : ¬ (k : Int) < (l.length : Int) := by omega
      go_wp2_with fail
      go_ret
      exact ⟨rfl, HB.out⟩
set_option maxHeartbeats 2000000 in
set_option maxRecDepth 100000 in
theorem eqState_same (f : Bool) (z : Int) (a1 a2 : Option Addr) (c1 c2 : Nat) (l : List (Int × Int)) (w : World) (hn : l.length ≤ 1048576) (h1 : HDA w a1 l) (h2 : HDA w a2 l) :
    Calls Tryd.prog 107 #[.agg #[.bool f, .slice a1 l.length c1, .int .i64 z], .agg #[.bool f, .slice a2 l.length c2, .int .i64 z]] w fun e w' => e = .returned (.bool true) ∧ Below w.heap.size w w' := by
  have HBa : Hid (Below w.heap.size w ((w.alloc (.cells #[.bool f, .slice a1 l.length c1, .int .i64 z] 95)).alloc (.cells #[.bool f, .slice a2 l.length c2, .int .i64 z] 95))) := ((Below.refl _ _).alloc (Nat.le_refl _) _).alloc (by simp) _
  have HBx := hidd (box_two w (.cells #[.bool f, .slice a1 l.length c1, .int .i64 z] 95) (.cells #[.bool f, .slice a2 l.length c2, .int .i64 z] 95))
  have H1 := hidd (h1.below HBa.out)
  have H2 := hidd (h2.below HBa.out)
  clear h1 h2
  have hneq : (f != f) = false := by cases f <;> rfl
  have hzeq : (z != z) = false := by simp
  go_enter Tryd.func107, Tryd.ntmps107
  go_wp2_with fail
  refine (eqArcs_same a1 a2 c1 c2 l _ hn H1.out H2.out).mono ?_
  rintro e w3 ⟨rfl, hb3⟩
  have u1 : w3.cell? ⟨w.heap.size, 2, none⟩ = some (.int .i64 z) := blkc (blko HBx.out.1 hb3) 2
  have u2 : w3.cell? ⟨w.heap.size + 1, 2, none⟩ = some (.int .i64 z) := blkc (blko HBx.out.2 hb3) 2
  have HB3 := hidd (HBa.out.trans (hb3.mono HBa.out.size))
  clear hb3
  go_wp2_with fail
  go_ret
  exact ⟨rfl, HB3.out⟩
set_option maxHeartbeats 4000000 in
set_option maxRecDepth 100000 in
theorem eqStates_same (a1 a2 : Option Addr) (c1 c2 : Nat) (S : List PSt) (w : World) (hn : S.length ≤ 1048576) (hA : ∀ i, (S.getD i ps0).2.1.length ≤ 1048576) (h1 : HDS w a1 S) (h2 : HDS w a2 S) :
    Calls Tryd.prog 74 #[.slice a1 S.length c1, .slice a2 S.length c2] w fun e w' => e = .returned (.bool true) ∧ Below w.heap.size w w' := by
  have H1 := hidd h1
  have H2 := hidd h2
  have HA := hidd hA
  clear h1 h2 hA
  go_enter Tryd.func74, Tryd.ntmps74
  go_wp2_with fail
  go_loopw [5] (fun iv wr => ∃ k : Nat, k ≤ S.length ∧ iv = .int .i64 (k : Int) ∧ Below w.heap.size w wr) (fun iv _ => S.length - (intOf iv).toNat)
  case atStart => exact ⟨0, Nat.zero_le _, rfl, Below.refl _ _⟩
  case round =>
    obtain ⟨k, hk, rfl, hbel⟩ := hrel
    have HB := hidd hbel
    clear hbel
    by_cases hlt : k < S.length
    · have hkz : (k : Int) < (S.length : Int) := by omega
      obtain ⟨b1, o1, rfl, hb1, hc1⟩ := (H1.out.below HB.out).resolve_left (fun h => by rw [h] at hlt; simp at hlt)
      obtain ⟨b2, o2, rfl, hb2, hc2⟩ := (H2.out.below HB.out).resolve_left (fun h => by rw [h] at hlt; simp at hlt)
      obtain ⟨x0, ai, ci, x1, hx, x2⟩ := hc1 k hlt
      obtain ⟨y0, aj, cj, y1, hy, y2⟩ := hc2 k hlt
      clear hc1 hc2
      have hal := HA.out k
      have HC : Hid (Calls Tryd.prog 107 #[.agg #[.bool (S.getD k ps0).1, .slice ai (S.getD k ps0).2.1.length ci, .int .i64 (S.getD k ps0).2.2], .agg #[.bool (S.getD k ps0).1, .slice aj (S.getD k ps0).2.1.length cj, .int .i64 (S.getD k ps0).2.2]] wr.drew fun e w' => e = .returned (.bool true) ∧ Below wr.drew.heap.size wr.drew w') := eqState_same _ _ ai aj ci cj _ wr.drew hal (hx.below (below_drewN (Below.refl _ _) 1)) (hy.below (below_drewN (Below.refl _ _) 1))
      clear hx hy hal
      generalize S.getD k ps0 = s at *
      go_wp2_with fail
      go_region_with (go_at_call 107; refine HC.out.mono ?_; rintro e' w3 ⟨rfl, hb3⟩)
      all_goals
        go_wp2_with fail
        go_roundw
        · exact ⟨k + 1, by omega, by go_num, HB.out.trans ((below_drewN (Below.refl _ _) 1).trans hb3 |>.mono HB.out.size)⟩
        · simp [intOf]; omega
    · have hkz : ¬ (k : Int) < (S.length : Int) := by omega
      go_wp2_with fail
      go_ret
      exact ⟨rfl, HB.out⟩
set_option maxHeartbeats 2000000 in
set_option maxRecDepth 100000 in
theorem eqDfa_same (a1 a2 : Option Addr) (c1 c2 : Nat) (S : List PSt) (w : World) (hn : S.length ≤ 1048576) (hA : ∀ i, (S.getD i ps0).2.1.length ≤ 1048576) (h1 : HDS w a1 S) (h2 : HDS w a2 S) :
    Calls Tryd.prog 26 #[.agg #[.slice a1 S.length c1], .agg #[.slice a2 S.length c2]] w fun e w' => e = .returned (.bool true) ∧ Below w.heap.size w w' := by
  have HBa : Hid (Below w.heap.size w ((w.alloc (.cells #[.slice a1 S.length c1] 27)).alloc (.cells #[.slice a2 S.length c2] 27))) := ((Below.refl _ _).alloc (Nat.le_refl _) _).alloc (by simp) _
  have H1 := hidd (h1.below HBa.out)
  have H2 := hidd (h2.below HBa.out)
  have HA := hidd hA
  clear h1 h2 hA
  go_enter Tryd.func26, Tryd.ntmps26
  go_wp2_with fail
  refine (eqStates_same a1 a2 c1 c2 S _ hn HA.out H1.out H2.out).mono ?_
  rintro e w3 ⟨rfl, hb3⟩
  have HB3 := hidd (HBa.out.trans (hb3.mono HBa.out.size))
  clear hb3
  go_wp2_with fail
  go_ret
  exact ⟨rfl, HB3.out⟩
end Go.Proofs.YtoinajfliogcdaaDoor
