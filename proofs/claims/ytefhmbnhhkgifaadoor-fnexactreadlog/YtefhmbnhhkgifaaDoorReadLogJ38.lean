import Derived.Test.YtefhmbnhhkgifaaDoorReadLogJ37
namespace Go.Proofs.YtefhmbnhhkgifaaDoor
open Go Go.RowKit
set_option linter.unusedVariables false
set_option linter.unusedSimpArgs false
set_option maxRecDepth 100000

/-- Records as they lie in a world. -/
def HoldL (w : World) (a : Option Addr) (L : List Rc) : Prop := L = [] ∨ ∃ b, a = some ⟨b, 0, none⟩ ∧ b < w.heap.size ∧ ∀ i, i < L.length → ∃ aV cV, w.cell? ⟨b, i * 5, none⟩ = some (.int .i64 (L.getD i rc0).1) ∧ w.cell? ⟨b, i * 5 + 1, none⟩ = some (.int .i64 (L.getD i rc0).2.1) ∧ w.cell? ⟨b, i * 5 + 2, none⟩ = some (.string ⟨(L.getD i rc0).2.2.1.toArray⟩) ∧ w.cell? ⟨b, i * 5 + 3, none⟩ = some (.string ⟨(L.getD i rc0).2.2.2.1.toArray⟩) ∧ w.cell? ⟨b, i * 5 + 4, none⟩ = some (.slice aV (L.getD i rc0).2.2.2.2.length cV) ∧ HoldV w aV (L.getD i rc0).2.2.2.2
theorem HoldL.below {w w' : World} {a : Option Addr} {L : List Rc} (h : HoldL w a L) (hb : Below w.heap.size w w') : HoldL w' a L := by
  rcases h with h | ⟨b, ha, hbl, h⟩
  · exact Or.inl h
  · refine Or.inr ⟨b, ha, Nat.lt_of_lt_of_le hbl hb.size, fun i hi => ?_⟩
    obtain ⟨aV, cV, h0, h1, h2, h3, h4, h5⟩ := h i hi
    exact ⟨aV, cV, (hb.cell (p := ⟨b, i * 5, none⟩) hbl).trans h0, (hb.cell (p := ⟨b, i * 5 + 1, none⟩) hbl).trans h1, (hb.cell (p := ⟨b, i * 5 + 2, none⟩) hbl).trans h2, (hb.cell (p := ⟨b, i * 5 + 3, none⟩) hbl).trans h3, (hb.cell (p := ⟨b, i * 5 + 4, none⟩) hbl).trans h4, h5.below hb⟩
theorem LogA.hold {w : World} {base hi : Nat} {a : Option Addr} {c : Nat} {L : List Rc} {ys : List Value} {lo hh : Nat → Nat} {va : Nat → Value} {xs : Nat → List Value} (h : LogA w base hi (.slice a L.length c) L ys lo hh va xs) : HoldL w a L := by
  rcases h.row.2 with ⟨e, h0⟩ | ⟨g, cap, cur, e, _, hg, _⟩
  · exact Or.inl (List.length_eq_zero_iff.1 h0)
  · simp only [Value.slice.injEq] at e
    obtain ⟨rfl, _, rfl⟩ := e
    refine Or.inr ⟨g, rfl, (Array.getElem?_eq_some_iff.1 hg).1, fun i hi' => ?_⟩
    have hA := h.ans i hi'
    obtain ⟨aV, cV, e2⟩ := own_formR hA.row
    rw [e2] at hA
    have c := fun k hk => (h.row.cellAt (i * 5 + k) (by omega)).trans (h.cel i k hi' hk)
    refine ⟨aV, cV, c 0 (by omega), c 1 (by omega), c 2 (by omega), c 3 (by omega), ?_, hA.hold⟩
    have := c 4 (by omega)
    rw [e2] at this
    exact this
def SmL (L : List Rc) : Prop := ∀ i, (L.getD i rc0).2.2.2.2.length ≤ 4096 ∧ ∀ j, smallV ((L.getD i rc0).2.2.2.2.getD j vl0)
theorem smallAt {V : List Vl} (h : ∀ v ∈ V, smallV v) (j : Nat) : smallV (V.getD j vl0) := by
  by_cases hj : j < V.length
  · exact h _ (getD_mem (d := vl0) hj)
  · simp [hj, vl0, smallV]
theorem SmL.of {bs : List UInt8} {n : Nat} {L : List Rc} {r : List UInt8} (h : runK bs n = some (L, r)) : SmL L := fun i => by
  by_cases hi : i < L.length
  · have := runK_small n h _ (getD_mem (d := rc0) hi)
    exact ⟨this.1, smallAt this.2⟩
  · have e : L.getD i rc0 = rc0 := by simp [hi]
    rw [e]
    exact ⟨by simp [rc0], smallAt (by simp [rc0])⟩
set_option maxHeartbeats 1000000 in
theorem eqRecord_any (kd sq : Int) (id did : List UInt8) (a1 a2 : Option Addr) (c1 c2 : Nat) (V : List Vl) (w : World) (hn : V.length ≤ 1048576) (hA : ∀ i, (V.getD i vl0).1.length ≤ 1048576 ∧ (V.getD i vl0).2.1.length ≤ 1048576 ∧ (V.getD i vl0).2.2.length ≤ 1048576) (h1 : HoldV w a1 V) (h2 : HoldV w a2 V) :
    Calls Tryd.prog 14 #[.agg #[.int .i64 kd, .int .i64 sq, .string ⟨id.toArray⟩, .string ⟨did.toArray⟩, .slice a1 V.length c1], .agg #[.int .i64 kd, .int .i64 sq, .string ⟨id.toArray⟩, .string ⟨did.toArray⟩, .slice a2 V.length c2]] w fun e w' => e = .returned (.bool true) ∧ Below w.heap.size w w' := by
  have HBa : Hid (Below w.heap.size w ((w.alloc (.cells #[.int .i64 kd, .int .i64 sq, .string ⟨id.toArray⟩, .string ⟨did.toArray⟩, .slice a1 V.length c1] 36)).alloc (.cells #[.int .i64 kd, .int .i64 sq, .string ⟨id.toArray⟩, .string ⟨did.toArray⟩, .slice a2 V.length c2] 36))) := ((Below.refl _ _).alloc (Nat.le_refl _) _).alloc (by simp) _
  have HE := hidd (eqDoc_any did a1 a2 c1 c2 V _ hn hA (h1.below HBa.out) (h2.below HBa.out))
  clear h1 h2 hA
  go_enter Tryd.func14, Tryd.ntmps14
  go_wp2_with fail
  refine HE.out.mono ?_
  rintro e w3 ⟨rfl, hb3⟩
  have HB3 := hidd (HBa.out.trans (hb3.mono HBa.out.size))
  clear hb3 HE
  dsimp only
  go_wp2_with fail
  go_ret
  exact ⟨rfl, HB3.out⟩
set_option maxHeartbeats 4000000 in
theorem eqRecs_any (a1 a2 : Option Addr) (c1 c2 : Nat) (L : List Rc) (w : World) (hn : L.length ≤ 1048576) (hs : SmL L) (h1 : HoldL w a1 L) (h2 : HoldL w a2 L) :
    Calls Tryd.prog 7 #[.slice a1 L.length c1, .slice a2 L.length c2] w fun e w' => e = .returned (.bool true) ∧ Below w.heap.size w w' := by
  have H1 := hidd h1
  have H2 := hidd h2
  have HSm := hidd hs
  clear h1 h2 hs
  go_enter Tryd.func7, Tryd.ntmps7
  go_wp2_with fail
  go_loopw [5] (fun kv wr => ∃ k : Nat, k ≤ L.length ∧ kv = .int .i64 (k : Int) ∧ Below w.heap.size w wr) (fun kv _ => L.length - (intOf kv).toNat)
  case atStart => exact ⟨0, Nat.zero_le _, rfl, Below.refl _ _⟩
  case round =>
    obtain ⟨k, hk, rfl, hbel⟩ := hrel
    have HB := hidd hbel
    clear hbel
    by_cases hkt : k < L.length
    · have hktz : (k : Int) < (L.length : Int) := by omega
      obtain ⟨b1, rfl, hb1, hc1⟩ := (H1.out.below HB.out).resolve_left (fun e => by rw [e] at hkt; simp at hkt)
      obtain ⟨b2, rfl, hb2, hc2⟩ := (H2.out.below HB.out).resolve_left (fun e => by rw [e] at hkt; simp at hkt)
      obtain ⟨aV, cV, p0, p1, p2, p3, p4, hV⟩ := hc1 k hkt
      obtain ⟨aU, cU, q0, q1, q2, q3, q4, hU⟩ := hc2 k hkt
      have hsm := HSm.out k
      obtain ⟨x, hx⟩ : ∃ x, L.getD k rc0 = x := ⟨_, rfl⟩
      rw [hx] at p0 p1 p2 p3 p4 q0 q1 q2 q3 q4 hV hU hsm
      obtain ⟨kd, sq, id, did, V⟩ := x
      dsimp only at p0 p1 p2 p3 p4 q0 q1 q2 q3 q4 hV hU hsm
      have hbd : Below wr.heap.size wr wr.drew := below_drewN (Below.refl _ _) 1
      have HC := hidd (eqRecord_any kd sq id did aV aU cV cU V wr.drew (by omega) (fun i => by have := hsm.2 i; unfold smallV at this; omega) (hV.below hbd) (hU.below hbd))
      clear hc1 hc2 hx hV hU hsm hbd
      go_wp2_with fail
      go_region_with (go_at_call 14; refine HC.out.mono ?_; rintro e' w3 ⟨rfl, hb3⟩)
      all_goals
        have HB3 : Hid (Below w.heap.size w w3) := HB.out.trans (((below_drewN (Below.refl _ wr) 1).trans hb3).mono HB.out.size)
        clear hb3
        go_wp2_with fail
        go_roundw
        case rel => exact ⟨k + 1, by omega, by go_num, HB3.out⟩
        case measure => simp [intOf]; omega
    · have hktz : ¬ (k : Int) < (L.length : Int) := by omega
      go_wp2_with fail
      go_ret
      exact ⟨rfl, HB.out⟩
end Go.Proofs.YtefhmbnhhkgifaaDoor
