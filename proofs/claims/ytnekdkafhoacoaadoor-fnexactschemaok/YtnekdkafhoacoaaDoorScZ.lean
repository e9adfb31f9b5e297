import Derived.Test.YtnekdkafhoacoaaDoorScN
import Derived.Test.YtnekdkafhoacoaaDoorAzH
namespace Go.Proofs.YtnekdkafhoacoaaDoor
open Go Go.RowKit
set_option linter.unusedVariables false
set_option linter.unusedSimpArgs false
set_option maxRecDepth 100000

set_option maxHeartbeats 2000000 in
theorem specZero_any (f : Fd) (aS aY : Option Addr) (cS cY : Nat) (w : World) (hnS : f.stops.length ≤ 1048576) (hnY : f.syns.length ≤ 1048576) :
    Calls Tryd.prog 21 #[.agg #[.bool f.bf, .bool f.bsm, .bool f.bp, .slice aS f.stops.length cS, .slice aY f.syns.length cY, .int .i64 f.lo, .int .i64 f.hi]] w fun e w' => e = .returned (.bool (zrOK f)) ∧ Below w.heap.size w w' := by
  obtain ⟨R, hR⟩ : ∃ R, zrOK f = R := ⟨_, rfl⟩
  have HR := hidd hR
  rw [hR]
  clear hR
  rw [zrOK] at HR
  generalize f.bf = bf at *
  generalize f.bsm = bsm at *
  generalize f.bp = bp at *
  generalize f.stops.length = nS at *
  generalize f.syns.length = nY at *
  generalize f.lo = lo at *
  generalize f.hi = hi at *
  clear f
  go_enter Tryd.func21, Tryd.ntmps21
  go_wp2_with fail
  all_goals
    go_ret
    refine ⟨?_, (Below.refl _ _).alloc (Nat.le_refl _) _⟩
    rw [← HR.out]
    simp [*] <;> first | (intros; omega) | (rw [Bool.eq_iff_iff]; simp only [beq_iff_eq, decide_eq_true_eq]; done) | (rw [Bool.eq_iff_iff]; simp only [beq_iff_eq, Bool.and_eq_true, decide_eq_true_eq]; omega)
set_option maxHeartbeats 2000000 in
theorem isZero_any (f : Fd) (aS aY : Option Addr) (cS cY : Nat) (w : World) (hnS : f.stops.length ≤ 1048576) (hnY : f.syns.length ≤ 1048576) :
    Calls Tryd.prog 36 #[.agg #[.bool f.bf, .bool f.bsm, .bool f.bp, .slice aS f.stops.length cS, .slice aY f.syns.length cY, .int .i64 f.lo, .int .i64 f.hi]] w fun e w' => e = .returned (.bool (zrOK f)) ∧ Below w.heap.size w w' := by
  obtain ⟨R, hR⟩ : ∃ R, zrOK f = R := ⟨_, rfl⟩
  have HR := hidd hR
  rw [hR]
  clear hR
  rw [zrOK] at HR
  generalize f.bf = bf at *
  generalize f.bsm = bsm at *
  generalize f.bp = bp at *
  generalize f.stops.length = nS at *
  generalize f.syns.length = nY at *
  generalize f.lo = lo at *
  generalize f.hi = hi at *
  clear f
  go_enter Tryd.func36, Tryd.ntmps36
  go_wp2_with fail
  all_goals
    go_ret
    refine ⟨?_, (Below.refl _ _).alloc (Nat.le_refl _) _⟩
    rw [← HR.out]
    simp [*] <;> first | (intros; omega) | (rw [Bool.eq_iff_iff]; simp only [beq_iff_eq, decide_eq_true_eq]; done) | (rw [Bool.eq_iff_iff]; simp only [beq_iff_eq, Bool.and_eq_true, decide_eq_true_eq]; omega)
def FdAt (w : World) (b o : Nat) (f : Fd) : Prop :=
  w.cell? ⟨b, o, none⟩ = some (.string (bs f.name)) ∧ w.cell? ⟨b, o + 1, none⟩ = some (.int .i64 f.kind) ∧
  w.cell? ⟨b, o + 2, none⟩ = some (.bool f.bf) ∧ w.cell? ⟨b, o + 3, none⟩ = some (.bool f.bsm) ∧ w.cell? ⟨b, o + 4, none⟩ = some (.bool f.bp) ∧
  (∃ aS cS, w.cell? ⟨b, o + 5, none⟩ = some (.slice aS f.stops.length cS) ∧ HoldS w aS f.stops) ∧
  (∃ aY cY, w.cell? ⟨b, o + 6, none⟩ = some (.slice aY f.syns.length cY) ∧ HoldY w aY f.syns) ∧
  w.cell? ⟨b, o + 7, none⟩ = some (.int .i64 f.lo) ∧ w.cell? ⟨b, o + 8, none⟩ = some (.int .i64 f.hi)
theorem FdAt.below {w w' : World} {b o : Nat} {f : Fd} (h : FdAt w b o f) (hb : b < w.heap.size) (hw : Below w.heap.size w w') : FdAt w' b o f := by
  have k : ∀ j, w'.cell? ⟨b, j, none⟩ = w.cell? ⟨b, j, none⟩ := fun j => hw.cell (p := ⟨b, j, none⟩) hb
  obtain ⟨h0, h1, h2, h3, h4, ⟨aS, cS, h5, hS⟩, ⟨aY, cY, h6, hY⟩, h7, h8⟩ := h
  exact ⟨(k _).trans h0, (k _).trans h1, (k _).trans h2, (k _).trans h3, (k _).trans h4, ⟨aS, cS, (k _).trans h5, hS.below hw⟩, ⟨aY, cY, (k _).trans h6, hY.below hw⟩, (k _).trans h7, (k _).trans h8⟩
/-- A slice of fields, wherever it lies. -/
def HoldF (w : World) (a : Option Addr) (l : List Fd) : Prop :=
  l = [] ∨ ∃ b off, a = some ⟨b, off, none⟩ ∧ b < w.heap.size ∧ ∀ i, i < l.length → FdAt w b (off + i * 9) (l.getD i fd0)
theorem HoldF.below {w w' : World} {a : Option Addr} {l : List Fd} (h : HoldF w a l) (hb : Below w.heap.size w w') : HoldF w' a l := by
  rcases h with h | ⟨b, off, h1, h2, h3⟩
  · exact Or.inl h
  · exact Or.inr ⟨b, off, h1, Nat.lt_of_lt_of_le h2 hb.size, fun i hi => (h3 i hi).below h2 hb⟩
/-- Lengths that a law lets through. -/
def FdSz (f : Fd) : Prop := f.name.length ≤ 1048576 ∧ f.stops.length ≤ 1048576 ∧ f.syns.length ≤ 1048576 ∧ szS f.stops ∧ szY f.syns
end Go.Proofs.YtnekdkafhoacoaaDoor
