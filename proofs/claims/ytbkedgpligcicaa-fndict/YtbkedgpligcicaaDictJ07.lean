import Derived.Test.YtbkedgpligcicaaDictJ04
import Derived.Test.YtbkedgpligcicaaDictJ05
namespace Go.Proofs.Ytbkedgpligcicaa
open Go Go.RowKit
set_option linter.unusedVariables false

def nCellsE (vs : List Nat) : List Value := vs.map fun (v : Nat) => Value.int .i64 (v : Int)
/-- The tally as it lies. -/
structure TalAt (w0 w : World) (T be bl : Nat) (aS : Option Addr) (cS : Nat) (S : List St) (E G : List Nat) : Prop where
  old : Below w0.heap.size w0 w
  hold : HoldS w0 aS S
  tal : w.heap[T]? = some (.cells #[.slice aS S.length cS, .slice (some ⟨be, 0, none⟩) S.length S.length, .slice (some ⟨bl, 0, none⟩) S.length S.length] 128)
  rowE : w.heap[be]? = some (.cells (nCellsE E).toArray 3)
  rowG : w.heap[bl]? = some (.cells (nCellsE G).toArray 3)
  apart : be ≠ bl ∧ T ≠ be ∧ T ≠ bl
  new : w0.heap.size ≤ be ∧ w0.heap.size ≤ bl
/-- All but the two rows stays. -/
structure Fr (be bl : Nat) (w w' : World) : Prop where
  size : w.heap.size ≤ w'.heap.size
  os : w'.os = w.os
  tape : w'.tape = w.tape
  output : w'.output = w.output
  block : ∀ b, b < w.heap.size → b ≠ be → b ≠ bl → w'.heap[b]? = w.heap[b]?
theorem Fr.refl (be bl : Nat) (w : World) : Fr be bl w w := ⟨Nat.le_refl _, rfl, rfl, rfl, fun _ _ _ _ => rfl⟩
theorem Fr.trans {be bl : Nat} {a b c : World} (h : Fr be bl a b) (k : Fr be bl b c) : Fr be bl a c :=
  ⟨Nat.le_trans h.size k.size, k.os.trans h.os, k.tape.trans h.tape, k.output.trans h.output, fun i hi h1 h2 => (k.block i (Nat.lt_of_lt_of_le hi h.size) h1 h2).trans (h.block i hi h1 h2)⟩
theorem Fr.of_below {be bl : Nat} {w w' : World} (h : Below w.heap.size w w') : Fr be bl w w' := ⟨h.size, h.os, h.tape, h.output, fun b hb _ _ => h.block b hb⟩
theorem Below.fr {n be bl : Nat} {w0 w w' : World} (h : Below n w0 w) (hn : n ≤ w0.heap.size) (hf : Fr be bl w w') (h1 : n ≤ be) (h2 : n ≤ bl) : Below n w0 w' :=
  ⟨hf.os.trans h.os, hf.tape.trans h.tape, hf.output.trans h.output, Nat.le_trans h.size hf.size, fun i hi => (hf.block i (by have := h.size; omega) (by omega) (by omega)).trans (h.block i hi)⟩
section
variable {w0 w w' : World} {T be bl : Nat} {aS : Option Addr} {cS : Nat} {S : List St} {E G : List Nat}
theorem TalAt.below (h : TalAt w0 w T be bl aS cS S E G) (hb : Below w.heap.size w w') : TalAt w0 w' T be bl aS cS S E G :=
  ⟨h.old.trans (hb.mono h.old.size), h.hold, blko h.tal hb, blko h.rowE hb, blko h.rowG hb, h.apart, h.new⟩
theorem TalAt.cellE (h : TalAt w0 w T be bl aS cS S E G) {j : Nat} (hj : j < E.length) : w.cell? ⟨be, j, none⟩ = some (.int .i64 ((valE E j : Nat) : Int)) := by
  rw [blkc h.rowE j]; simp [nCellsE, valE, hj]
theorem TalAt.cellG (h : TalAt w0 w T be bl aS cS S E G) {j : Nat} (hj : j < G.length) : w.cell? ⟨bl, j, none⟩ = some (.int .i64 ((valE G j : Nat) : Int)) := by
  rw [blkc h.rowG j]; simp [nCellsE, valE, hj]
theorem TalAt.setE (h : TalAt w0 w T be bl aS cS S E G) (j x : Nat) : TalAt w0 (w.setCell ⟨be, j, none⟩ (.int .i64 (x : Int))) T be bl aS cS S (E.set j x) G ∧ Fr be bl w (w.setCell ⟨be, j, none⟩ (.int .i64 (x : Int))) := by
  have hf : Fr be bl w (w.setCell ⟨be, j, none⟩ (.int .i64 (x : Int))) := ⟨by simp, rfl, rfl, rfl, fun b hb h1 h2 => heap_setCell_other w ⟨be, j, none⟩ b _ h1⟩
  refine ⟨⟨Below.fr h.old (Nat.le_refl _) hf h.new.1 h.new.2, h.hold, ?_, ?_, ?_, h.apart, h.new⟩, hf⟩
  · rw [heap_setCell_other w ⟨be, j, none⟩ T _ h.apart.2.1]; exact h.tal
  · have := heap_setCell_same w be j _ _ (.int .i64 (x : Int)) h.rowE
    rw [this]
    simp [nCellsE, List.map_set]
  · rw [heap_setCell_other w ⟨be, j, none⟩ bl _ (fun e => h.apart.1 e.symm)]; exact h.rowG
theorem TalAt.setG (h : TalAt w0 w T be bl aS cS S E G) (j x : Nat) : TalAt w0 (w.setCell ⟨bl, j, none⟩ (.int .i64 (x : Int))) T be bl aS cS S E (G.set j x) ∧ Fr be bl w (w.setCell ⟨bl, j, none⟩ (.int .i64 (x : Int))) := by
  have hf : Fr be bl w (w.setCell ⟨bl, j, none⟩ (.int .i64 (x : Int))) := ⟨by simp, rfl, rfl, rfl, fun b hb h1 h2 => heap_setCell_other w ⟨bl, j, none⟩ b _ h2⟩
  refine ⟨⟨Below.fr h.old (Nat.le_refl _) hf h.new.1 h.new.2, h.hold, ?_, ?_, ?_, h.apart, h.new⟩, hf⟩
  · rw [heap_setCell_other w ⟨bl, j, none⟩ T _ h.apart.2.2]; exact h.tal
  · rw [heap_setCell_other w ⟨bl, j, none⟩ be _ h.apart.1]; exact h.rowE
  · have := heap_setCell_same w bl j _ _ (.int .i64 (x : Int)) h.rowG
    rw [this]
    simp [nCellsE, List.map_set]
end
/-- What take does at a depth. -/
def TakeC (w0 : World) (T be bl : Nat) (aS : Option Addr) (cS : Nat) (S : List St) (depth : Nat) : Prop :=
  ∀ (i : Nat) (w : World) (E G : List Nat), i < S.length → TalAt w0 w T be bl aS cS S E G → TalOK S E G →
    Calls Try.prog 70 #[.pointer (some ⟨T, 0, none⟩), .int .i64 (i : Int), .int .i64 (depth : Int)] w fun e w' =>
      ∃ (b : Bool) (E' G' : List Nat), e = .returned (.bool b) ∧ TalAt w0 w' T be bl aS cS S E' G' ∧ Fr be bl w w' ∧
        (b = true → TalOK S E' G' ∧ 0 < valE E' i ∧ ∀ j, 0 < valE E j → valE E' j = valE E j ∧ valE G' j = valE G j) ∧
        (∀ e g, Sane S e g → Agree S E G e g → depth + g i ≤ 64 → b = true ∧ Agree S E' G' e g)
section
variable {w0 : World} {T be bl : Nat} {aS : Option Addr} {cS : Nat} {S : List St}
set_option maxHeartbeats 4000000 in
set_option maxRecDepth 100000 in
theorem take_met {depth i : Nat} {w : World} {E G : List Nat} (hi : i < S.length) (h : TalAt w0 w T be bl aS cS S E G) (hok : TalOK S E G) (hn : S.length ≤ 16384) (hp : 0 < valE E i) :
    Calls Try.prog 70 #[.pointer (some ⟨T, 0, none⟩), .int .i64 (i : Int), .int .i64 (depth : Int)] w fun e w' => e = .returned (.bool true) ∧ w' = w := by
  have q1 : w.cell? ⟨T, 1, none⟩ = some (.slice (some ⟨be, 0, none⟩) S.length S.length) := blkc h.tal 1
  have q2 := h.cellE (j := i) (by rw [hok.lenE]; exact hi)
  have hiz : (i : Int) < (S.length : Int) := by omega
  have hpz : (0 : Int) < ((valE E i : Nat) : Int) := by omega
  clear h hok
  go_enter Try.func70, Try.ntmps70
  go_wp2_with fail
  go_ret
  exact ⟨rfl, rfl⟩
set_option maxHeartbeats 4000000 in
set_option maxRecDepth 100000 in
theorem take_deep {depth i : Nat} {w : World} {E G : List Nat} (hi : i < S.length) (h : TalAt w0 w T be bl aS cS S E G) (hok : TalOK S E G) (hn : S.length ≤ 16384) (hp : ¬ 0 < valE E i) (hd : 64 < depth) :
    Calls Try.prog 70 #[.pointer (some ⟨T, 0, none⟩), .int .i64 (i : Int), .int .i64 (depth : Int)] w fun e w' => e = .returned (.bool false) ∧ w' = w := by
  have q1 : w.cell? ⟨T, 1, none⟩ = some (.slice (some ⟨be, 0, none⟩) S.length S.length) := blkc h.tal 1
  have q2 := h.cellE (j := i) (by rw [hok.lenE]; exact hi)
  have hiz : (i : Int) < (S.length : Int) := by omega
  have hpz : ¬ (0 : Int) < ((valE E i : Nat) : Int) := by omega
  have hdz : (64 : Int) < (depth : Int) := by omega
  clear h hok
  go_enter Try.func70, Try.ntmps70
  go_wp2_with fail
  go_ret
  exact ⟨rfl, rfl⟩
end
end Go.Proofs.Ytbkedgpligcicaa

namespace Go.Proofs.Ytbkedgpligcicaa
open Go Go.RowKit
set_option linter.unusedVariables false

def dCells (D : List Int) : List Value := D.map (Value.int .i64)
structure CntAt (w0 w : World) (bd : Nat) (aS : Option Addr) (S : List St) (D : List Int) : Prop where
  old : Below w0.heap.size w0 w
  hold : HoldS w0 aS S
  row : w.heap[bd]? = some (.cells (dCells D).toArray 3)
  new : w0.heap.size ≤ bd
section
variable {w0 w w' : World} {bd : Nat} {aS : Option Addr} {S : List St} {D : List Int}
theorem CntAt.below (h : CntAt w0 w bd aS S D) (hb : Below w.heap.size w w') : CntAt w0 w' bd aS S D := ⟨h.old.trans (hb.mono h.old.size), h.hold, blko h.row hb, h.new⟩
theorem CntAt.cell (h : CntAt w0 w bd aS S D) {j : Nat} (hj : j < D.length) : w.cell? ⟨bd, j, none⟩ = some (.int .i64 (valD D j)) := by
  rw [blkc h.row j]; simp [dCells, valD, hj]
theorem CntAt.set (h : CntAt w0 w bd aS S D) (j : Nat) (x : Int) : CntAt w0 (w.setCell ⟨bd, j, none⟩ (.int .i64 x)) bd aS S (D.set j x) ∧ Fr bd bd w (w.setCell ⟨bd, j, none⟩ (.int .i64 x)) := by
  have hf : Fr bd bd w (w.setCell ⟨bd, j, none⟩ (.int .i64 x)) := ⟨by simp, rfl, rfl, rfl, fun b hb h1 h2 => heap_setCell_other w ⟨bd, j, none⟩ b _ h1⟩
  refine ⟨⟨Below.fr h.old (Nat.le_refl _) hf h.new h.new, h.hold, ?_, h.new⟩, hf⟩
  have := heap_setCell_same w bd j _ _ (.int .i64 x) h.row
  rw [this]
  simp [dCells, List.map_set]
end
def Fine (S : List St) : Prop := ∀ i, i < S.length → (arcsAt S i).length ≤ 256 ∧ ∀ a ∈ arcsAt S i, ArcIn S.length a
def CountC (w0 : World) (bd : Nat) (aS : Option Addr) (cS : Nat) (c : Int) (S : List St) (depth : Nat) : Prop :=
  ∀ (i : Nat) (w : World) (D : List Int) (ρ : Nat → Nat) (M : Nat), i < S.length → CntAt w0 w bd aS S D → CntOK S D ρ M →
    Calls Try.prog 62 #[.agg #[.int .i64 c, .slice aS S.length cS], .int .i64 (i : Int), .int .i64 (depth : Int), .slice (some ⟨bd, 0, none⟩) S.length S.length] w fun e w' =>
      ∃ (x : Int) (D' : List Int) (ρ' : Nat → Nat) (M' : Nat), e = .returned (.int .i64 x) ∧ CntAt w0 w' bd aS S D' ∧ Fr bd bd w w' ∧ CntOK S D' ρ' M' ∧ 0 ≤ x ∧ x ≤ 4097 ∧ (0 < x → valD D' i = x) ∧
        (∀ j, 0 < valD D j → valD D' j = valD D j) ∧ (∀ j, valD D j = -2 → valD D' j = -2) ∧ (∀ j, valD D' j = -2 → valD D j = -2) ∧
        (∀ e g, Sane S e g → Fine S → AgreeD S D e → (∀ j, j < S.length → valD D j = -2 → g i < g j) → depth + g i ≤ 64 → x = (e i : Int) ∧ AgreeD S D' e)
section
variable {w0 : World} {bd : Nat} {aS : Option Addr} {cS : Nat} {c : Int} {S : List St}
set_option maxHeartbeats 4000000 in
set_option maxRecDepth 100000 in
theorem count_known {depth i : Nat} {w : World} {D : List Int} {ρ : Nat → Nat} {M : Nat} (hi : i < S.length) (h : CntAt w0 w bd aS S D) (hok : CntOK S D ρ M) (hn : S.length ≤ 16384) (hp : valD D i ≠ -1 ∨ 64 < depth) (X : Int) (hX : X = max 0 (valD D i)) :
    Calls Try.prog 62 #[.agg #[.int .i64 c, .slice aS S.length cS], .int .i64 (i : Int), .int .i64 (depth : Int), .slice (some ⟨bd, 0, none⟩) S.length S.length] w fun e w' => e = .returned (.int .i64 X) ∧ Below w.heap.size w w' := by
  have HBa : Hid (Below w.heap.size w (w.alloc (.cells #[.int .i64 c, .slice aS S.length cS] 27))) := (Below.refl _ _).alloc (Nat.le_refl _) _
  have q2 := (h.below HBa.out).cell (j := i) (by rw [hok.len]; exact hi)
  have hiz : (i : Int) < (S.length : Int) := by omega
  have HX := hidd hX
  clear h hok hX
  generalize valD D i = v at *
  by_cases h1 : v = -1
  · subst h1
    have hdz : (64 : Int) < (depth : Int) := by rcases hp with h | h; exact absurd rfl h; omega
    clear hp
    go_enter Try.func62, Try.ntmps62
    go_wp2_with fail
    all_goals
      go_ret
      refine ⟨?_, HBa.out⟩
      rw [HX.out]
      first | rfl | (congr 1; omega)
  · have hb1 : (v != -1) = true := by simp [h1]
    clear hp
    by_cases h0 : 0 ≤ v
    · go_enter Try.func62, Try.ntmps62
      go_wp2_with fail
      all_goals
        go_ret
        refine ⟨?_, HBa.out⟩
        rw [HX.out]
        first | rfl | (show Ending.returned (Value.int _ v) = _; rw [Int.max_eq_right h0]) | (congr 2; omega) | simp; omega
    · go_enter Try.func62, Try.ntmps62
      go_wp2_with fail
      all_goals
        go_ret
        refine ⟨?_, HBa.out⟩
        rw [HX.out]
        first | rfl | (show Ending.returned (Value.int _ 0) = _; rw [Int.max_eq_left (by omega)]) | (congr 2; omega) | simp; omega
end
end Go.Proofs.Ytbkedgpligcicaa
