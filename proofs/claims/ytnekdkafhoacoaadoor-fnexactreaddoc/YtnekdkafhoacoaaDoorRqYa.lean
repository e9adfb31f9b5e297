import Derived.Test.YtnekdkafhoacoaaDoorRqEs
import Derived.Test.YtnekdkafhoacoaaDoorRqF
namespace Go.Proofs.YtnekdkafhoacoaaDoor
open Go Go.RowKit
set_option linter.unusedVariables false
set_option maxRecDepth 100000

def CuP (w0 W : World) (B b off c : Nat) (bs r : List UInt8) (bd : Bool) (e : Ending) (w' : World) : Prop :=
  ∃ (n : Nat) (r' : List UInt8) (bd' : Bool), e = .returned (.int .i64 (n : Int)) ∧ n ≤ 4096 ∧ RdFr B W w' ∧ SpAt w0 w' B b off c bs r' bd' ∧ ((bd' = true ∧ (bd = true ∨ rdN 4096 r = none)) ∨ (bd' = false ∧ bd = false ∧ rdN 4096 r = some (n, r')))
def TuP (w0 W : World) (B b off c : Nat) (bs r : List UInt8) (e : Ending) (w' : World) : Prop :=
  ∃ (t r' : List UInt8) (bd' : Bool), e = .returned (.string ⟨t.toArray⟩) ∧ RdFr B W w' ∧ SpAt w0 w' B b off c bs r' bd' ∧ ((bd' = true ∧ rdT r = none) ∨ (bd' = false ∧ rdT r = some (t, r')))
def NuP (w0 W : World) (B b off c : Nat) (bs r : List UInt8) (e : Ending) (w' : World) : Prop :=
  ∃ (z : Int) (r' : List UInt8) (bd' : Bool), e = .returned (.int .i64 z) ∧ RdFr B W w' ∧ SpAt w0 w' B b off c bs r' bd' ∧ ((bd' = true ∧ rdN 2000000000000 r = none) ∨ (bd' = false ∧ ∃ v, rdN 2000000000000 r = some (v, r') ∧ z = sgn v))
theorem count_u {w0 W : World} {B b off c : Nat} {bs r : List UInt8} {bd : Bool} (hn : bs.length ≤ 1048576) (h : SpAt w0 W B b off c bs r bd) :
    Calls Tryd.prog 39 #[.pointer (some ⟨B, 0, none⟩)] W (CuP w0 W B b off c bs r bd) := by
  cases bd with
  | true =>
    refine (count_bad h).mono ?_
    rintro e w' ⟨rfl, rfl⟩
    exact ⟨0, r, true, rfl, by omega, RdFr.refl _ _, h, Or.inl ⟨rfl, Or.inl rfl⟩⟩
  | false =>
    refine (count_any hn h).mono ?_
    rintro e w' ⟨hf, ⟨hg, r', rfl, h2⟩ | ⟨v, r', hg, rfl, h2⟩⟩
    · exact ⟨0, r', true, rfl, by omega, hf, h2, Or.inl ⟨rfl, Or.inr hg⟩⟩
    · exact ⟨v, r', false, rfl, (rdN_len hg).2, hf, h2, Or.inr ⟨rfl, rfl, hg⟩⟩
theorem stext_u {w0 W : World} {B b off c : Nat} {bs r : List UInt8} (hn : bs.length ≤ 1048576) (h : SpAt w0 W B b off c bs r false) :
    Calls Tryd.prog 38 #[.pointer (some ⟨B, 0, none⟩)] W (TuP w0 W B b off c bs r) := by
  refine (stext_any hn h).mono ?_
  rintro e w' ⟨hf, ⟨hg, r', rfl, h2⟩ | ⟨t, r', hg, rfl, h2⟩⟩
  · exact ⟨[], r', true, rfl, hf, h2, Or.inl ⟨rfl, hg⟩⟩
  · exact ⟨t, r', false, rfl, hf, h2, Or.inr ⟨rfl, hg⟩⟩
theorem numb_u {w0 W : World} {B b off c : Nat} {bs r : List UInt8} (hn : bs.length ≤ 1048576) (h : SpAt w0 W B b off c bs r false) :
    Calls Tryd.prog 40 #[.pointer (some ⟨B, 0, none⟩)] W (NuP w0 W B b off c bs r) := by
  refine (numb_any hn h).mono ?_
  rintro e w' ⟨hf, ⟨hg, r', rfl, h2⟩ | ⟨v, r', hg, rfl, h2⟩⟩
  · exact ⟨0, r', true, rfl, hf, h2, Or.inl ⟨rfl, hg⟩⟩
  · exact ⟨sgn v, r', false, rfl, hf, h2, Or.inr ⟨rfl, v, hg, rfl⟩⟩
/-- All is well so far, and X; or something was wrong, and Y. -/
def Rel (bd : Bool) (X Y : Prop) : Prop := (bd = false ∧ X) ∨ (bd = true ∧ Y)
def SDocPost (w0 W : World) (B b off c : Nat) (bs r0 : List UInt8) (e : Ending) (w' : World) : Prop :=
  ∃ id V va xs r bd lo, e = .returned (.agg #[.string ⟨id.toArray⟩, va]) ∧ W.heap.size ≤ lo ∧ AnsV w' lo w'.heap.size va V xs ∧ SpAt w0 w' B b off c bs r bd ∧ RdFr B W w' ∧ Rel bd (rdD r0 = some ((id, V), r)) (rdD r0 = none)
/-- The flag, as it lies. -/
theorem SpAt.flag {w0 W : World} {B b off c : Nat} {bs r : List UInt8} {bd : Bool} (h : SpAt w0 W B b off c bs r bd) : W.cell? ⟨B, 2, none⟩ = some (.bool bd) := by
  obtain ⟨k, h1, h2, h3⟩ := h.box
  exact blkc h3 2
end Go.Proofs.YtnekdkafhoacoaaDoor
