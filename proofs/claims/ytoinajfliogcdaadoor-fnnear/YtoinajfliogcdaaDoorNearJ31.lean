import Derived.Test.YtoinajfliogcdaaDoorNearJ30
namespace Go.Proofs.YtoinajfliogcdaaDoor
open Go Go.RowKit
set_option linter.unusedVariables false
set_option linter.unusedSimpArgs false
set_option maxRecDepth 100000

def PredP (tb : Nat) (p : Nat → Bool) (us : List Value) (wb : World) : Prop :=
 ∀ (W : World) (j : Nat) (u : Value), Below wb.heap.size wb W → us[j]? = some u → Calls Tryd.prog 116 #[.pointer (some ⟨tb, 0, none⟩), u] W fun e w' => e = .returned (.bool (p j)) ∧ Below W.heap.size W w'
def IdxOK (p : Nat → Bool) (n : Nat) (z : Int) : Prop := (z = -1 ∧ ∀ j, j < n → p j = false) ∨ ∃ k : Nat, k < n ∧ z = (k : Int) ∧ p k = true ∧ ∀ j, j < k → p j = false
set_option maxHeartbeats 4000000 in
theorem partIndex_any (tb base g cap : Nat) (p : Nat → Bool) (us : List Value) (w : World) (hn : us.length ≤ 1048576) (hrow : w.ownsRow base 30 1 (.slice (some ⟨g, 0, none⟩) us.length cap) us.length us) (hsl : ∀ (j : Nat) (u : Value), us[j]? = some u → ∃ (ad : Option Addr) (m c : Nat), u = Value.slice ad m c) (hP : PredP tb p us w) :
  Calls Tryd.prog 115 #[.slice (some ⟨g, 0, none⟩) us.length cap, .func (.func 116) #[.pointer (some ⟨tb, 0, none⟩)] #[]] w fun e w' => ∃ z : Int, e = .returned (.int .i64 z) ∧ IdxOK p us.length z ∧ Below w.heap.size w w' := by
 have HS := hidd hrow
 have HP := hidd hP
 have HL := hidd hsl
 clear hrow hP hsl
 go_enter Tryd.func115, Tryd.ntmps115
 go_wp2_with fail
 go_loopw [8] (fun i wx => ∃ k : Nat, k ≤ us.length ∧ i = .int .i64 k ∧ (∀ j, j < k → p j = false) ∧ Below w.heap.size w wx) (fun i _ => us.length - (intOf i).toNat)
 case atStart => exact ⟨0, by omega, rfl, fun j hj => absurd hj (by omega), Below.refl _ _⟩
 case round =>
  obtain ⟨k, hk, rfl, hno, hbx⟩ := hrel
  have HN := hidd hno
  have HB := hidd hbx
  clear hno hbx
  by_cases hlt : k < us.length
  ·have hltz : (k : Int) < (us.length : Int) := by omega
   obtain ⟨u, hu⟩ : ∃ u, us[k]? = some u := ⟨_, List.getElem?_eq_getElem hlt⟩
   obtain ⟨ad, m, c, rfl⟩ := HL.out k u hu
   have y0 := own_cellk HS.out hu
   have z0 := (HB.out.cell (cell_lt y0)).trans y0
   have HPk := hidd (HP.out wr k _ HB.out hu)
   clear y0 hu
   cases hp : p k with
   | false =>
    have HPn : Hid (∀ j, j < k + 1 → p j = false) := fun j hj => by
     by_cases h : j < k
     ·exact HN.out j h
     ·have : j = k := by omega
      subst this
      exact hp
    rw [hp] at HPk
    clear hp
    go_wp2_with (go_at_call 116; refine HPk.out.mono ?_; rintro e w2 ⟨rfl, hb2⟩)
    go_roundw
    case rel => exact ⟨k + 1, by omega, by go_num, HPn.out, HB.out.trans (hb2.mono HB.out.size)⟩
    case measure => simp [intOf]; omega
   | true =>
    have HR : Hid (IdxOK p us.length (k : Int)) := Or.inr ⟨k, hlt, rfl, hp, HN.out⟩
    rw [hp] at HPk
    clear hp
    go_wp2_with (go_at_call 116; refine HPk.out.mono ?_; rintro e w2 ⟨rfl, hb2⟩)
    go_ret
    exact ⟨(k : Int), rfl, HR.out, HB.out.trans (hb2.mono HB.out.size)⟩
  ·have hltz : ¬ (k : Int) < (us.length : Int) := by omega
   have HR : Hid (IdxOK p us.length (-1)) := Or.inl ⟨rfl, fun j hj => HN.out j (by omega)⟩
   go_wp2_with fail
   go_ret
   exact ⟨-1, rfl, HR.out, HB.out⟩
end Go.Proofs.YtoinajfliogcdaaDoor
