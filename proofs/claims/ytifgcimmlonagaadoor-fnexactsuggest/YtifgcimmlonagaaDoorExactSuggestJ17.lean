import Derived.Test.YtifgcimmlonagaaDoorExactSuggestJ16
import Derived.Laws.StructEq
import Derived.Test.YtifgcimmlonagaaDoorProg
import Derived.Test.YtifgcimmlonagaaDoorExactSuggestJ11
import Derived.Test.YtifgcimmlonagaaDoorExactSuggestJ00
import Derived.Test.YtifgcimmlonagaaDoorExactSuggestJ15
import Derived.WalkLawsBesides
namespace Go.Proofs.YtifgcimmlonagaaDoor
open Go Go.RowKit
set_option linter.unusedVariables false
set_option maxRecDepth 100000
set_option linter.unusedSimpArgs false

/-! The walk over words. -/
/-- A slice of words, in a block that is not touched. -/
def Sv (w : World) (base pw : Nat) (v : Value) (W : List (List Int)) : Prop := ∃ s cw, v = .slice s W.length cw ∧ W.length ≤ cw ∧ TwAt w s W ∧ (W ≠ [] → ∀ g off, s = some ⟨g, off, none⟩ → g < base ∧ g ≠ pw)
theorem TwAt.drop {w : World} {g off : Nat} {W : List (List Int)} (h : TwAt w (some ⟨g, off, none⟩) W) (n : Nat) : TwAt w (some ⟨g, off + n, none⟩) (W.drop n) := by
  rcases h with h | ⟨g', off', h1, h2, h3⟩
  · exact .inl (by rw [h]; simp)
  · simp only [Option.some.injEq, Addr.mk.injEq, and_true] at h1
    obtain ⟨rfl, rfl⟩ := h1
    refine .inr ⟨g, off + n, rfl, h2, fun t ht => ?_⟩
    rw [List.length_drop] at ht
    have := h3 (n + t) (by omega)
    rw [Nat.add_assoc, this, List.getD_eq_getElem?_getD, List.getD_eq_getElem?_getD, List.getElem?_drop]
theorem TwAt.take {w : World} {s : Option Addr} {W : List (List Int)} (h : TwAt w s W) (n : Nat) : TwAt w s (W.take n) := by
  rcases h with h | ⟨g', off', h1, h2, h3⟩
  · exact .inl (by rw [h]; simp)
  · refine .inr ⟨g', off', h1, h2, fun t ht => ?_⟩
    rw [List.length_take] at ht
    rw [h3 t (by omega), List.getD_eq_getElem?_getD, List.getD_eq_getElem?_getD, List.getElem?_take, if_pos (by omega)]
section
variable {ops : Array Oper} {rest : List Oper} {o : Oper} {a : Act} {w : World} {Q : Exit → Act → World → Prop}
set_option maxRecDepth 1000000 in
theorem wpSv_from {w0 : World} {base pw : Nat} (hgd : o.guard = none) (x y : Operand) (ho : o.op = .slice 23 x (some y) none none) (v : Value) (W : List (List Int)) (n : Nat) (hx : a.eval x = v) (hy : a.eval y = .int .i64 (n : Int)) (hst : Sv w0 base pw v W) (hs : n ≤ W.length) (hs1 : 1 ≤ n) (hl : W.length ≤ 1048576)
    (h : ∀ v', Sv w0 base pw v' (W.drop n) → wpList Tryd.prog ops Q rest (a.put o.dst v') w) : wpList Tryd.prog ops Q (o :: rest) a w := by
  obtain ⟨s, cap, rfl, hcap, hT, hg⟩ := hst
  obtain ⟨g, off, rfl, hgl, hc⟩ := hT.resolve_left (fun e => by rw [e] at hs; simp at hs; omega)
  have hr := run_slice_l (P := Tryd.prog) w 23 (some ⟨g, off, none⟩) W.length cap Tryd.underlying23 .i64 (n : Int) (by omega) (by omega)
  have hsz : (sizeOf (Tryd.prog.elem 23)).run Tryd.prog w = .ok 1 w := Tryd.sizeOf9 w
  rw [hsz] at hr
  simp only [Result.andThen_ok, Int.toNat_natCast, sliced, Nat.mul_one] at hr
  have hrr := run_sliceAt_slice (P := Tryd.prog) w 23 (.slice (some ⟨g, off, none⟩) W.length cap) (some (.int .i64 (n : Int))) none none Tryd.underlying23
  refine wpList_plain hgd fun K hK => ?_
  unfold Oper.wp execOp
  simp only [ho, Option.map_some, Option.map_none, hx, hy, Sem.run_bind, Sem.run_pure, Result.andThen_ok, hrr, hr]
  refine hK _ _ (h _ ?_)
  have hne : W ≠ [] := fun e => by rw [e] at hs; simp at hs; omega
  by_cases hcs : cap = n
  · have hdr : W.drop n = [] := List.drop_eq_nil_iff.2 (by omega)
    rw [if_pos hcs]
    have : W.length - n = 0 := by omega
    rw [this, hdr]
    exact ⟨_, _, rfl, by simp, .inl rfl, fun e => absurd rfl e⟩
  · rw [if_neg hcs]
    refine ⟨some ⟨g, off + n, none⟩, cap - n, ?_, by rw [List.length_drop]; omega, hT.drop n, fun _ g' off' e => ?_⟩
    · rw [List.length_drop]
      simp [Addr.add]
      try omega
    · cases e
      exact hg hne g off rfl
end
end Go.Proofs.YtifgcimmlonagaaDoor

namespace Go.Proofs.YtifgcimmlonagaaDoor
open Go Go.RowKit
set_option linter.unusedVariables false

def Tabs (w : World) : Prop := Lib.Utf8Tabs (Tryd.laysValid_ren.g 3) (Tryd.laysValid_ren.g 4) w
theorem Tabs.below {w w' : World} (h : Tabs w) (hb : Below w.heap.size w w') : Tabs w' := Utf8Tabs_below h hb
theorem valid_any (s : ByteArray) (w : World) (hs : s.size ≤ 1048576) (hT : Tabs w) :
    Calls Tryd.prog 41 #[.string s] w fun e w' => e = .returned (.bool (validB s)) ∧ Below w.heap.size w w' :=
  Any.utf8_ValidString Tryd.laysValid s w (by omega) hT
end Go.Proofs.YtifgcimmlonagaaDoor
