import Derived.Test.YtfdmahbjofolhamDoorLkC
import Derived.Test.YtfdmahbjofolhamDoorOwn
namespace Go.Proofs.YtfdmahbjofolhamDoor
open Go Go.RowKit
set_option linter.unusedVariables false
set_option maxRecDepth 100000

/-- A slice of one-cell elements that tells xs in w. -/
def StrV (w : World) (v : Value) (xs : List Value) : Prop :=
  ∃ ad cap, v = .slice ad xs.length cap ∧ xs.length ≤ cap ∧ (xs = [] ∨ ∃ g off, ad = some ⟨g, off, none⟩ ∧ g < w.heap.size ∧ ∀ t, t < xs.length → w.cell? ⟨g, off + t, none⟩ = xs[t]?)
theorem StrV.below {w w' : World} {v : Value} {xs : List Value} (h : StrV w v xs) (hb : Below w.heap.size w w') : StrV w' v xs := by
  obtain ⟨ad, cap, rfl, h1, h | ⟨g, off, rfl, hg, hc⟩⟩ := h
  · exact ⟨ad, cap, rfl, h1, Or.inl h⟩
  · exact ⟨_, cap, rfl, h1, Or.inr ⟨g, off, rfl, Nat.lt_of_lt_of_le hg hb.size, fun t ht => (hb.cell (p := ⟨g, off + t, none⟩) hg).trans (hc t ht)⟩⟩
theorem StrV.own {w : World} {base e n : Nat} {v : Value} {xs : List Value} (h : w.ownsRow base e 1 v n xs) (hn : xs.length = n) : StrV w v xs := by
  subst hn
  have h0 := h
  rcases h.2 with ⟨rfl, h1⟩ | ⟨g, cap, cur, rfl, hb, hg, hr⟩
  · exact ⟨none, 0, by rw [h1], by omega, Or.inl (List.length_eq_zero_iff.1 h1)⟩
  · have hcap := h0.1
    refine ⟨_, cap, rfl, ?_, Or.inr ⟨g, 0, rfl, (Array.getElem?_eq_some_iff.1 hg).1, fun t ht => by rw [Nat.zero_add]; exact h0.cellAt t (by omega)⟩⟩
    first | exact hr.1 | exact hr.2.1 | omega | (have := h0.len_le; omega)
section
variable {ops : Array Oper} {rest : List Oper} {o : Oper} {a : Act} {w : World} {Q : Exit → Act → World → Prop}
theorem strV_sliced {w0 : World} {ad : Option Addr} {cap : Nat} {xs : List Value} (hcap : xs.length ≤ cap) (hst : xs = [] ∨ ∃ g off, ad = some ⟨g, off, none⟩ ∧ g < w0.heap.size ∧ ∀ t, t < xs.length → w0.cell? ⟨g, off + t, none⟩ = xs[t]?) {lo hi : Nat} (h1 : lo ≤ hi) (h2 : hi ≤ xs.length) :
    StrV w0 (sliced ad lo hi cap 1) ((xs.drop lo).take (hi - lo)) := by
  have hlen : ((xs.drop lo).take (hi - lo)).length = hi - lo := by rw [List.length_take, List.length_drop]; omega
  refine ⟨_, cap - lo, by rw [sliced, hlen], by rw [hlen]; omega, ?_⟩
  by_cases h0 : hi = lo
  · refine Or.inl ?_
    rw [h0, Nat.sub_self, List.take_zero]
  · rcases hst with h | ⟨g, off, rfl, hg, hc⟩
    · subst h; simp at h2; omega
    · refine Or.inr ⟨g, off + lo, ?_, hg, fun t ht => ?_⟩
      · rw [if_neg (by omega), Nat.mul_one]
        simp only [Option.map_some, Addr.add]
        split
        · subst_vars; simp
        · rfl
      · rw [hlen] at ht
        rw [Nat.add_assoc, hc (lo + t) (by omega), List.getElem?_take, if_pos ht, List.getElem?_drop]
theorem wpV_lh {w0 : World} (ty : TypeId) (hu : Tryd.prog.underlying ty = some (.slice (Tryd.prog.elem ty))) (hsz : ∀ W, (sizeOf (Tryd.prog.elem ty)).run Tryd.prog W = .ok 1 W) (hgd : o.guard = none) (x y z : Operand) (ho : o.op = .slice ty x (some y) (some z) none) (v : Value) (xs : List Value) (lo hi : Nat) (hx : a.eval x = v) (hy : a.eval y = .int .i64 (lo : Int)) (hz : a.eval z = .int .i64 (hi : Int)) (hst : StrV w0 v xs) (h1 : lo ≤ hi) (h2 : hi ≤ xs.length)
    (h : ∀ v', StrV w0 v' ((xs.drop lo).take (hi - lo)) → wpList Tryd.prog ops Q rest (a.put o.dst v') w) : wpList Tryd.prog ops Q (o :: rest) a w := by
  obtain ⟨ad, cap, rfl, hcap, hst⟩ := hst
  have hr := run_slice_lh (P := Tryd.prog) w ty ad xs.length cap hu .i64 .i64 (lo : Int) (hi : Int) (by omega) (by omega) (by omega)
  rw [hsz] at hr
  simp only [Result.andThen_ok, Int.toNat_natCast] at hr
  have hrr := run_sliceAt_slice (P := Tryd.prog) w ty (.slice ad xs.length cap) (some (.int .i64 (lo : Int))) (some (.int .i64 (hi : Int))) none hu
  refine wpList_plain hgd fun K hK => ?_
  unfold Oper.wp execOp
  simp only [ho, Option.map_some, Option.map_none, hx, hy, hz, Sem.run_bind, Sem.run_pure, Result.andThen_ok, hrr, hr]
  exact hK _ _ (h _ (strV_sliced hcap hst h1 h2))
theorem wpV_l {w0 : World} (ty : TypeId) (hu : Tryd.prog.underlying ty = some (.slice (Tryd.prog.elem ty))) (hsz : ∀ W, (sizeOf (Tryd.prog.elem ty)).run Tryd.prog W = .ok 1 W) (hgd : o.guard = none) (x y : Operand) (ho : o.op = .slice ty x (some y) none none) (v : Value) (xs : List Value) (lo : Nat) (hx : a.eval x = v) (hy : a.eval y = .int .i64 (lo : Int)) (hst : StrV w0 v xs) (h2 : lo ≤ xs.length)
    (h : ∀ v', StrV w0 v' (xs.drop lo) → wpList Tryd.prog ops Q rest (a.put o.dst v') w) : wpList Tryd.prog ops Q (o :: rest) a w := by
  obtain ⟨ad, cap, rfl, hcap, hst⟩ := hst
  have hr := run_slice_l (P := Tryd.prog) w ty ad xs.length cap hu .i64 (lo : Int) (by omega) (by omega)
  rw [hsz] at hr
  simp only [Result.andThen_ok, Int.toNat_natCast] at hr
  have hrr := run_sliceAt_slice (P := Tryd.prog) w ty (.slice ad xs.length cap) (some (.int .i64 (lo : Int))) none none hu
  refine wpList_plain hgd fun K hK => ?_
  unfold Oper.wp execOp
  simp only [ho, Option.map_some, Option.map_none, hx, hy, Sem.run_bind, Sem.run_pure, Result.andThen_ok, hrr, hr]
  refine hK _ _ (h _ ?_)
  have := strV_sliced (lo := lo) hcap hst h2 (Nat.le_refl _)
  rwa [List.take_of_length_le (by rw [List.length_drop]; omega)] at this
/-- The same as an equation of its own. -/
theorem run_l {w0 : World} (ty : TypeId) (hu : Tryd.prog.underlying ty = some (.slice (Tryd.prog.elem ty))) (hsz : ∀ W, (sizeOf (Tryd.prog.elem ty)).run Tryd.prog W = .ok 1 W) {ad : Option Addr} {cap : Nat} {xs : List Value} (hst : StrV w0 (.slice ad xs.length cap) xs) (lo : Nat) (h2 : lo ≤ xs.length) :
    ∃ ad' cap', (∀ W, (Instr.slice ty (.slice ad xs.length cap) (some (.int .i64 (lo : Int))) none none).run Tryd.prog W = .ok (.slice ad' (xs.length - lo) cap') W) ∧ StrV w0 (.slice ad' (xs.length - lo) cap') (xs.drop lo) := by
  obtain ⟨ad2, cap2, he, hcap, hst⟩ := hst
  simp only [Value.slice.injEq] at he
  obtain ⟨rfl, -, rfl⟩ := he
  have := strV_sliced (lo := lo) hcap hst h2 (Nat.le_refl _)
  rw [List.take_of_length_le (by rw [List.length_drop]; omega)] at this
  refine ⟨_, _, fun W => ?_, this⟩
  have hr := run_slice_l (P := Tryd.prog) W ty ad xs.length cap hu .i64 (lo : Int) (by omega) (by omega)
  rw [hsz] at hr
  simp only [Result.andThen_ok, Int.toNat_natCast] at hr
  exact hr
end
theorem tyU46 : Tryd.prog.underlying 46 = some (.slice (Tryd.prog.elem 46)) := Tryd.underlying46
theorem tyU83 : Tryd.prog.underlying 83 = some (.slice (Tryd.prog.elem 83)) := Tryd.underlying83
theorem tyU55 : Tryd.prog.underlying 55 = some (.slice (Tryd.prog.elem 55)) := Tryd.underlying55
theorem tyZ46 (W : World) : (sizeOf (Tryd.prog.elem 46)).run Tryd.prog W = .ok 1 W := Tryd.sizeOf3 W
theorem tyZ83 (W : World) : (sizeOf (Tryd.prog.elem 83)).run Tryd.prog W = .ok 1 W := Tryd.sizeOf21 W
theorem tyZ55 (W : World) : (sizeOf (Tryd.prog.elem 55)).run Tryd.prog W = .ok 1 W := Tryd.sizeOf46 W
end Go.Proofs.YtfdmahbjofolhamDoor
