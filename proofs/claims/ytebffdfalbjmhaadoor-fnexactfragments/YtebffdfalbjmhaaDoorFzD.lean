import Derived.Test.YtebffdfalbjmhaaDoorFzR
import Derived.OrdersHeld
import Derived.OrdersIn
namespace Go.Proofs.YtebffdfalbjmhaaDoor
open Go Go.RowKit
set_option linter.unusedVariables false

/-! A region that draws, in a round: as everywhere, if it defers nothing. -/
def noDefer (ops : Array Oper) : Bool := ops.toList.all fun o => match o.op with
  | .defer _ => false
  | _ => true
theorem noDefer_at {ops : Array Oper} (h : noDefer ops = true) {i : Nat} {o : Oper} (ho : ops[i]? = some o) : ∀ c, o.op ≠ .defer c := by
  intro c e
  have hm : o ∈ ops.toList := by
    have := List.mem_of_getElem? (by rw [Array.getElem?_toList]; exact ho : ops.toList[i]? = some o)
    exact this
  have := List.all_eq_true.1 h o hm
  rw [e] at this
  cases this
theorem wpOpIn_round {l m : Nat} {P : Program} {ops : Array Oper} {Q : Exit → Act → World → Prop} (hd : noDefer ops = true) (hno : ¬ LetsOut Q) {i : Nat} {K K' : Act → World → Prop} (hk : ∀ a w, K a w → K' a w) {a : Act} {w : World}
    (h : wpOp P ops Q i K a w) : wpOpIn (Fence.wide.inRound l) m P ops Q i K' a w := by
  unfold wpOp at h
  unfold wpOpIn
  cases ho : ops[i]? with
  | none => simp only [ho] at h ⊢; exact hk _ _ h
  | some o =>
    simp only [ho] at h ⊢
    split
    · rename_i hw
      simp only [hw, if_true] at h
      have h' := h.resolve_right (fun h2 => hno h2.2)
      unfold Oper.wp at h'
      unfold Oper.wpIn
      refine ⟨fun f _ => trivial, ?_⟩
      show o.uponIn (Fence.wide.inRound l) m P a K' Q ((o.semAt (some l) a.eval).run P w)
      rw [Oper.semAt_some l a.eval o (noDefer_at hd ho)]
      generalize (execOp a.eval o).run P w = r at h'
      cases r with
      | ok x w' =>
        cases x with
        | value v => exact hk _ _ h'
        | skip => exact hk _ _ h'
        | defer d => exact hk _ _ h'
        | enter f args =>
          refine ⟨(fun h => by cases h), CallsIn.inRound l (callsIn_wide.2 ?_)⟩
          refine Calls.mono h' ?_
          intro e w2 he
          cases e <;> first | exact hk _ _ he | exact he
        | row r args =>
          refine ⟨(fun h => by cases h), fun c cs _ => ?_⟩
          obtain ⟨v, w2, hq, hst⟩ := h' c cs
          exact ⟨v, w2, hk _ _ hq, stepsIn_wide.2 hst⟩
        | _ => exact h'.elim
      | halt x w' => cases x <;> first | exact h' | exact h'.elim
    · rename_i hw
      simp only [hw] at h
      exact ⟨fun f _ => trivial, hk _ _ h⟩
theorem wpAnyIn_round {l m : Nat} {P : Program} {md : Region.Mode} {ops : Array Oper} {Q : Exit → Act → World → Prop} (hd : noDefer ops = true) (hno : ¬ LetsOut Q) : ∀ (fuel : Nat) (listed : Array Bool) (a : Act) (w : World), wpAny P md ops Q fuel listed a w → wpAnyIn (Fence.wide.inRound l) m P md ops Q fuel listed a w
  | 0, _, _, _, h => h
  | fuel + 1, _, _, _, h => ⟨h.1, fun i hi => wpOpIn_round hd hno (fun a' w' h' => wpAnyIn_round hd hno fuel _ a' w' h') (h.2 i hi)⟩
theorem region_round {id l m : Nat} {P : Program} {ops : Array Oper} {Q : Exit → Act → World → Prop} {a : Act} {w : World} {S : World → Prop} (hm : P.follows .mixedOrders = true) (hd : noDefer ops = true) (hno : ¬ LetsOut Q)
    (hS : S w.drew) (h : S w.drew → wpAnyH P .any ops Q S ops.size (Array.replicate ops.size false) a w.drew) : (Code.region id ops true).wpIn (Fence.wide.inRound l) m P Q a w :=
  wpIn_region_any hm (wpAnyIn_round hd hno _ _ _ _ (wpAny_of_held _ _ _ _ (h hS)))
end Go.Proofs.YtebffdfalbjmhaaDoor
