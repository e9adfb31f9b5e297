import Derived.Test.YtbkedgpligcicaaRows
import Derived.WalkKit
import Derived.ProofKit
import Derived.OpenShut
import Derived.ShutString
import Derived.ChangeOld
import Derived.Below
import Derived.Deep.Strs
import Derived.Test.YtbkedgpligcicaaBuildDictJ26
namespace Go.Proofs.Ytbkedgpligcicaa.fnExactBuildDict
open Go.ChangeShapes Go.WideShapes Go.ChangeAt Go.RowKit
open Go.ChangeMaps (open_string shut_string)
set_option linter.unusedVariables false

theorem own : ownKnob Try.prog.godebug = none := by kernel_rfl
theorem laidOut : laidOutB Try.prog = true := by kernel_rfl
theorem addr_at {W : World} {a : Addr} {m : Nat} {V : Nat → Value} (h : ∀ i, i < m → W.cell? (a.add i) = some (V i)) (hp : 0 < m) : ∃ b off, a = ⟨b, off, none⟩ ∧ b < W.heap.size ∧ ∀ j, j < m → W.cell? ⟨b, off + j, none⟩ = some (V j) := by
  obtain ⟨b, off, spot⟩ := a
  have hspot : spot = none := by simpa [Addr.add] using World.cell?_spot (h 0 hp)
  subst hspot
  have hc : ∀ j, j < m → W.cell? ⟨b, off + j, none⟩ = some (V j) := fun j hj => by rw [← Go.WideShapes.add_plain]; exact h j hj
  exact ⟨b, off, rfl, cell_lt (hc 0 hp), hc⟩
theorem ba_of (t : ByteArray) : (⟨t.data.toList.toArray⟩ : ByteArray) = t := by
  apply ByteArray.ext
  simp
theorem openTx {H : Type} {enc : TypeId × Value → H} {W : World} {n : Nat} {v : Value} {x : DataW H × List MemPlace} (h : DataW.trod enc Try.prog W 0 (fun _ => true) true n 23 [v] = some x) :
    ∃ (a : Option Addr) (cap : Nat) (l : List (List UInt8)), v = .slice a l.length cap ∧ l.length ≤ 9223372036854775807 ∧ (∀ i, (l.getD i []).length ≤ 9223372036854775807) ∧ TmAt W a l := by
  rcases Deep.open_strs Try.underlying23 Try.underlying9 (by kernel_rfl) h with ⟨hcs, _⟩ | ⟨a, len, cap, m, Sx, hcs, _, hl, hm, hmm, _, hx⟩
  · simp only [List.cons.injEq, and_true] at hcs
    subst hcs
    exact ⟨none, 0, [], rfl, by simp, fun i => by simp, Or.inl rfl⟩
  · simp only [List.cons.injEq, and_true] at hcs
    subst hcs
    have hmc : m = cap := by simpa using hmm
    have hg : ∀ t, t < len → ((List.range len).map fun i => (Sx i).data.toList).getD t [] = (Sx t).data.toList := fun t ht => by simp [ht]
    refine ⟨some a, cap, (List.range len).map fun i => (Sx i).data.toList, by simp, by simp; unfold maxLen at hm; omega, fun t => ?_, ?_⟩
    · by_cases ht : t < len
      · rw [hg t ht]
        have := (hx t (by omega)).2
        unfold maxLen at this
        have e : (Sx t).data.toList.length = (Sx t).size := by rw [Array.length_toList]; rfl
        omega
      · rw [List.getD_eq_getElem?_getD, List.getElem?_eq_none (by simp; omega)]
        simp
    · by_cases h0 : len = 0
      · exact Or.inl (by simp [h0])
      · obtain ⟨b, off, rfl, hb, hc⟩ := addr_at (V := fun i => .string (Sx i)) (fun i hi => (hx i hi).1) (by omega)
        refine Or.inr ⟨b, off, rfl, hb, fun t ht => ?_⟩
        have ht' : t < len := by simpa using ht
        rw [hg t ht', ba_of]
        exact hc t (by omega)

set_option maxRecDepth 100000 in
theorem lifted (os : Os) (started : os.Started) (H : Type) (enc : TypeId × Value → H) :
    ReturnsInHanded {} Try.checked os 4 .any (Rows.fnExactBuildDictSpec.pre6 enc Try.prog Try.f4 Rows.fnExactBuildDictRow.domain false) (Rows.fnExactBuildDictSpec.post enc Try.prog Try.f4 false true false false) := by
  refine returnsInHanded_of_change (C := Try.checked) own started (by kernel_rfl) Try.func4
    (ChangeSpec.witness6 (enc := enc) (C := Try.checked) false ⟨#[], #[.slice none 0 0], []⟩ 8 (by kernel_rfl) (by kernel_rfl) (by kernel_rfl) (by kernel_rfl)) ?_
  intro W base args ds gs before hval0 hW hcnd _
  have hval : ∀ (j : Nat) t v, Try.f4.params[j]? = some t → args[j]? = some v → Value.okWide Try.prog W .any base t v := hval0
  have hW' := hW
  obtain ⟨p, q, hA0, hV, rfl, hfz, hnd⟩ := hW
  have hA : DataW.TrodAll enc Try.prog W 0 (fun _ => true) true Try.f4.params.toList args.toList ds p := hA0
  rw [Try.params4] at hA hval
  obtain ⟨v0, d0, rfl, rfl, h0⟩ := trodAll_one hA
  obtain ⟨rfl, rfl⟩ := trodVars_none hV
  have k0 := h0
  have lt0 : ∀ x ∈ p, x.block < W.heap.size := by obtain ⟨m, hm⟩ := k0; exact DataW.trod_lt m _ _ _ hm
  obtain ⟨c0, hv0⟩ := okWide_slice Try.underlying23 (hval 0 23 v0 rfl rfl)
  obtain ⟨len0, cap0, rfl⟩ := hv0
  obtain ⟨fuel, hf⟩ := h0
  obtain ⟨a0, cap1, ts, he0, hn63, hA63, htm⟩ := openTx hf
  have he1 : (Value.slice c0 len0 cap0) = .slice a0 ts.length cap1 := by simpa [Value.cells] using he0
  simp only [Value.slice.injEq] at he1
  obtain ⟨rfl, rfl, rfl⟩ := he1
  clear hA0 hval0
  refine (buildLaw_any _ _ ts W hn63 hA63 htm).mono fun e W' ⟨he, bel⟩ => ?_
  subst he
  exact ⟨_, rfl, _, _, _, [], _, [], hW', trodAll_mk1 (shut_bool Try.underlying4 _), trodAll_mk1 (Below.trod laidOut (by kernel_rfl) (of_decide_eq_true (by kernel_rfl)) k0 bel lt0), rfl, bel.frame _, fun h => by cases h⟩

theorem over : Rows.fnExactBuildDictRow.holds Try.pinned (OpenSpec.ofChange Rows.fnExactBuildDictSpec) :=
  OpenClaim.holds_of_wide 4 Try.f4 rfl rfl rfl rfl rfl rfl rfl ⟨rfl, rfl, rfl, rfl, rfl⟩ rfl rfl rfl rfl rfl (by kernel_rfl) Try.func4 (by kernel_rfl)
    (of_decide_eq_true (by kernel_rfl)) (by unfold Func.isWrapper; first | (rw [if_pos (by decide +kernel)]; kernel_rfl) | (rw [if_neg (by decide +kernel)]; exact ⟨rfl, rfl⟩))
    (fun os started H enc _ => lifted os started H enc)

theorem proved : Rows.FnExactBuildDictSaid := over
end Go.Proofs.Ytbkedgpligcicaa.fnExactBuildDict

namespace Go.Proofs.Ytbkedgpligcicaa
theorem fnExactBuildDict_holds : Rows.FnExactBuildDictSaid := fnExactBuildDict.proved
#print axioms fnExactBuildDict_holds
end Go.Proofs.Ytbkedgpligcicaa
