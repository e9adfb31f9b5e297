import Derived.Test.YtnekdkafhoacoaaDoorRqZ
import Derived.Test.YtnekdkafhoacoaaDoorRqO
import Derived.Test.YtnekdkafhoacoaaDoorByteSa
namespace Go.Proofs.YtnekdkafhoacoaaDoor
open Go Go.RowKit
set_option linter.unusedVariables false
set_option maxRecDepth 100000

def smallV (v : Vl) : Prop := v.1.length ≤ 65536 ∧ v.2.1.length ≤ 4096 ∧ v.2.2.length ≤ 4096
theorem rdV_small {bs r : List UInt8} {v : Vl} (h : rdV bs = some (v, r)) : smallV v := by
  unfold rdV at h
  cases h1 : rdT bs with
  | none => rw [h1] at h; simp at h
  | some p =>
    obtain ⟨f, r1⟩ := p
    rw [h1] at h
    simp only at h
    cases h2 : rdN 4096 r1 with
    | none => rw [h2] at h; simp at h
    | some p =>
      obtain ⟨n, r2⟩ := p
      rw [h2] at h
      simp only at h
      cases h3 : rdTs n r2 with
      | none => rw [h3] at h; simp at h
      | some p =>
        obtain ⟨tx, r3⟩ := p
        rw [h3] at h
        simp only at h
        cases h4 : rdN 4096 r3 with
        | none => rw [h4] at h; simp at h
        | some p =>
          obtain ⟨m, r4⟩ := p
          rw [h4] at h
          simp only at h
          cases h5 : rdZs m r4 with
          | none => rw [h5] at h; simp at h
          | some p =>
            obtain ⟨zs, r5⟩ := p
            rw [h5] at h
            simp only [Option.some.injEq, Prod.mk.injEq] at h
            obtain ⟨rfl, rfl⟩ := h
            have a1 := rdT_len h1
            have a2 := rdN_len h2
            have a3 := rdTs_len n h3
            have a4 := rdN_len h4
            have a5 := rdZs_len m h5
            exact ⟨by show f.length ≤ _; omega, by show tx.length ≤ _; omega, by show zs.length ≤ _; omega⟩
theorem rdVs_small : ∀ (k : Nat) {bs r : List UInt8} {V : List Vl}, rdVs k bs = some (V, r) → V.length = k ∧ ∀ v ∈ V, smallV v
  | 0, bs, r, V, h => by simp only [rdVs, Option.some.injEq, Prod.mk.injEq] at h; obtain ⟨rfl, rfl⟩ := h; simp
  | k + 1, bs, r, V, h => by
    simp only [rdVs] at h
    cases h1 : rdV bs with
    | none => rw [h1] at h; simp at h
    | some p =>
      obtain ⟨v, r1⟩ := p
      rw [h1] at h
      simp only at h
      cases h2 : rdVs k r1 with
      | none => rw [h2] at h; simp at h
      | some q =>
        obtain ⟨vs, r2⟩ := q
        rw [h2] at h
        simp only [Option.some.injEq, Prod.mk.injEq] at h
        obtain ⟨rfl, rfl⟩ := h
        have b := rdVs_small k h2
        refine ⟨by simp [b.1], fun v' hv => ?_⟩
        rcases List.mem_cons.1 hv with rfl | hv
        · exact rdV_small h1
        · exact b.2 v' hv
theorem rdD_small {bs r : List UInt8} {d : Dc} (h : rdD bs = some (d, r)) : d.2.length ≤ 4096 ∧ ∀ v ∈ d.2, smallV v := by
  unfold rdD at h
  cases h1 : rdT bs with
  | none => rw [h1] at h; simp at h
  | some p =>
    obtain ⟨i, r1⟩ := p
    rw [h1] at h
    simp only at h
    cases h2 : rdN 4096 r1 with
    | none => rw [h2] at h; simp at h
    | some p =>
      obtain ⟨n, r2⟩ := p
      rw [h2] at h
      simp only at h
      cases h3 : rdVs n r2 with
      | none => rw [h3] at h; simp at h
      | some p =>
        obtain ⟨V, r3⟩ := p
        rw [h3] at h
        simp only [Option.some.injEq, Prod.mk.injEq] at h
        obtain ⟨rfl, rfl⟩ := h
        have a2 := rdN_len h2
        have a3 := rdVs_small n h3
        exact ⟨by show V.length ≤ _; omega, a3.2⟩
theorem rdAns_small (bs : List UInt8) : (rdAns bs).1.2.length ≤ 4096 ∧ ∀ i, smallV ((rdAns bs).1.2.getD i vl0) := by
  have v0 : smallV vl0 := ⟨by simp [vl0], by simp [vl0], by simp [vl0]⟩
  have key : ∀ V : List Vl, (∀ v ∈ V, smallV v) → ∀ i, smallV (V.getD i vl0) := fun V hV i => by
    by_cases hi : i < V.length
    · rw [List.getD_eq_getElem?_getD, List.getElem?_eq_getElem hi]; exact hV _ (List.getElem_mem hi)
    · rw [List.getD_eq_getElem?_getD, List.getElem?_eq_none (by omega)]; exact v0
  cases h : rdD bs with
  | none => rw [rdAns_no h]; exact ⟨by simp, key [] (fun v hv => by simp at hv)⟩
  | some p =>
    obtain ⟨d, r⟩ := p
    by_cases hr : r = []
    · subst hr
      obtain ⟨id, V⟩ := d
      have := rdD_small h
      rw [rdAns_ok h]
      exact ⟨this.1, key V this.2⟩
    · rw [rdAns_rest h hr]; exact ⟨by simp, key [] (fun v hv => by simp at hv)⟩
theorem own_holdT {w : World} {base : Nat} {v : Value} {l : List (List UInt8)} (h : w.ownsRow base 9 1 v l.length (l.map mkS)) : ∃ a c, v = .slice a l.length c ∧ HoldTx w a l := by
  rcases h.2 with ⟨rfl, h0⟩ | ⟨g, cap, cur, rfl, _, hg, _⟩
  · exact ⟨none, 0, by rw [h0], Or.inl (List.length_eq_zero_iff.1 h0)⟩
  · refine ⟨_, cap, rfl, Or.inr ⟨g, 0, rfl, (Array.getElem?_eq_some_iff.1 hg).1, fun i hi => ?_⟩⟩
    rw [Nat.zero_add, h.cellAt i (by omega)]
    simp [List.getD_eq_getElem?_getD, hi, mkS]
theorem own_holdN {w : World} {base : Nat} {v : Value} {l : List Int} (h : w.ownsRow base 3 1 v l.length (l.map mkI)) : ∃ a c, v = .slice a l.length c ∧ HoldZ w a l := by
  rcases h.2 with ⟨rfl, h0⟩ | ⟨g, cap, cur, rfl, _, hg, _⟩
  · exact ⟨none, 0, by rw [h0], Or.inl (List.length_eq_zero_iff.1 h0)⟩
  · refine ⟨_, cap, rfl, Or.inr ⟨g, 0, rfl, (Array.getElem?_eq_some_iff.1 hg).1, fun i hi => ?_⟩⟩
    rw [Nat.zero_add, h.cellAt i (by omega)]
    simp [List.getD_eq_getElem?_getD, hi, mkI]
theorem AnsV.hold {w : World} {lo hi : Nat} {a : Option Addr} {c : Nat} {V : List Vl} {xs : List Value} (h : AnsV w lo hi (.slice a V.length c) V xs) : HoldV w a V := by
  rcases h.row.2 with ⟨e, h0⟩ | ⟨g, cap, cur, e, _, hg, _⟩
  · exact Or.inl (List.length_eq_zero_iff.1 h0)
  · simp only [Value.slice.injEq] at e
    obtain ⟨rfl, _, rfl⟩ := e
    refine Or.inr ⟨g, 0, rfl, (Array.getElem?_eq_some_iff.1 hg).1, fun i hi' => ?_⟩
    obtain ⟨vt, vn, q0, q1, q2, q3, q4⟩ := h.val i hi'
    obtain ⟨at_, ct, rfl, hT⟩ := own_holdT q3
    obtain ⟨an, cn, rfl, hN⟩ := own_holdN q4
    rw [Nat.zero_add]
    refine ⟨?_, ⟨at_, ct, ?_, hT⟩, an, cn, ?_, hN⟩
    · rw [h.row.cellAt (i * 3) (by omega)]; exact q0
    · rw [h.row.cellAt (i * 3 + 1) (by omega)]; exact q1
    · rw [h.row.cellAt (i * 3 + 2) (by omega)]; exact q2
end Go.Proofs.YtnekdkafhoacoaaDoor
