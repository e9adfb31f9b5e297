import Derived.Test.YtefhmbnhhkgifaaDpM
import Derived.WalkKit
import Derived.ProofKit
import Derived.OpenShut
import Derived.Deep.SlicePairs
import Derived.ChangeOld
import Derived.Below
namespace Go.Proofs.Ytefhmbnhhkgifaa
open Go Go.RowKit Go.ChangeShapes Go.WideShapes Go.ChangeAt
set_option linter.unusedVariables false

theorem str_list (s : ByteArray) : s = ⟨s.data.toList.toArray⟩ := by simp
set_option maxRecDepth 100000 in
theorem openTx {H : Type} {enc : TypeId × Value → H} {W : World} {n : Nat} {v : Value} {x : DataW H × List MemPlace} (h : DataW.trod enc Try.prog W 0 (fun _ => true) true n 62 [v] = some x) :
    ∃ (a : Option Addr) (cap : Nat) (l : List (List UInt8)), v = .slice a l.length cap ∧ l.length ≤ 9223372036854775807 ∧ HoldTx W a l ∧ ∀ i, (l.getD i []).length ≤ 9223372036854775807 := by
  rcases Deep.open_slice Try.underlying62 h with ⟨hcs, _⟩ | ⟨a, len, cap, m, k, D, Pl, hcs, _, hl, hm, hmm, _, hx⟩
  · simp only [List.cons.injEq, and_true] at hcs
    subst hcs
    exact ⟨none, 0, [], rfl, by simp, Or.inl rfl, fun i => by simp⟩
  · simp only [List.cons.injEq, and_true] at hcs
    subst hcs
    have hmc : m = cap := by simpa using hmm
    have hce : Try.prog.cellsOf 9 = 1 := by kernel_rfl
    have each : ∀ i, i < m → ∃ q : (List UInt8), W.cell? (a.add i) = some (.string ⟨q.toArray⟩) ∧ q.length ≤ 9223372036854775807 := fun i hi => by
      obtain ⟨cs', h1, h2⟩ := hx i hi
      rw [hce] at h1
      obtain ⟨_, hlen, hcell⟩ := World.cells?_some h1
      match cs', hlen with
      | [v0], _ =>
        have c0 := hcell 0 (by omega)
        rw [Deep.add_add] at c0
        obtain ⟨s, e0, _, hs⟩ := DataW.trod_string Try.underlying9 h2
        simp only [List.cons.injEq, and_true] at e0
        subst e0
        exact ⟨s.data.toList, by rw [← str_list]; simpa using c0, by unfold maxLen at hs; have : s.size = s.data.toList.length := by rw [Array.length_toList]; rfl
                                                                     omega⟩
    obtain ⟨q, hq⟩ := Deep.choose_lt each
    have hg : ∀ t, t < len → ((List.range len).map q).getD t [] = q t := fun t ht => by simp [ht]
    refine ⟨some a, cap, (List.range len).map q, by simp, by simp; unfold maxLen at hm; omega, ?_, ?_⟩
    · by_cases h0 : len = 0
      · exact Or.inl (by simp [h0])
      · have ha : ∃ b off, a = ⟨b, off, none⟩ := by
          obtain ⟨b', off', spot⟩ := a
          have hspot : spot = none := by simpa [Addr.add] using World.cell?_spot (hq 0 (by omega)).1
          subst hspot
          exact ⟨b', off', rfl⟩
        obtain ⟨b, off, rfl⟩ := ha
        have hc : ∀ j, j < m → W.cell? ⟨b, off + j, none⟩ = some (.string ⟨(q j).toArray⟩) := fun j hj => by
          have c0 := (hq j hj).1
          rw [Go.WideShapes.add_plain] at c0
          exact c0
        refine Or.inr ⟨b, off, rfl, cell_lt (hc 0 (by omega)), fun t ht => ?_⟩
        have ht' : t < len := by simpa using ht
        rw [hg t ht']
        exact hc t (by omega)
    · intro i
      by_cases hi : i < len
      · rw [hg i hi]; exact (hq i (by omega)).2
      · simp [hi]
set_option maxRecDepth 100000 in
theorem openNz {H : Type} {enc : TypeId × Value → H} {W : World} {n : Nat} {v : Value} {x : DataW H × List MemPlace} (h : DataW.trod enc Try.prog W 0 (fun _ => true) true n 63 [v] = some x) :
    ∃ (a : Option Addr) (cap : Nat) (l : List Int), v = .slice a l.length cap ∧ l.length ≤ 9223372036854775807 ∧ HoldZ W a l := by
  rcases Deep.open_slice Try.underlying63 h with ⟨hcs, _⟩ | ⟨a, len, cap, m, k, D, Pl, hcs, _, hl, hm, hmm, _, hx⟩
  · simp only [List.cons.injEq, and_true] at hcs
    subst hcs
    exact ⟨none, 0, [], rfl, by simp, Or.inl rfl⟩
  · simp only [List.cons.injEq, and_true] at hcs
    subst hcs
    have hmc : m = cap := by simpa using hmm
    have hce : Try.prog.cellsOf 3 = 1 := by kernel_rfl
    have each : ∀ i, i < m → ∃ q : Int, W.cell? (a.add i) = some (.int .i64 q) := fun i hi => by
      obtain ⟨cs', h1, h2⟩ := hx i hi
      rw [hce] at h1
      obtain ⟨_, hlen, hcell⟩ := World.cells?_some h1
      match cs', hlen with
      | [v0], _ =>
        have c0 := hcell 0 (by omega)
        rw [Deep.add_add] at c0
        obtain ⟨z, e0, _, _⟩ := DataW.trod_int Try.underlying3 h2
        simp only [List.cons.injEq, and_true] at e0
        subst e0
        exact ⟨z, by simpa using c0⟩
    obtain ⟨q, hq⟩ := Deep.choose_lt each
    have hg : ∀ t, t < len → ((List.range len).map q).getD t 0 = q t := fun t ht => by simp [ht]
    refine ⟨some a, cap, (List.range len).map q, by simp, by simp; unfold maxLen at hm; omega, ?_⟩
    · by_cases h0 : len = 0
      · exact Or.inl (by simp [h0])
      · have ha : ∃ b off, a = ⟨b, off, none⟩ := by
          obtain ⟨b', off', spot⟩ := a
          have hspot : spot = none := by simpa [Addr.add] using World.cell?_spot (hq 0 (by omega))
          subst hspot
          exact ⟨b', off', rfl⟩
        obtain ⟨b, off, rfl⟩ := ha
        have hc : ∀ j, j < m → W.cell? ⟨b, off + j, none⟩ = some (.int .i64 (q j)) := fun j hj => by
          have c0 := (hq j hj)
          rw [Go.WideShapes.add_plain] at c0
          exact c0
        refine Or.inr ⟨b, off, rfl, cell_lt (hc 0 (by omega)), fun t ht => ?_⟩
        have ht' : t < len := by simpa using ht
        rw [hg t ht']
        exact hc t (by omega)
set_option maxRecDepth 100000 in
theorem openVals {H : Type} {enc : TypeId × Value → H} {W : World} {n : Nat} {v : Value} {x : DataW H × List MemPlace} (h : DataW.trod enc Try.prog W 0 (fun _ => true) true n 22 [v] = some x) :
    ∃ (a : Option Addr) (cap : Nat) (V : List Vl), v = .slice a V.length cap ∧ V.length ≤ 9223372036854775807 ∧ (∀ i, VlLen (V.getD i vl0)) ∧ HoldV W a V := by
  rcases Deep.open_slice Try.underlying22 h with ⟨hcs, _⟩ | ⟨a, len, cap, m, k, D, Pl, hcs, _, hl, hm, hmm, _, hx⟩
  · simp only [List.cons.injEq, and_true] at hcs
    subst hcs
    exact ⟨none, 0, [], rfl, by simp, fun i => by simp [VlLen, vl0], Or.inl rfl⟩
  · simp only [List.cons.injEq, and_true] at hcs
    subst hcs
    have hmc : m = cap := by simpa using hmm
    have hce : Try.prog.cellsOf 72 = 3 := by kernel_rfl
    have hc1 : Try.prog.cellsOf 9 = 1 := by kernel_rfl
    have hc2 : Try.prog.cellsOf 62 = 1 := by kernel_rfl
    have hc3 : Try.prog.cellsOf 63 = 1 := by kernel_rfl
    have each : ∀ i, i < m → ∃ q : Vl, W.cell? (a.add (i * 3)) = some (.string ⟨q.1.toArray⟩) ∧ (∃ at_ ct, W.cell? (a.add (i * 3 + 1)) = some (.slice at_ q.2.1.length ct) ∧ HoldTx W at_ q.2.1) ∧ (∃ an cn, W.cell? (a.add (i * 3 + 2)) = some (.slice an q.2.2.length cn) ∧ HoldZ W an q.2.2) ∧ VlLen q := fun i hi => by
      obtain ⟨cs', h1, h2⟩ := hx i hi
      rw [hce] at h1
      obtain ⟨_, hlen, hcell⟩ := World.cells?_some h1
      obtain ⟨xs, k', hk, hxy, _, hxl, hf⟩ := DataW.trod_struct Try.underlying72 h2
      match xs, hxl, cs', hlen with
      | [y0, y1, y2], _, [v0, v1, v2], _ =>
        have g0 := hf 0 _ rfl
        have g1 := hf 1 _ rfl
        have g2 := hf 2 _ rfl
        simp [hc1, hc2, hc3] at g0 g1 g2
        obtain ⟨s, e0, _, hs⟩ := DataW.trod_string Try.underlying9 g0
        obtain ⟨at_, ct, tx, e1, b1, b2, b3⟩ := openTx g1
        obtain ⟨an, cn, nz, e2, b4, b5⟩ := openNz g2
        simp only [List.cons.injEq, and_true] at e0
        subst e0 e1 e2
        have c0 := hcell 0 (by omega)
        have c1 := hcell 1 (by omega)
        have c2 := hcell 2 (by omega)
        rw [Deep.add_add] at c0 c1 c2
        have hz : s.size = s.data.toList.length := by rw [Array.length_toList]; rfl
        exact ⟨(s.data.toList, tx, nz), by rw [← str_list]; simpa using c0, ⟨at_, ct, by simpa using c1, b2⟩, ⟨an, cn, by simpa using c2, b5⟩, by unfold maxLen at hs; show s.data.toList.length ≤ _; omega, b1, b4, b3⟩
    obtain ⟨q, hq⟩ := Deep.choose_lt each
    have hg : ∀ t, t < len → ((List.range len).map q).getD t vl0 = q t := fun t ht => by simp [ht]
    refine ⟨some a, cap, (List.range len).map q, by simp, by simp; unfold maxLen at hm; omega, fun i => ?_, ?_⟩
    · by_cases hi : i < len
      · rw [hg i hi]; exact (hq i (by omega)).2.2.2
      · simp [hi, VlLen, vl0]
    by_cases h0 : len = 0
    · exact Or.inl (by simp [h0])
    · have ha : ∃ b off, a = ⟨b, off, none⟩ := by
        obtain ⟨b', off', spot⟩ := a
        have hspot : spot = none := by simpa [Addr.add] using World.cell?_spot (hq 0 (by omega)).1
        subst hspot
        exact ⟨b', off', rfl⟩
      obtain ⟨b, off, rfl⟩ := ha
      have hc : ∀ j u i, W.cell? ((⟨b, off, none⟩ : Addr).add (j * 3 + i)) = some u → W.cell? ⟨b, off + j * 3 + i, none⟩ = some u := fun j u i c0 => by
        rw [Go.WideShapes.add_plain] at c0
        rw [Nat.add_assoc]
        exact c0
      refine Or.inr ⟨b, off, rfl, cell_lt (hc 0 _ 0 (hq 0 (by omega)).1), fun t ht => ?_⟩
      have ht' : t < len := by simpa using ht
      rw [hg t ht']
      obtain ⟨q1, ⟨at_, ct, q2, q3⟩, ⟨an, cn, q4, q5⟩, _⟩ := hq t (by omega)
      exact ⟨hc t _ 0 q1, ⟨at_, ct, hc t _ 1 q2, q3⟩, an, cn, hc t _ 2 q4, q5⟩
set_option maxRecDepth 100000 in
theorem openDocT {H : Type} {enc : TypeId × Value → H} {W : World} {n : Nat} {c0 c1 : Value} {x : DataW H × List MemPlace} (h : DataW.trod enc Try.prog W 0 (fun _ => true) true n 24 [c0, c1] = some x) :
    ∃ (id : List UInt8) (a : Option Addr) (cap : Nat) (V : List Vl), c0 = .string ⟨id.toArray⟩ ∧ c1 = .slice a V.length cap ∧ id.length ≤ 9223372036854775807 ∧ V.length ≤ 9223372036854775807 ∧ (∀ i, VlLen (V.getD i vl0)) ∧ HoldV W a V := by
  obtain ⟨xs, n', _, _, _, hlen, hfl⟩ := DataW.trod_struct Try.underlying24 h
  have o1 : Try.prog.cellsOf 9 = 1 := by kernel_rfl
  have o2 : Try.prog.cellsOf 22 = 1 := by kernel_rfl
  have r0 : DataW.trod enc Try.prog W 0 (fun _ => true) true n' 9 [c0] = xs[0]? := by
    have h : DataW.trod enc Try.prog W 0 (fun _ => true) true n' 9 (([c0, c1].drop 0).take (Try.prog.cellsOf 9)) = xs[0]? := hfl 0 _ rfl
    rw [o1] at h
    exact h
  have r1 : DataW.trod enc Try.prog W 0 (fun _ => true) true n' 22 [c1] = xs[1]? := by
    have h : DataW.trod enc Try.prog W 0 (fun _ => true) true n' 22 (([c0, c1].drop 1).take (Try.prog.cellsOf 22)) = xs[1]? := hfl 1 _ rfl
    rw [o2] at h
    exact h
  have s2 : ∀ i, i < 2 → ∃ y, xs[i]? = some y := fun i hi => ⟨_, List.getElem?_eq_getElem (by rw [hlen]; exact hi)⟩
  obtain ⟨y0, hy0⟩ := s2 0 (by omega)
  obtain ⟨y1, hy1⟩ := s2 1 (by omega)
  rw [hy0] at r0
  rw [hy1] at r1
  obtain ⟨s, e0, _, hs⟩ := DataW.trod_string Try.underlying9 r0
  obtain ⟨a, cap, S, e1, h1, h2, h3⟩ := openVals r1
  simp only [List.cons.injEq, and_true] at e0
  subst e0 e1
  have hz : s.size = s.data.toList.length := by rw [Array.length_toList]; rfl
  exact ⟨s.data.toList, a, cap, S, by rw [← str_list], rfl, by unfold maxLen at hs; omega, h1, h2, h3⟩
set_option maxRecDepth 100000 in
theorem openRec {H : Type} {enc : TypeId × Value → H} {W : World} {base : Nat} {v : Value} {d : DataW H} {p : List MemPlace} (hv : Value.okWide Try.prog W .any base 26 v) (h : DataW.Trod enc Try.prog W 0 (fun _ => true) true 26 v d p) :
    ∃ (kd sq : Int) (id did : List UInt8) (a : Option Addr) (cap : Nat) (V : List Vl), v = .agg #[.int .i64 kd, .int .i64 sq, .string ⟨id.toArray⟩, .string ⟨did.toArray⟩, .slice a V.length cap] ∧ id.length ≤ 9223372036854775807 ∧ did.length ≤ 9223372036854775807 ∧ V.length ≤ 9223372036854775807 ∧ (∀ i, VlLen (V.getD i vl0)) ∧ HoldV W a V := by
  obtain ⟨cs, rfl, hsz⟩ := okWide_struct Try.underlying26 hv
  have hsz2 : cs.size = 5 := hsz.trans (by kernel_rfl)
  obtain ⟨l⟩ := cs
  match l, hsz2 with
  | [c0, c1, c2, c3, c4], _ =>
    obtain ⟨fuel, hf⟩ := h
    obtain ⟨xs, n, _, _, _, hlen, hfl⟩ := DataW.trod_struct Try.underlying26 hf
    have oi : Try.prog.cellsOf 3 = 1 := by kernel_rfl
    have o1 : Try.prog.cellsOf 9 = 1 := by kernel_rfl
    have o2 : Try.prog.cellsOf 24 = 2 := by kernel_rfl
    have r0 : DataW.trod enc Try.prog W 0 (fun _ => true) true n 3 [c0] = xs[0]? := by
      have h : DataW.trod enc Try.prog W 0 (fun _ => true) true n 3 (([c0, c1, c2, c3, c4].drop 0).take (Try.prog.cellsOf 3)) = xs[0]? := hfl 0 _ rfl
      rw [oi] at h
      exact h
    have r1 : DataW.trod enc Try.prog W 0 (fun _ => true) true n 3 [c1] = xs[1]? := by
      have h : DataW.trod enc Try.prog W 0 (fun _ => true) true n 3 (([c0, c1, c2, c3, c4].drop 1).take (Try.prog.cellsOf 3)) = xs[1]? := hfl 1 _ rfl
      rw [oi] at h
      exact h
    have r2 : DataW.trod enc Try.prog W 0 (fun _ => true) true n 9 [c2] = xs[2]? := by
      have h : DataW.trod enc Try.prog W 0 (fun _ => true) true n 9 (([c0, c1, c2, c3, c4].drop 2).take (Try.prog.cellsOf 9)) = xs[2]? := hfl 2 _ rfl
      rw [o1] at h
      exact h
    have r3 : DataW.trod enc Try.prog W 0 (fun _ => true) true n 24 [c3, c4] = xs[3]? := by
      have h : DataW.trod enc Try.prog W 0 (fun _ => true) true n 24 (([c0, c1, c2, c3, c4].drop 3).take (Try.prog.cellsOf 24)) = xs[3]? := hfl 3 _ rfl
      rw [o2] at h
      exact h
    have s2 : ∀ i, i < 4 → ∃ y, xs[i]? = some y := fun i hi => ⟨_, List.getElem?_eq_getElem (by rw [hlen]; exact hi)⟩
    obtain ⟨y0, hy0⟩ := s2 0 (by omega)
    obtain ⟨y1, hy1⟩ := s2 1 (by omega)
    obtain ⟨y2, hy2⟩ := s2 2 (by omega)
    obtain ⟨y3, hy3⟩ := s2 3 (by omega)
    rw [hy0] at r0
    rw [hy1] at r1
    rw [hy2] at r2
    rw [hy3] at r3
    obtain ⟨z0, e0, _, _⟩ := DataW.trod_int Try.underlying3 r0
    obtain ⟨z1, e1, _, _⟩ := DataW.trod_int Try.underlying3 r1
    obtain ⟨s, e2, _, hs⟩ := DataW.trod_string Try.underlying9 r2
    obtain ⟨did, a, cap, S, e3, e4, h0, h1, h2, h3⟩ := openDocT r3
    simp only [List.cons.injEq, and_true] at e0 e1 e2
    subst e0 e1 e2 e3 e4
    have hz : s.size = s.data.toList.length := by rw [Array.length_toList]; rfl
    exact ⟨z0, z1, s.data.toList, did, a, cap, S, by rw [← str_list], by unfold maxLen at hs; omega, h0, h1, h2, h3⟩
end Go.Proofs.Ytefhmbnhhkgifaa
