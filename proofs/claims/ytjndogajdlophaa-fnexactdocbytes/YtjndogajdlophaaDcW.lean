import Derived.Test.YtjndogajdlophaaDcM
import Derived.WalkKit
import Derived.ProofKit
import Derived.OpenShut
import Derived.Deep.SlicePairs
import Derived.ChangeOld
import Derived.Below
namespace Go.Proofs.Ytjndogajdlophaa
open Go Go.RowKit Go.ChangeShapes Go.WideShapes Go.ChangeAt
set_option linter.unusedVariables false

theorem addr_plain {W : World} {a : Addr} {u : Value} (h : W.cell? a = some u) : ∃ b off, a = ⟨b, off, none⟩ := by
  obtain ⟨b, off, spot⟩ := a
  have hspot : spot = none := World.cell?_spot h
  subst hspot
  exact ⟨b, off, rfl⟩
set_option maxRecDepth 100000 in
theorem openArcs {H : Type} {enc : TypeId × Value → H} {W : World} {n : Nat} {v : Value} {x : DataW H × List MemPlace} (h : DataW.trod enc Try.prog W 0 (fun _ => true) true n 99 [v] = some x) :
    ∃ (a : Option Addr) (cap : Nat) (l : List Ar), v = .slice a l.length cap ∧ l.length ≤ 9223372036854775807 ∧ HoldA W a l := by
  rcases Deep.open_slice Try.underlying99 h with ⟨hcs, _⟩ | ⟨a, len, cap, m, k, D, Pl, hcs, _, hl, hm, hmm, _, hx⟩
  · simp only [List.cons.injEq, and_true] at hcs
    subst hcs
    exact ⟨none, 0, [], rfl, by simp, Or.inl rfl⟩
  · simp only [List.cons.injEq, and_true] at hcs
    subst hcs
    have hmc : m = cap := by simpa using hmm
    have hce : Try.prog.cellsOf 178 = 3 := by kernel_rfl
    have hci : Try.prog.cellsOf 3 = 1 := by kernel_rfl
    have each : ∀ i, i < m → ∃ q : Ar, W.cell? (a.add (i * 3)) = some (.int .i64 q.1) ∧ W.cell? (a.add (i * 3 + 1)) = some (.int .i64 q.2.1) ∧ W.cell? (a.add (i * 3 + 2)) = some (.int .i64 q.2.2) := fun i hi => by
      obtain ⟨cs', h1, h2⟩ := hx i hi
      rw [hce] at h1
      obtain ⟨_, hlen, hcell⟩ := World.cells?_some h1
      obtain ⟨xs, k', hk, hxy, _, hxl, hf⟩ := DataW.trod_struct Try.underlying178 h2
      match xs, hxl, cs', hlen with
      | [y0, y1, y2], _, [v0, v1, v2], _ =>
        have g0 := hf 0 _ rfl
        have g1 := hf 1 _ rfl
        have g2 := hf 2 _ rfl
        simp [hci] at g0 g1 g2
        obtain ⟨z0, e0, _, _⟩ := DataW.trod_int Try.underlying3 g0
        obtain ⟨z1, e1, _, _⟩ := DataW.trod_int Try.underlying3 g1
        obtain ⟨z2, e2, _, _⟩ := DataW.trod_int Try.underlying3 g2
        simp only [List.cons.injEq, and_true] at e0 e1 e2
        subst e0 e1 e2
        have c0 := hcell 0 (by omega)
        have c1 := hcell 1 (by omega)
        have c2 := hcell 2 (by omega)
        rw [Deep.add_add] at c0 c1 c2
        exact ⟨(z0, z1, z2), by simpa using c0, by simpa using c1, by simpa using c2⟩
    obtain ⟨q, hq⟩ := Deep.choose_lt each
    have hg : ∀ t, t < len → ((List.range len).map q).getD t ar0 = q t := fun t ht => by simp [ht]
    refine ⟨some a, cap, (List.range len).map q, by simp, by simp; unfold maxLen at hm; omega, ?_⟩
    by_cases h0 : len = 0
    · exact Or.inl (by simp [h0])
    · obtain ⟨b, off, hab⟩ := addr_plain (hq 0 (by omega)).1
      have ha : ∃ b off, a = ⟨b, off, none⟩ := by
        obtain ⟨b', off', spot⟩ := a
        have hspot : spot = none := by simpa [Addr.add] using World.cell?_spot (hq 0 (by omega)).1
        subst hspot
        exact ⟨b', off', rfl⟩
      obtain ⟨b, off, rfl⟩ := ha
      have hc : ∀ j, j < m → W.cell? ⟨b, off + j * 3, none⟩ = some (.int .i64 (q j).1) ∧ W.cell? ⟨b, off + j * 3 + 1, none⟩ = some (.int .i64 (q j).2.1) ∧ W.cell? ⟨b, off + j * 3 + 2, none⟩ = some (.int .i64 (q j).2.2) := fun j hj => by
        obtain ⟨c0, c1, c2⟩ := hq j hj
        rw [Go.WideShapes.add_plain] at c0 c1 c2
        exact ⟨c0, by rw [Nat.add_assoc]; exact c1, by rw [Nat.add_assoc]; exact c2⟩
      refine Or.inr ⟨b, off, rfl, cell_lt (hc 0 (by omega)).1, fun t ht => ?_⟩
      have ht' : t < len := by simpa using ht
      rw [hg t ht']
      exact hc t (by omega)
set_option maxRecDepth 100000 in
theorem openStates {H : Type} {enc : TypeId × Value → H} {W : World} {n : Nat} {v : Value} {x : DataW H × List MemPlace} (h : DataW.trod enc Try.prog W 0 (fun _ => true) true n 22 [v] = some x) :
    ∃ (a : Option Addr) (cap : Nat) (S : List St), v = .slice a S.length cap ∧ S.length ≤ 9223372036854775807 ∧ (∀ i, (arcsAt S i).length ≤ 9223372036854775807) ∧ HoldS W a S := by
  rcases Deep.open_slice_pairs Try.underlying22 Try.underlying101 (by kernel_rfl) rfl rfl (by kernel_rfl) (by kernel_rfl) h with ⟨hcs, _⟩ | ⟨a, len, cap, m, k, V0, V1, D0, D1, P0, P1, hcs, _, hl, hm, hmm, _, hx⟩
  · simp only [List.cons.injEq, and_true] at hcs
    subst hcs
    exact ⟨none, 0, [], rfl, by simp, fun i => by simp [arcsAt, st0], Or.inl rfl⟩
  · simp only [List.cons.injEq, and_true] at hcs
    subst hcs
    have hmc : m = cap := by simpa using hmm
    have each : ∀ i, i < m → ∃ q : St, V0 i = .bool q.1 ∧ (∃ ai ci, V1 i = .slice ai q.2.length ci ∧ HoldA W ai q.2) ∧ q.2.length ≤ 9223372036854775807 := fun i hi => by
      obtain ⟨f, h1, _⟩ := DataW.trod_bool Try.underlying4 (hx i hi).2.2.1
      obtain ⟨ai, ci, l, h2, h3, h4⟩ := openArcs (hx i hi).2.2.2
      exact ⟨(f, l), by simpa using h1, ⟨ai, ci, h2, h4⟩, h3⟩
    obtain ⟨q, hq⟩ := Deep.choose_lt each
    have hg : ∀ t, t < len → ((List.range len).map q).getD t st0 = q t := fun t ht => by simp [ht]
    refine ⟨some a, cap, (List.range len).map q, by simp, by simp; unfold maxLen at hm; omega, fun i => ?_, ?_⟩
    · by_cases hi : i < len
      · rw [arcsAt, hg i hi]; exact (hq i (by omega)).2.2
      · simp [arcsAt, hi, st0]
    by_cases h0 : len = 0
    · exact Or.inl (by simp [h0])
    · have ha : ∃ b off, a = ⟨b, off, none⟩ := by
        obtain ⟨b', off', spot⟩ := a
        have hspot : spot = none := by simpa [Addr.add] using World.cell?_spot (hx 0 (by omega)).1
        subst hspot
        exact ⟨b', off', rfl⟩
      obtain ⟨b, off, rfl⟩ := ha
      have hc : ∀ j, j < m → W.cell? ⟨b, off + j * 2, none⟩ = some (V0 j) ∧ W.cell? ⟨b, off + j * 2 + 1, none⟩ = some (V1 j) := fun j hj => by
        have c0 := (hx j hj).1
        have c1 := (hx j hj).2.1
        rw [Go.WideShapes.add_plain] at c0 c1
        exact ⟨c0, by rw [Nat.add_assoc]; exact c1⟩
      refine Or.inr ⟨b, off, rfl, cell_lt (hc 0 (by omega)).1, fun t ht => ?_⟩
      have ht' : t < len := by simpa using ht
      rw [hg t ht']
      obtain ⟨q1, ⟨ai, ci, q2, q3⟩, _⟩ := hq t (by omega)
      exact ⟨by rw [(hc t (by omega)).1, q1], ai, ci, by rw [(hc t (by omega)).2, q2], q3⟩
set_option maxRecDepth 100000 in
theorem openDict {H : Type} {enc : TypeId × Value → H} {W : World} {base : Nat} {v : Value} {d : DataW H} {p : List MemPlace} (hv : Value.okWide Try.prog W .any base 24 v) (h : DataW.Trod enc Try.prog W 0 (fun _ => true) true 24 v d p) :
    ∃ (c : Int) (a : Option Addr) (cap : Nat) (S : List St), v = .agg #[.int .i64 c, .slice a S.length cap] ∧ S.length ≤ 9223372036854775807 ∧ (∀ i, (arcsAt S i).length ≤ 9223372036854775807) ∧ HoldS W a S := by
  obtain ⟨cs, rfl, hsz⟩ := okWide_struct Try.underlying24 hv
  have hsz2 : cs.size = 2 := hsz.trans (by kernel_rfl)
  obtain ⟨l⟩ := cs
  match l, hsz2 with
  | [c0, c1], _ =>
    obtain ⟨fuel, hf⟩ := h
    obtain ⟨xs, n, _, _, _, hlen, hfl⟩ := DataW.trod_struct Try.underlying24 hf
    have o1 : Try.prog.cellsOf 3 = 1 := by kernel_rfl
    have o2 : Try.prog.cellsOf 22 = 1 := by kernel_rfl
    have r0 : DataW.trod enc Try.prog W 0 (fun _ => true) true n 3 [c0] = xs[0]? := by
      have h : DataW.trod enc Try.prog W 0 (fun _ => true) true n 3 (([c0, c1].drop 0).take (Try.prog.cellsOf 3)) = xs[0]? := hfl 0 _ rfl
      rw [o1] at h
      exact h
    have r1 : DataW.trod enc Try.prog W 0 (fun _ => true) true n 22 [c1] = xs[1]? := by
      have h : DataW.trod enc Try.prog W 0 (fun _ => true) true n 22 (([c0, c1].drop 1).take (Try.prog.cellsOf 22)) = xs[1]? := hfl 1 _ rfl
      rw [o2] at h
      exact h
    have s2 : ∀ i, i < 2 → ∃ y, xs[i]? = some y := fun i hi => ⟨_, List.getElem?_eq_getElem (by rw [hlen]; exact hi)⟩
    obtain ⟨y0, hy0⟩ := s2 0 (by omega)
    obtain ⟨y1, hy1⟩ := s2 1 (by omega)
    rw [hy0] at r0
    rw [hy1] at r1
    obtain ⟨c, e0, _, _⟩ := DataW.trod_int Try.underlying3 r0
    obtain ⟨a, cap, S, e1, h1, h2, h3⟩ := openStates r1
    simp only [List.cons.injEq, and_true] at e0
    subst e0 e1
    exact ⟨c, a, cap, S, rfl, h1, h2, h3⟩
end Go.Proofs.Ytjndogajdlophaa
