import Derived.Test.YtjndogajdlophaaMkY
namespace Go.Proofs.Ytjndogajdlophaa
open Go Go.RowKit
set_option linter.unusedVariables false
set_option maxRecDepth 100000

theorem Try.infoSt : (Try.prog.info? 104).map (fun i => (i.zero, i.size, i.bytes)) = some (some (.agg #[.bool false, .slice none 0 0]), 2, 32) := by kernel_rfl
theorem Try.infoIn : (Try.prog.info? 3).map (fun i => (i.zero, i.size, i.bytes)) = some (some (.int .i64 0), 1, 8) := by kernel_rfl
section
variable {w : World} {r : Nat → Role} {base bm bb : Nat} {aT : Option Addr} {nT cT : Nat} {O : List (List Tx)} {vS : Value} {vb : Nat → Value} {xs : List Value} {cs : Array Value}
theorem own_form {e size n : Nat} {v : Value} {zs : List Value} (h : w.ownsRow base e size v n zs) : ∃ a c, v = .slice a n c := by
  rcases h.2 with ⟨rfl, h0⟩ | ⟨g, cap, cur, rfl, _⟩
  · exact ⟨none, 0, by rw [h0]⟩
  · exact ⟨_, _, rfl⟩
theorem MkAt.bkAt (h : MkAt w r base bm bb aT nT cT O vS vb xs cs) {H : Nat} (hH : H < 1024) {j : Nat} (hj : j < (bkt (stM O) H).length) : ∃ g c, vb H = .slice (some ⟨g, 0, none⟩) (bkt (stM O) H).length c ∧ g < w.heap.size ∧ w.cell? ⟨g, j, none⟩ = some (.int .i64 (((bkt (stM O) H).getD j 0 : Nat) : Int)) := by
  have ho := (h.lst H hH).1
  rcases own_cases ho with ⟨_, h0⟩ | ⟨g, c, e, _, hg⟩
  · omega
  · refine ⟨g, c, e, hg, ?_⟩
    rw [e] at ho
    rw [ho.cellAt j (by omega)]
    simp [nV, hj]
theorem MkAt.stAt (h : MkAt w r base bm bb aT nT cT O vS vb xs cs) {x : Nat} (hx : x < O.length) : ∃ g c aj cj, vS = .slice (some ⟨g, 0, none⟩) O.length c ∧ g < w.heap.size ∧ w.cell? ⟨g, x * 2, none⟩ = some (.bool ((stM O).getD x st0).1) ∧ w.cell? ⟨g, x * 2 + 1, none⟩ = some (.slice aj ((stM O).getD x st0).2.length cj) ∧ HoldA w aj ((stM O).getD x st0).2 := by
  obtain ⟨h1, aj, cj, h2, h3, _⟩ := h.sts x hx
  have ho := h.row
  rcases ho.2 with ⟨_, h0⟩ | ⟨g, cap, cur, e, _, hg, _⟩
  · omega
  · rw [e] at ho
    refine ⟨g, cap, aj, cj, e, (Array.getElem?_eq_some_iff.1 hg).1, ?_, ?_, h3⟩
    · rw [ho.cellAt (x * 2) (by omega)]; exact h1
    · rw [ho.cellAt (x * 2 + 1) (by omega)]; exact h2
theorem stOf_small {L : List Tx} (hk : Kids O L) (ho : O.length ≤ 1000000) : SmallA (stOf O L).2 := by
  intro a ha
  obtain ⟨n, hn, rfl⟩ := List.mem_map.1 ha
  have h1 := (labelsT_mem.1 hn).1
  have h2 := List.idxOf_lt_length_of_mem (hk n hn)
  exact ⟨by simp, by simp; omega, by simp, by simp; omega⟩
theorem found {L : List Tx} {x : Nat} (hok : OkO O) (hL : RiseT L) (hk : Kids O L) (hx : x < O.length) (h : (stM O).getD x st0 = stOf O L) : L ∈ O ∧ O.idxOf L = x := by
  have hm : O[x]? = some O[x] := List.getElem?_eq_getElem hx
  rw [stM_at hm] at h
  have hin : O[x] ∈ O := List.getElem_mem _
  have e := stOf_inj (hok.rise _ hin) hL (fun n hn => hok.closed _ hin n hn) hk h
  rw [← e]
  exact ⟨hin, idxOf_of hok.nodup hm⟩
theorem missed {L : List Tx} {H : Nat} (hH : mixOf (stOf O L) = H) (h : ∀ j, j < (bkt (stM O) H).length → (stM O).getD ((bkt (stM O) H).getD j 0) st0 ≠ stOf O L) : L ∉ O := by
  intro hm
  have hx := List.idxOf_lt_length_of_mem hm
  have e := stM_at (idxOf_at hm)
  have hb : O.idxOf L ∈ bkt (stM O) H := by
    unfold bkt
    rw [List.mem_filter]
    refine ⟨by rw [stM_len]; simpa using hx, ?_⟩
    rw [e, hH]
    simp
  obtain ⟨j, hj, e2⟩ := List.getElem_of_mem hb
  refine h j hj ?_
  have e3 : (bkt (stM O) H).getD j 0 = O.idxOf L := by rw [List.getD_eq_getElem?_getD, List.getElem?_eq_getElem hj]; exact e2
  rw [e3]
  exact e
end
end Go.Proofs.Ytjndogajdlophaa
