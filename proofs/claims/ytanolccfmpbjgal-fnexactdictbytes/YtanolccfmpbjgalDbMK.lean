import Derived.Test.YtanolccfmpbjgalDcTMK
import Derived.Deep.CutBlock
namespace Go.Proofs.Ytanolccfmpbjgal
open Go Go.RowKit
set_option linter.unusedVariables false
set_option maxRecDepth 100000

/-! What laws.markDict writes over. -/
structure Fz (W W' : World) (g : Nat) : Prop where
  size : W'.heap.size = W.heap.size
  os : W'.os = W.os
  tape : W'.tape = W.tape
  output : W'.output = W.output
  low : ∀ b, b < g → W'.heap[b]? = W.heap[b]?
  typ : ∀ (b : Nat) (cur : Array Value) (t : TypeId), W.heap[b]? = some (Obj.cells cur t) → t ≠ 61 → t ≠ 66 → W'.heap[b]? = W.heap[b]?
  str : ∀ (g' : Nat) (ls : List Nat), StrM W g' ls → StrM W' g' ls
  row : ∀ (g' n : Nat), RowA W g' n → RowA W' g' n
theorem Fz.refl (W : World) (g : Nat) : Fz W W g := ⟨rfl, rfl, rfl, rfl, fun _ _ => rfl, fun _ _ _ _ _ _ => rfl, fun _ _ h => h, fun _ _ h => h⟩
theorem Fz.trans {A B C : World} {g : Nat} (h : Fz A B g) (k : Fz B C g) : Fz A C g :=
  ⟨k.size.trans h.size, k.os.trans h.os, k.tape.trans h.tape, k.output.trans h.output, fun b hb => (k.low b hb).trans (h.low b hb), fun b cur t h1 h2 h3 => (k.typ b cur t ((h.typ b cur t h1 h2 h3).trans h1) h2 h3).trans (h.typ b cur t h1 h2 h3), fun g' ls hs => k.str g' ls (h.str g' ls hs), fun g' n hs => k.row g' n (h.row g' n hs)⟩
theorem Fz.mono {A B : World} {g g' : Nat} (h : Fz A B g) (hg : g' ≤ g) : Fz A B g' := ⟨h.size, h.os, h.tape, h.output, fun b hb => h.low b (by omega), h.typ, h.str, h.row⟩
theorem Fz.below {W W' : World} {g B : Nat} (h : Fz W W' g) (hg : B ≤ g) (hB : B ≤ W.heap.size) : Below B W W' := ⟨h.os, h.tape, h.output, by rw [h.size]; exact Nat.le_refl _, fun b hb => h.low b (by omega)⟩
theorem RowA.setA {W : World} {b j n g' : Nat} {cur : Array Value} (u : Value) (hb : W.heap[b]? = some (Obj.cells cur 66)) (h : RowA W g' n) : RowA (W.setCell ⟨b, j, none⟩ u) g' n := by
  obtain ⟨c2, h1, h2⟩ := h
  by_cases e : g' = b
  · subst e
    exact ⟨_, blk_setk h1 j u, by simpa using h2⟩
  · exact ⟨c2, (heap_set_other W b j u g' e).trans h1, h2⟩
theorem Fz.setA {W : World} {b j g : Nat} {cur : Array Value} (u : Value) (hb : W.heap[b]? = some (Obj.cells cur 66)) (hg : g ≤ b) : Fz W (W.setCell ⟨b, j, none⟩ u) g := by
  refine ⟨by simp, rfl, rfl, rfl, fun x hx => heap_set_other W b j u x (by omega), fun x c2 t h1 h2 h3 => heap_set_other W b j u x (blk_ne h1 hb h3), fun g' ls hs => ?_, fun g' n hs => hs.setA u hb⟩
  obtain ⟨cs, h1, h2, h3⟩ := hs
  refine ⟨cs, (heap_set_other W b j u g' (blk_ne h1 hb (by decide))).trans h1, h2, fun i hi => ?_⟩
  obtain ⟨gj, c, q1, q2, q3⟩ := h3 i hi
  exact ⟨gj, c, q1, q2, q3.setA u hb⟩
theorem Fz.setS {W : World} {b i g : Nat} {cs : Array Value} (u : Value) (hb : W.heap[b]? = some (Obj.cells cs 61)) (hg : g ≤ b) : Fz W (W.setCell ⟨b, i * 2, none⟩ u) g := by
  have hrow : ∀ g' n, RowA W g' n → RowA (W.setCell ⟨b, i * 2, none⟩ u) g' n := fun g' n h => by
    obtain ⟨c2, h1, h2⟩ := h
    exact ⟨c2, (heap_set_other W b (i * 2) u g' (blk_ne h1 hb (by decide))).trans h1, h2⟩
  refine ⟨by simp, rfl, rfl, rfl, fun x hx => heap_set_other W b (i * 2) u x (by omega), fun x c2 t h1 h2 h3 => heap_set_other W b (i * 2) u x (blk_ne h1 hb h2), fun g' ls hs => ?_, hrow⟩
  obtain ⟨c2, h1, h2, h3⟩ := hs
  by_cases e : g' = b
  · subst e
    refine ⟨_, blk_setk h1 (i * 2) u, by simpa using h2, fun j hj => ?_⟩
    obtain ⟨gj, c, q1, q2, q3⟩ := h3 j hj
    exact ⟨gj, c, by rw [Array.getElem?_setIfInBounds_ne (by omega)]; exact q1, q2, hrow _ _ q3⟩
  · refine ⟨c2, (heap_set_other W b (i * 2) u g' e).trans h1, h2, fun j hj => ?_⟩
    obtain ⟨gj, c, q1, q2, q3⟩ := h3 j hj
    exact ⟨gj, c, q1, q2, hrow _ _ q3⟩
theorem RowA.cell {W : World} {b n : Nat} (h : RowA W b n) {j : Nat} (hj : j < n * 3) : (∃ u, W.cell? ⟨b, j, none⟩ = some u) ∧ W.frozen? ⟨b, j, none⟩ = false := by
  obtain ⟨cur, h1, h2⟩ := h
  refine ⟨⟨cur[j]'(by omega), ?_⟩, blkf h1 j⟩
  rw [blkc h1 j]
  exact Array.getElem?_eq_getElem (by omega)
set_option maxHeartbeats 4000000 in
theorem markArcs_any (b n c : Nat) (k : Nat) (w : World) (hn : n ≤ 1048576) (hk : k ≤ 17592186044416) (hr : RowA w b n) :
    Calls Try.prog 74 #[.slice (some ⟨b, 0, none⟩) n c, .int .i64 (k : Int)] w fun e w' => e = .returned (.int .i64 ((k + n * 3 : Nat) : Int)) ∧ Fz w w' b := by
  have HR := hidd hr
  clear hr
  go_enter Try.func74, Try.ntmps74
  go_wp2
  go_loopw [1, 5] (fun kv iv wr => ∃ i : Nat, i ≤ n ∧ iv = .int .i64 (i : Int) ∧ kv = .int .i64 ((k + i * 3 : Nat) : Int) ∧ Fz w wr b) (fun _ iv _ => n - (intOf iv).toNat)
  case atStart => exact ⟨0, Nat.zero_le _, rfl, by simp, Fz.refl _ _⟩
  case round =>
    obtain ⟨i, hi, rfl, rfl, hfz⟩ := hrel
    have HF := hidd hfz
    clear hfz
    have hr1 := HF.out.row _ _ HR.out
    by_cases hlt : i < n
    · have hltz : (i : Int) < (n : Int) := by omega
      obtain ⟨⟨u0, q0⟩, f0⟩ := hr1.cell (j := i * 3) (by omega)
      obtain ⟨⟨u1, q1⟩, f1⟩ := hr1.cell (j := i * 3 + 1) (by omega)
      obtain ⟨⟨u2, q2⟩, f2⟩ := hr1.cell (j := i * 3 + 2) (by omega)
      obtain ⟨cur, hc, hcs⟩ := hr1
      have HC := hidd hc
      clear hc
      obtain ⟨K, hK⟩ : ∃ K, k + i * 3 = K := ⟨_, rfl⟩
      have hKl : K ≤ 17592190000000 := by omega
      have HK := hidd hK
      try rw [hK]
      clear hK
      go_wp2
      go_roundw
      case rel =>
        refine ⟨i + 1, by omega, by go_num, ?_, ?_⟩
        · have := HK.out
          congr 1
          omega
        · have z1 := Fz.setA (j := i * 3) (.int .i64 (K : Int)) HC.out (Nat.le_refl b)
          have c1 := blk_setk HC.out (i * 3) (.int .i64 (K : Int))
          have z2 := Fz.setA (j := i * 3 + 1) (.int .i64 ((K : Int) + 1)) c1 (Nat.le_refl b)
          have c2 := blk_setk c1 (i * 3 + 1) (.int .i64 ((K : Int) + 1))
          have z3 := Fz.setA (j := i * 3 + 2) (.int .i64 ((K : Int) + 1 + 1)) c2 (Nat.le_refl b)
          exact HF.out.trans (z1.trans (z2.trans z3))
      case measure => simp [intOf]; omega
    · have hltz : ¬ (i : Int) < (n : Int) := by omega
      obtain rfl : i = n := by omega
      clear hr1
      go_wp2
      go_ret
      exact ⟨rfl, HF.out⟩
theorem StrM.at {W : World} {g : Nat} {ls : List Nat} (h : StrM W g ls) {j : Nat} (hj : j < ls.length) : ∃ cs gj c u, W.heap[g]? = some (Obj.cells cs 61) ∧ W.cell? ⟨g, j * 2, none⟩ = some u ∧ W.cell? ⟨g, j * 2 + 1, none⟩ = some (.slice (some ⟨gj, 0, none⟩) (ls.getD j 0) c) ∧ g < gj ∧ RowA W gj (ls.getD j 0) := by
  obtain ⟨cs, h1, h2, h3⟩ := h
  obtain ⟨gj, c, q1, q2, q3⟩ := h3 j hj
  exact ⟨cs, gj, c, cs[j * 2]'(by omega), h1, (blkc h1 (j * 2)).trans (Array.getElem?_eq_getElem (by omega)), (blkc h1 (j * 2 + 1)).trans q1, q2, q3⟩
/-- What marking does. -/
def MarkPost (w : World) (g : Nat) (e : Ending) (w' : World) : Prop := ∃ k : Nat, e = .returned (.int .i64 (k : Int)) ∧ Fz w w' g
set_option maxHeartbeats 4000000 in
theorem markStates_any (g c : Nat) (ls : List Nat) (w : World) (hn : ls.length ≤ 1048576) (hl : ∀ x ∈ ls, x ≤ 1048576) (h : StrM w g ls) :
    Calls Try.prog 46 #[.slice (some ⟨g, 0, none⟩) ls.length c, .int .i64 1] w fun e w' => MarkPost w g e w' := by
  have HS := hidd h
  have HL := hidd hl
  clear h hl
  go_enter Try.func46, Try.ntmps46
  go_wp2
  go_loopw [1, 5] (fun kv iv wr => ∃ i k : Nat, i ≤ ls.length ∧ iv = .int .i64 (i : Int) ∧ kv = .int .i64 (k : Int) ∧ k ≤ 1 + i * 3145729 ∧ Fz w wr g) (fun _ iv _ => ls.length - (intOf iv).toNat)
  case atStart => exact ⟨0, 1, Nat.zero_le _, rfl, rfl, by omega, Fz.refl _ _⟩
  case round =>
    obtain ⟨i, k, hi, rfl, rfl, hk, hfz⟩ := hrel
    have HF := hidd hfz
    clear hfz
    by_cases hlt : i < ls.length
    · have hltz : (i : Int) < (ls.length : Int) := by omega
      have hkb : k ≤ 3298535931904 := by
        have : i * 3145729 ≤ 1048575 * 3145729 := Nat.mul_le_mul_right _ (by omega)
        omega
      obtain ⟨cs, gj, cj, u, h1, q0, q1, hgj, hrow⟩ := (HF.out.str _ _ HS.out).at hlt
      have hle : ls.getD i 0 ≤ 1048576 := HL.out _ (by simp only [List.getD_eq_getElem?_getD, List.getElem?_eq_getElem hlt, Option.getD_some]; exact List.getElem_mem hlt)
      have f0 := blkf h1 (i * 2)
      have H1 := hidd h1
      have Hrow := hidd hrow
      clear h1 hrow
      generalize ls.getD i 0 = n at q1 hle Hrow
      go_upto_region 5 with fail
      generalize ((k : Int) % 3 == 0) = Bv
      have Hz := hidd (Fz.setS (i := i) (.bool Bv) H1.out (Nat.le_refl g))
      have q1' : (wr.setCell ⟨g, i * 2, none⟩ (.bool Bv)).cell? ⟨g, i * 2 + 1, none⟩ = some (.slice (some ⟨gj, 0, none⟩) n cj) := by
        rw [blkc (blk_setk H1.out (i * 2) (.bool Bv)) (i * 2 + 1), Array.getElem?_setIfInBounds_ne (by omega), ← blkc H1.out (i * 2 + 1)]
        exact q1
      obtain ⟨ws, hws⟩ : ∃ ws, wr.setCell ⟨g, i * 2, none⟩ (.bool Bv) = ws := ⟨_, rfl⟩
      rw [hws] at Hz q1'
      try rw [hws]
      clear hws q0 q1 f0
      have HM := hidd (markArcs_any gj n cj (k + 1) ws hle (by omega) (Hz.out.row _ _ Hrow.out))
      rw [show ((k + 1 : Nat) : Int) = (k : Int) + 1 from by omega] at HM
      go_wp2_with fail
      refine HM.out.mono ?_
      rintro e w2 ⟨rfl, hf2⟩
      have HF2 := hidd (HF.out.trans (Hz.out.trans (hf2.mono (by omega))))
      clear hf2 HM q1'
      dsimp only
      go_wp2_with fail
      go_roundw
      case rel => exact ⟨i + 1, k + 1 + n * 3, by omega, by go_num, rfl, by omega, HF2.out⟩
      case measure => simp [intOf]; omega
    · have hltz : ¬ (i : Int) < (ls.length : Int) := by omega
      go_wp2
      go_ret
      exact ⟨k, rfl, HF.out⟩
set_option maxHeartbeats 1000000 in
theorem markDict_any (c : Int) (g cap : Nat) (ls : List Nat) (w : World) (hn : ls.length ≤ 1048576) (hl : ∀ x ∈ ls, x ≤ 1048576) (h : StrM w g ls) :
    Calls Try.prog 23 #[.agg #[.int .i64 c, .slice (some ⟨g, 0, none⟩) ls.length cap], .int .i64 1] w fun e w' => ∃ k : Nat, e = .returned (.int .i64 (k : Int)) ∧ Fz (w.alloc (.cells #[.int .i64 c, .slice (some ⟨g, 0, none⟩) ls.length cap] 29)) w' g := by
  have HM := hidd (markStates_any g cap ls (w.alloc (.cells #[.int .i64 c, .slice (some ⟨g, 0, none⟩) ls.length cap] 29)) hn hl (h.below ((Below.refl _ _).alloc (Nat.le_refl _) _)))
  clear h hl
  go_enter Try.func23, Try.ntmps23
  go_wp2_with fail
  refine HM.out.mono ?_
  rintro e w2 ⟨k, rfl, hf⟩
  have HF := hidd hf
  clear hf
  dsimp only
  go_wp2_with fail
  go_ret
  exact ⟨k, rfl, HF.out⟩
end Go.Proofs.Ytanolccfmpbjgal
