import Derived.Test.YtefhmbnhhkgifaaDoU
import Derived.Test.YtefhmbnhhkgifaaMarkT
namespace Go.Proofs.Ytefhmbnhhkgifaa
open Go Go.RowKit
set_option linter.unusedVariables false
set_option maxRecDepth 100000

def RowN (w : World) (g n : Nat) (ty : TypeId) : Prop := ∃ cur, w.heap[g]? = some (Obj.cells cur ty) ∧ n ≤ cur.size
def StrV (W : World) (g : Nat) (ls : List (Nat × Nat)) : Prop := ∃ cs, W.heap[g]? = some (Obj.cells cs 65) ∧ ls.length * 3 ≤ cs.size ∧ ∀ j, j < ls.length → ∃ gt ct gn cn, cs[j * 3 + 1]? = some (.slice (some ⟨gt, 0, none⟩) (ls.getD j (0, 0)).1 ct) ∧ g < gt ∧ RowN W gt (ls.getD j (0, 0)).1 9 ∧ cs[j * 3 + 2]? = some (.slice (some ⟨gn, 0, none⟩) (ls.getD j (0, 0)).2 cn) ∧ g < gn ∧ RowN W gn (ls.getD j (0, 0)).2 3
theorem RowN.map {W W' : World} {g n : Nat} {ty : TypeId} (h : RowN W g n ty) (hk : ∀ cur, W.heap[g]? = some (Obj.cells cur ty) → ∃ cur', W'.heap[g]? = some (Obj.cells cur' ty) ∧ cur.size ≤ cur'.size) : RowN W' g n ty := by
  obtain ⟨cur, h1, h2⟩ := h
  obtain ⟨cur', q1, q2⟩ := hk cur h1
  exact ⟨cur', q1, by omega⟩
theorem StrV.map {W W' : World} {g : Nat} {ls : List (Nat × Nat)} (h : StrV W g ls) (hk : ∀ cs, W.heap[g]? = some (Obj.cells cs 65) → ∃ cs', W'.heap[g]? = some (Obj.cells cs' 65) ∧ cs.size ≤ cs'.size ∧ ∀ j, cs'[j * 3 + 1]? = cs[j * 3 + 1]? ∧ cs'[j * 3 + 2]? = cs[j * 3 + 2]?) (hr : ∀ g' n ty, RowN W g' n ty → ty = 9 ∨ ty = 3 → RowN W' g' n ty) : StrV W' g ls := by
  obtain ⟨cs, h1, h2, h3⟩ := h
  obtain ⟨cs', q1, q2, q3⟩ := hk cs h1
  refine ⟨cs', q1, by omega, fun j hj => ?_⟩
  obtain ⟨gt, ct, gn, cn, a1, a2, a3, a4, a5, a6⟩ := h3 j hj
  exact ⟨gt, ct, gn, cn, (q3 j).1.trans a1, a2, hr _ _ _ a3 (Or.inl rfl), (q3 j).2.trans a4, a5, hr _ _ _ a6 (Or.inr rfl)⟩
/-- What marking a document writes over. -/
structure Fv (W W' : World) (g : Nat) : Prop where
  size : W.heap.size ≤ W'.heap.size
  os : W'.os = W.os
  tape : W'.tape = W.tape
  output : W'.output = W.output
  low : ∀ b, b < g → b < W.heap.size → W'.heap[b]? = W.heap[b]?
  typ : ∀ (b : Nat) (cur : Array Value) (t : TypeId), W.heap[b]? = some (Obj.cells cur t) → t ≠ 65 → t ≠ 9 → t ≠ 3 → W'.heap[b]? = W.heap[b]?
  str : ∀ (g' : Nat) (ls : List (Nat × Nat)), StrV W g' ls → StrV W' g' ls
  row : ∀ (g' n : Nat) (ty : TypeId), RowN W g' n ty → ty = 9 ∨ ty = 3 → RowN W' g' n ty
theorem Fv.refl (W : World) (g : Nat) : Fv W W g := ⟨Nat.le_refl _, rfl, rfl, rfl, fun _ _ _ => rfl, fun _ _ _ _ _ _ _ => rfl, fun _ _ h => h, fun _ _ _ h _ => h⟩
theorem Fv.trans {A B C : World} {g : Nat} (h : Fv A B g) (k : Fv B C g) : Fv A C g :=
  ⟨Nat.le_trans h.size k.size, k.os.trans h.os, k.tape.trans h.tape, k.output.trans h.output, fun b hb hb2 => (k.low b hb (Nat.lt_of_lt_of_le hb2 h.size)).trans (h.low b hb hb2), fun b cur t h1 h2 h3 h4 => (k.typ b cur t ((h.typ b cur t h1 h2 h3 h4).trans h1) h2 h3 h4).trans (h.typ b cur t h1 h2 h3 h4), fun g' ls hs => k.str g' ls (h.str g' ls hs), fun g' n ty hs ht => k.row g' n ty (h.row g' n ty hs ht) ht⟩
theorem Fv.mono {A B : World} {g g' : Nat} (h : Fv A B g) (hg : g' ≤ g) : Fv A B g' := ⟨h.size, h.os, h.tape, h.output, fun b hb hb2 => h.low b (by omega) hb2, h.typ, h.str, h.row⟩
theorem Fv.below {W W' : World} {g B : Nat} (h : Fv W W' g) (hg : B ≤ g) (hB : B ≤ W.heap.size) : Below B W W' := ⟨h.os, h.tape, h.output, h.size, fun b hb => h.low b (by omega) (by omega)⟩
theorem Fv.of {W W' : World} (h : Below W.heap.size W W') (g : Nat) : Fv W W' g := by
  have hr : ∀ (g' n : Nat) (ty : TypeId), RowN W g' n ty → ty = 9 ∨ ty = 3 → RowN W' g' n ty := fun g' n ty hs _ => hs.map fun cur hc => ⟨cur, blko hc h, Nat.le_refl _⟩
  exact ⟨h.size, h.os, h.tape, h.output, fun b _ hb => h.block b hb, fun b cur t h1 _ _ _ => h.block b (Array.getElem?_eq_some_iff.1 h1).1, fun g' ls hs => hs.map (fun cs hc => ⟨cs, blko hc h, Nat.le_refl _, fun _ => ⟨rfl, rfl⟩⟩) hr, hr⟩
theorem Fv.setR {W : World} {b j g : Nat} {cur : Array Value} {t : TypeId} (u : Value) (hb : W.heap[b]? = some (Obj.cells cur t)) (ht : t = 9 ∨ t = 3) (hg : g ≤ b) : Fv W (W.setCell ⟨b, j, none⟩ u) g := by
  have hr : ∀ (g' n : Nat) (ty : TypeId), RowN W g' n ty → ty = 9 ∨ ty = 3 → RowN (W.setCell ⟨b, j, none⟩ u) g' n ty := fun g' n ty hs _ => hs.map fun c2 hc => by
    by_cases e : g' = b
    · subst e
      exact ⟨_, blk_setk hc j u, by simp⟩
    · exact ⟨c2, (heap_set_other W b j u g' e).trans hc, Nat.le_refl _⟩
  have hne : t ≠ 65 := by rcases ht with rfl | rfl <;> decide
  refine ⟨by simp, rfl, rfl, rfl, fun x hx _ => heap_set_other W b j u x (by omega), fun x c2 t' h1 h2 h3 h4 => heap_set_other W b j u x (blk_ne h1 hb (by rcases ht with rfl | rfl <;> assumption)), fun g' ls hs => hs.map (fun cs hc => ⟨cs, (heap_set_other W b j u g' (blk_ne hc hb (Ne.symm hne))).trans hc, Nat.le_refl _, fun _ => ⟨rfl, rfl⟩⟩) hr, hr⟩
theorem Fv.setV {W : World} {b i g : Nat} {cs : Array Value} (u : Value) (hb : W.heap[b]? = some (Obj.cells cs 65)) (hg : g ≤ b) : Fv W (W.setCell ⟨b, i * 3, none⟩ u) g := by
  have hr : ∀ (g' n : Nat) (ty : TypeId), RowN W g' n ty → ty = 9 ∨ ty = 3 → RowN (W.setCell ⟨b, i * 3, none⟩ u) g' n ty := fun g' n ty hs ht => hs.map fun c2 hc => ⟨c2, (heap_set_other W b (i * 3) u g' (blk_ne hc hb (by rcases ht with rfl | rfl <;> decide))).trans hc, Nat.le_refl _⟩
  refine ⟨by simp, rfl, rfl, rfl, fun x hx _ => heap_set_other W b (i * 3) u x (by omega), fun x c2 t' h1 h2 h3 h4 => heap_set_other W b (i * 3) u x (blk_ne h1 hb h2), fun g' ls hs => hs.map (fun c2 hc => ?_) hr, hr⟩
  by_cases e : g' = b
  · subst e
    exact ⟨_, blk_setk hc (i * 3) u, by simp, fun j => ⟨Array.getElem?_setIfInBounds_ne (by omega), Array.getElem?_setIfInBounds_ne (by omega)⟩⟩
  · exact ⟨c2, (heap_set_other W b (i * 3) u g' e).trans hc, Nat.le_refl _, fun _ => ⟨rfl, rfl⟩⟩
theorem RowN.cell {W : World} {b n : Nat} {ty : TypeId} (h : RowN W b n ty) {j : Nat} (hj : j < n) : (∃ u, W.cell? ⟨b, j, none⟩ = some u) ∧ W.frozen? ⟨b, j, none⟩ = false := by
  obtain ⟨cur, h1, h2⟩ := h
  refine ⟨⟨cur[j]'(by omega), ?_⟩, blkf h1 j⟩
  rw [blkc h1 j]
  exact Array.getElem?_eq_getElem (by omega)
set_option maxHeartbeats 2000000 in
theorem markTx_any (b n c : Nat) (k : Nat) (w : World) (hn : n ≤ 1048576) (hk0 : 1 ≤ k) (hk : k ≤ 3298534883328) (hr : RowN w b n 9) :
    Calls Try.prog 49 #[.slice (some ⟨b, 0, none⟩) n c, .int .i64 (k : Int)] w fun e w' => e = .returned (.int .i64 ((k + n : Nat) : Int)) ∧ Fv w w' b := by
  have HR := hidd hr
  clear hr
  go_enter Try.func49, Try.ntmps49
  go_wp2
  go_loopw [1, 5] (fun kv iv wr => ∃ i : Nat, i ≤ n ∧ iv = .int .i64 (i : Int) ∧ kv = .int .i64 ((k + i : Nat) : Int) ∧ Fv w wr b) (fun _ iv _ => n - (intOf iv).toNat)
  case atStart => exact ⟨0, Nat.zero_le _, rfl, by simp, Fv.refl _ _⟩
  case round =>
    obtain ⟨i, hi, rfl, rfl, hfz⟩ := hrel
    have HF := hidd hfz
    clear hfz
    by_cases hlt : i < n
    · have hltz : (i : Int) < (n : Int) := by omega
      obtain ⟨K, hK⟩ : ∃ K, k + i = K := ⟨_, rfl⟩
      have HK := hidd hK
      have hK0 : 1 ≤ K := by omega
      have hKl : K ≤ 3298535931904 := by omega
      try rw [hK]
      clear hK
      have HM := hidd (markText_any (K : Int) wr (by omega) (by omega))
      generalize mkText (K : Int) = T at HM
      go_wp2_with fail
      refine HM.out.mono ?_
      rintro e w2 ⟨rfl, hb2⟩
      have HF2 := hidd (HF.out.trans (Fv.of hb2 b))
      have hr2 := HF2.out.row _ _ _ HR.out (Or.inl rfl)
      obtain ⟨⟨u0, q0⟩, f0⟩ := hr2.cell hlt
      obtain ⟨cur, hc, hcs⟩ := hr2
      have HS := hidd (Fv.setR (j := i) (.string T) hc (Or.inl rfl) (Nat.le_refl b))
      clear hb2 HM hc
      dsimp only
      go_wp2_with fail
      go_roundw
      case rel =>
        refine ⟨i + 1, by omega, by go_num, ?_, HF2.out.trans HS.out⟩
        have := HK.out
        first | (congr 1; omega) | go_num
      case measure => simp [intOf]; omega
    · have hltz : ¬ (i : Int) < (n : Int) := by omega
      obtain rfl : i = n := by omega
      go_wp2
      go_ret
      exact ⟨rfl, HF.out⟩
set_option maxHeartbeats 2000000 in
theorem markNz_any (b n c : Nat) (k : Nat) (w : World) (hn : n ≤ 1048576) (hk : k ≤ 3298534883328) (hr : RowN w b n 3) :
    Calls Try.prog 50 #[.slice (some ⟨b, 0, none⟩) n c, .int .i64 (k : Int)] w fun e w' => e = .returned (.int .i64 ((k + n : Nat) : Int)) ∧ Fv w w' b := by
  have HR := hidd hr
  clear hr
  go_enter Try.func50, Try.ntmps50
  go_wp2
  go_loopw [1, 5] (fun kv iv wr => ∃ i : Nat, i ≤ n ∧ iv = .int .i64 (i : Int) ∧ kv = .int .i64 ((k + i : Nat) : Int) ∧ Fv w wr b) (fun _ iv _ => n - (intOf iv).toNat)
  case atStart => exact ⟨0, Nat.zero_le _, rfl, by simp, Fv.refl _ _⟩
  case round =>
    obtain ⟨i, hi, rfl, rfl, hfz⟩ := hrel
    have HF := hidd hfz
    clear hfz
    by_cases hlt : i < n
    · have hltz : (i : Int) < (n : Int) := by omega
      obtain ⟨K, hK⟩ : ∃ K, k + i = K := ⟨_, rfl⟩
      have HK := hidd hK
      have hKl : K ≤ 3298535931904 := by omega
      try rw [hK]
      clear hK
      have hr2 := HF.out.row _ _ _ HR.out (Or.inr rfl)
      obtain ⟨⟨u0, q0⟩, f0⟩ := hr2.cell hlt
      obtain ⟨cur, hc, hcs⟩ := hr2
      have HS := hidd (Fv.setR (j := i) (.int .i64 (K : Int)) hc (Or.inr rfl) (Nat.le_refl b))
      clear hc
      go_wp2_with fail
      go_roundw
      case rel =>
        refine ⟨i + 1, by omega, by go_num, ?_, HF.out.trans HS.out⟩
        have := HK.out
        first | (congr 1; omega) | go_num
      case measure => simp [intOf]; omega
    · have hltz : ¬ (i : Int) < (n : Int) := by omega
      obtain rfl : i = n := by omega
      go_wp2
      go_ret
      exact ⟨rfl, HF.out⟩
end Go.Proofs.Ytefhmbnhhkgifaa
