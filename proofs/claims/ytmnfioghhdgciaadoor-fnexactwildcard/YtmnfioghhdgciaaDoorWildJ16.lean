import Derived.Test.YtmnfioghhdgciaaDoorWildJ12
import Derived.Test.YtmnfioghhdgciaaDoorWildJ15
namespace Go.Proofs.YtmnfioghhdgciaaDoor
open Go Go.RowKit
set_option linter.unusedVariables false
set_option linter.unusedSimpArgs false
set_option maxRecDepth 100000

/-! Reading a set of places, and comparing two. -/
abbrev plV (x : Nat) : Array Value := #[.int .u64 (x : Int)]
theorem eqPlace (w : World) (y z : Nat) : (binOp BinOp.eql 51 (.agg (plV y)) (.agg (plV z))).run Tryd.prog w = .ok (.bool (decide (y = z))) w := by
  unfold plV
  go_simp
  by_cases h : y = z
  · subst h; simp
  · have : ¬ (y : Int) = (z : Int) := by omega
    simp [h, this]
theorem rowP_eq : ∀ (L : List Nat), rowK keyW L = L.map fun (x : Nat) => Value.int .u64 (x : Int)
  | [] => rfl
  | a :: L => by
    have e : rowK keyW (a :: L) = [.int .u64 (a : Int)] ++ rowK keyW L := by simp [rowK, keyW]
    rw [e, rowP_eq L]
    rfl
theorem set_read {W : World} {base sb : Nat} {vm vmem : Value} {Z : List Nat} (h : SetAt keyW W base sb vm vmem Z) {i : Nat} {x : Nat} (hi : Z[i]? = some x) : ∃ g cap, vmem = .slice (some ⟨g, 0, none⟩) Z.length cap ∧ W.cell? ⟨g, i, none⟩ = some (.int .u64 (x : Int)) := by
  have hp : 0 < Z.length := by have := (List.getElem?_eq_some_iff.1 hi).1; omega
  obtain ⟨g, cap, rfl⟩ := own_posk h.row hp
  exact ⟨g, cap, rfl, own_cellk h.row (by rw [rowP_eq, List.getElem?_map, hi]; rfl)⟩
theorem exec_idxPl (W : World) (ρ : Operand → Value) (o : Oper) (x y : Operand) (ho : o.op = .indexAddr 100 x y) (g X len c : Nat) (hx : ρ x = .slice (some ⟨g, 0, none⟩) len c) (hy : ρ y = .int .i64 (X : Int)) (h : X < len) :
    (execOp ρ o).run Tryd.prog W = .ok (.value (.pointer (some ⟨g, X, none⟩))) W := by
  have h1 : (0 : Int) ≤ (X : Int) := by omega
  have h2 : (X : Int) < (len : Int) := by omega
  unfold execOp
  simp only [ho, hx, hy, Sem.run_bind, Sem.run_pure, Result.andThen_ok]
  go_simp
end Go.Proofs.YtmnfioghhdgciaaDoor

namespace Go.Proofs.YtmnfioghhdgciaaDoor
open Go Go.RowKit
set_option linter.unusedVariables false
set_option linter.unusedSimpArgs false
set_option maxRecDepth 100000

/-! All that tableOf has. -/
structure Tb (w W : World) (cw ca : Array Value) (a0 a1 a2 a3 vrows vfin vm vmem : Value) (Z : List Nat) (bs : List Bool) : Prop where
  wb : W.heap[w.heap.size]? = some (.cells cw 56)
  ab : W.heap[w.heap.size + 1]? = some (.cells ca 59)
  rb : W.heap[w.heap.size + 2]? = some (.cells #[nilS, nilS, nilS, nilS, nilS, nilS, nilS, nilS] 72)
  tb : W.heap[w.heap.size + 3]? = some (.cells #[a0, a1, a2, a3, vrows, vfin, nilS, nilS] 72)
  set : SetAt keyW W w.heap.size (w.heap.size + 4) vm vmem Z
  fin : W.ownsRow w.heap.size 4 1 vfin bs.length (bs.map Value.bool)
  bel : Below w.heap.size w W
section
variable {w W W1 : World} {cw ca : Array Value} {a0 a1 a2 a3 vrows vfin vm vmem : Value} {Z : List Nat} {bs : List Bool}
/-- What is left alone: everything but blocks that are none of the table's. -/
theorem Tb.keep (h : Tb w W cw ca a0 a1 a2 a3 vrows vfin vm vmem Z bs) {X : Nat → Prop} (hb : But X W W1) (hX : ∀ b, X b → w.heap.size ≤ b ∧ (∀ cs t, W.heap[b]? = some (.cells cs t) → t ≠ 56 ∧ t ≠ 59 ∧ t ≠ 72 ∧ t ≠ 4) ∧ ¬ SetB (w.heap.size + 4) vm vmem b) : Tb w W1 cw ca a0 a1 a2 a3 vrows vfin vm vmem Z bs := by
  have at_ : ∀ (b : Nat) (cs : Array Value) (t : TypeId), (t = 56 ∨ t = 59 ∨ t = 72 ∨ t = 4) → W.heap[b]? = some (.cells cs t) → W1.heap[b]? = some (.cells cs t) := by
    intro b cs t ht hh
    rw [hb.block b (Array.getElem?_eq_some_iff.1 hh).1 (fun hx => ?_)]
    · exact hh
    · obtain ⟨_, h2, _⟩ := hX b hx
      have := h2 cs t hh
      rcases ht with e | e | e | e
      · exact this.1 e
      · exact this.2.1 e
      · exact this.2.2.1 e
      · exact this.2.2.2 e
  refine ⟨at_ _ _ _ (Or.inl rfl) h.wb, at_ _ _ _ (Or.inr (Or.inl rfl)) h.ab, at_ _ _ _ (Or.inr (Or.inr (Or.inl rfl))) h.rb, at_ _ _ _ (Or.inr (Or.inr (Or.inl rfl))) h.tb, ?_, ?_, ?_⟩
  · exact h.set.but hb (fun b hB hx => (hX b hx).2.2 hB)
  · refine own_congr h.fin (fun b hk => ?_)
    obtain ⟨_, cur, h2⟩ := own_blk h.fin hk
    rw [at_ b cur _ (by simp) h2, h2]
  · exact h.bel.trans (hb.below h.bel.size (fun k hk hx => by have := (hX k hx).1; omega))
theorem Tb.below (h : Tb w W cw ca a0 a1 a2 a3 vrows vfin vm vmem Z bs) (hb : Below W.heap.size W W1) : Tb w W1 cw ca a0 a1 a2 a3 vrows vfin vm vmem Z bs := h.keep (X := fun _ => False) (But.of_below hb) (fun b hx => hx.elim)
theorem Tb.placed (h : Tb w W cw ca a0 a1 a2 a3 vrows vfin vm vmem Z bs) {vm' vmem' : Value} {Z' : List Nat} (hs' : SetAt keyW W1 w.heap.size (w.heap.size + 4) vm' vmem' Z') (hb : But (SetB (w.heap.size + 4) vm vmem) W W1) : Tb w W1 cw ca a0 a1 a2 a3 vrows vfin vm' vmem' Z' bs := by
  have far : ∀ b cs t, SetB (w.heap.size + 4) vm vmem b → W.heap[b]? = some (.cells cs t) → t = 102 ∨ t = 51 := by
    intro b cs t hB hh
    rcases (h.set.blk hB).2 with ⟨c, h1⟩ | ⟨es, c, h1⟩ | ⟨c, h1⟩
    · rw [hh] at h1; simp only [Option.some.injEq, Obj.cells.injEq] at h1; exact Or.inl h1.2.1
    · rw [hh] at h1; cases h1
    · rw [hh] at h1; simp only [Option.some.injEq, Obj.cells.injEq] at h1; exact Or.inr h1.2.1
  have at_ : ∀ (b : Nat) (cs : Array Value) (t : TypeId), t ≠ 102 → t ≠ 51 → W.heap[b]? = some (.cells cs t) → W1.heap[b]? = some (.cells cs t) := by
    intro b cs t h1 h2 hh
    rw [hb.block b (Array.getElem?_eq_some_iff.1 hh).1 (fun hx => ?_)]
    · exact hh
    · rcases far b cs t hx hh with e | e
      · exact h1 e
      · exact h2 e
  refine ⟨at_ _ _ _ (by decide) (by decide) h.wb, at_ _ _ _ (by decide) (by decide) h.ab, at_ _ _ _ (by decide) (by decide) h.rb, at_ _ _ _ (by decide) (by decide) h.tb, hs', ?_, ?_⟩
  · refine own_congr h.fin (fun b hk => ?_)
    obtain ⟨_, cur, h2⟩ := own_blk h.fin hk
    rw [at_ b cur _ (by decide) (by decide) h2, h2]
  · refine h.bel.trans (hb.below h.bel.size (fun k hk hB => ?_))
    rcases h.set.from_ hB with h1 | h1 <;> omega
theorem Tb.set4 (h : Tb w W cw ca a0 a1 a2 a3 vrows vfin vm vmem Z bs) (v' : Value) : Tb w (W.setCell ⟨w.heap.size + 3, 4, none⟩ v') cw ca a0 a1 a2 a3 v' vfin vm vmem Z bs := by
  have at_ : ∀ (b : Nat), b ≠ w.heap.size + 3 → (W.setCell ⟨w.heap.size + 3, 4, none⟩ v').heap[b]? = W.heap[b]? := fun b hb => heap_set_other _ _ _ _ _ hb
  refine ⟨(at_ _ (by omega)).trans h.wb, (at_ _ (by omega)).trans h.ab, (at_ _ (by omega)).trans h.rb, ?_, ?_, ?_, h.bel.setCell (by show w.heap.size ≤ w.heap.size + 3; omega) _⟩
  · have := blk_setk h.tb 4 v'
    simpa using this
  · refine h.set.keep (fun b hB => at_ b ?_)
    rintro rfl
    rcases (h.set.blk hB).2 with ⟨c, h1⟩ | ⟨es, c, h1⟩ | ⟨c, h1⟩
    · exact blk_ne h.tb h1 (by decide) rfl
    · rw [h.tb] at h1; cases h1
    · exact blk_ne h.tb h1 (by decide) rfl
  · refine own_congr h.fin (fun b hk => at_ b ?_)
    obtain ⟨_, cur, h2⟩ := own_blk h.fin hk
    exact blk_ne h2 h.tb (by decide)
theorem Tb.pushFin (h : Tb w W cw ca a0 a1 a2 a3 vrows vfin vm vmem Z bs) {v' : Value} {b : Bool} (hb : But (fun b => vfin.ownBlock = some b) W W1) (ho : W1.ownsRow w.heap.size 4 1 v' (bs.length + 1) (bs.map Value.bool ++ [.bool b])) :
    Tb w (W1.setCell ⟨w.heap.size + 3, 5, none⟩ v') cw ca a0 a1 a2 a3 vrows v' vm vmem Z (bs ++ [b]) ∧ W1.heap[w.heap.size + 3]? = some (.cells #[a0, a1, a2, a3, vrows, vfin, nilS, nilS] 72) := by
  have at1 : ∀ (b : Nat) (cs : Array Value) (t : TypeId), t ≠ 4 → W.heap[b]? = some (.cells cs t) → W1.heap[b]? = some (.cells cs t) := by
    intro b cs t ht hh
    rw [hb.block b (Array.getElem?_eq_some_iff.1 hh).1 (fun hx => ?_)]
    · exact hh
    · obtain ⟨_, cur, h2⟩ := own_blk h.fin hx
      rw [hh] at h2
      simp only [Option.some.injEq, Obj.cells.injEq] at h2
      exact ht h2.2.1
  have htb := at1 _ _ _ (by decide) h.tb
  have at_ : ∀ (b : Nat), b ≠ w.heap.size + 3 → (W1.setCell ⟨w.heap.size + 3, 5, none⟩ v').heap[b]? = W1.heap[b]? := fun b hb => heap_set_other _ _ _ _ _ hb
  have hset1 : SetAt keyW W1 w.heap.size (w.heap.size + 4) vm vmem Z := h.set.but hb (fun b hB hx => by
    obtain ⟨_, cur, h2⟩ := own_blk h.fin hx
    rcases (h.set.blk hB).2 with ⟨c, h1⟩ | ⟨es, c, h1⟩ | ⟨c, h1⟩
    · exact blk_ne h2 h1 (by decide) rfl
    · rw [h2] at h1; cases h1
    · exact blk_ne h2 h1 (by decide) rfl)
  have hbel1 : Below w.heap.size w W1 := h.bel.trans (hb.below h.bel.size (fun k hk hx => by have := (own_blk h.fin hx).1; omega))
  refine ⟨⟨(at_ _ (by omega)).trans (at1 _ _ _ (by decide) h.wb), (at_ _ (by omega)).trans (at1 _ _ _ (by decide) h.ab), (at_ _ (by omega)).trans (at1 _ _ _ (by decide) h.rb), ?_, ?_, ?_, hbel1.setCell (by show w.heap.size ≤ w.heap.size + 3; omega) _⟩, htb⟩
  · have := blk_setk htb 5 v'
    simpa using this
  · refine hset1.keep (fun b hB => at_ b ?_)
    rintro rfl
    rcases (hset1.blk hB).2 with ⟨c, h1⟩ | ⟨es, c, h1⟩ | ⟨c, h1⟩
    · exact blk_ne htb h1 (by decide) rfl
    · rw [htb] at h1; cases h1
    · exact blk_ne htb h1 (by decide) rfl
  · rw [List.length_append, List.length_singleton, List.map_append, List.map_singleton]
    refine own_congr ho (fun b hk => at_ b ?_)
    obtain ⟨_, cur, h2⟩ := own_blk ho hk
    exact blk_ne h2 htb (by decide)
/-- In the round of a state. -/
structure InS (w W : World) (cw ca : Array Value) (a0 a1 a2 a3 vrows vfin vm vmem : Value) (Z : List Nat) (bs : List Bool) (l : List SRow) (fb : Nat) (x : Nat) (vr : Value) (rs : List (Nat × Nat)) : Prop where
  t : Tb w W cw ca a0 a1 a2 a3 vrows vfin vm vmem Z bs
  c : CurS W w.heap.size vrows l vr rs
  f : W.heap[fb]? = some (.cells (plV x) 51)
  nf : ∀ b, SetB (w.heap.size + 4) vm vmem b → b ≠ fb
  ge : w.heap.size ≤ fb
variable {l : List SRow} {fb : Nat} {x : Nat} {vr : Value} {rs : List (Nat × Nat)}
theorem InS.below (h : InS w W cw ca a0 a1 a2 a3 vrows vfin vm vmem Z bs l fb x vr rs) (hb : Below W.heap.size W W1) : InS w W1 cw ca a0 a1 a2 a3 vrows vfin vm vmem Z bs l fb x vr rs :=
  ⟨h.t.below hb, h.c.congr fun b cs t _ hh => blko hh hb, blko h.f hb, h.nf, h.ge⟩
theorem set_types {base sb : Nat} {Z : List Nat} (h : SetAt keyW W base sb vm vmem Z) {b : Nat} {cs : Array Value} {t : TypeId} (hB : SetB sb vm vmem b) (hh : W.heap[b]? = some (.cells cs t)) : t = 102 ∨ t = 51 := by
  rcases (h.blk hB).2 with ⟨c, h1⟩ | ⟨es, c, h1⟩ | ⟨c, h1⟩
  · rw [hh] at h1; simp only [Option.some.injEq, Obj.cells.injEq] at h1; exact Or.inl h1.2.1
  · rw [hh] at h1; cases h1
  · rw [hh] at h1; simp only [Option.some.injEq, Obj.cells.injEq] at h1; exact Or.inr h1.2.1
theorem InS.placed (h : InS w W cw ca a0 a1 a2 a3 vrows vfin vm vmem Z bs l fb x vr rs) {vm' vmem' : Value} {Z' : List Nat} (hs' : SetAt keyW W1 w.heap.size (w.heap.size + 4) vm' vmem' Z') (hb : But (SetB (w.heap.size + 4) vm vmem) W W1) (hat : ∀ b, vmem'.ownBlock = some b → vmem.ownBlock = some b ∨ W.heap.size ≤ b) (hat2 : ∀ b, vm' = .map (some b) → vm = .map (some b) ∨ W.heap.size ≤ b) : InS w W1 cw ca a0 a1 a2 a3 vrows vfin vm' vmem' Z' bs l fb x vr rs := by
  have hfl := (Array.getElem?_eq_some_iff.1 h.f).1
  refine ⟨h.t.placed hs' hb, h.c.congr fun b cs t ht hh => ?_, ?_, fun b hB => ?_, h.ge⟩
  · rw [hb.block b (Array.getElem?_eq_some_iff.1 hh).1 (fun hx => ?_)]
    · exact hh
    · rcases set_types h.t.set hx hh with e | e
      · rcases ht with e' | e' <;> (rw [e] at e'; exact absurd e' (by decide))
      · rcases ht with e' | e' <;> (rw [e] at e'; exact absurd e' (by decide))
  · rw [hb.block fb hfl (fun hx => h.nf fb hx rfl)]; exact h.f
  · rcases hB with e | e | e
    · exact h.nf b (Or.inl e)
    · rcases hat2 b e with h1 | h1
      · exact h.nf b (Or.inr (Or.inl h1))
      · omega
    · rcases hat b e with h1 | h1
      · exact h.nf b (Or.inr (Or.inr h1))
      · omega
theorem InS.push (h : InS w W cw ca a0 a1 a2 a3 vrows vfin vm vmem Z bs l fb x vr rs) {vr' : Value} {p : Nat × Nat} (hb : But (fun b => vr.ownBlock = some b) W W1) (ho : W1.ownsRow w.heap.size 106 2 vr' (rs.length + 1) (strCells rs ++ [.int .i64 (p.1 : Int), .int .i64 (p.2 : Int)])) (hat : ∀ b, vr'.ownBlock = some b → vr.ownBlock = some b ∨ W.heap.size ≤ b) : InS w W1 cw ca a0 a1 a2 a3 vrows vfin vm vmem Z bs l fb x vr' (rs ++ [p]) := by
  refine ⟨h.t.keep hb (fun b hx => ?_), h.c.push hb ho hat, ?_, h.nf, h.ge⟩
  · obtain ⟨h1, cur, h2⟩ := own_blk h.c.cur hx
    refine ⟨h1, fun cs t hh => ?_, fun hB => ?_⟩
    · rw [h2] at hh
      simp only [Option.some.injEq, Obj.cells.injEq] at hh
      rw [← hh.2.1]
      decide
    · rcases set_types h.t.set hB h2 with e | e <;> exact absurd e (by decide)
  · rw [hb.block fb (Array.getElem?_eq_some_iff.1 h.f).1 (fun hx => by
      obtain ⟨_, cur, h2⟩ := own_blk h.c.cur hx
      exact blk_ne h.f h2 (by decide) rfl)]
    exact h.f
end
end Go.Proofs.YtmnfioghhdgciaaDoor
