import Derived.Test.YtoinajfliogcdaaDoorNearJ09
import Derived.Test.YtoinajfliogcdaaDoorNearJ13
import Derived.Test.YtoinajfliogcdaaDoorNearJ15
import Derived.Test.YtoinajfliogcdaaDoorNearJ16
import Derived.Laws.StructEq
import Derived.ChangeKeysEq
import Derived.OrdersHeld
namespace Go.Proofs.YtoinajfliogcdaaDoor
open Go Go.RowKit
set_option linter.unusedVariables false
set_option linter.unusedSimpArgs false
set_option maxRecDepth 100000

def NrOK (len k head : Nat) (s : Near) : Prop := ∃ z, RowOK len k head z ∧ nearOf len k head z = s
theorem NrOK.first {len k head : Nat} (hk : k ≤ 2) : NrOK len k head (firstI len k) := ⟨firstS len k, firstS_ok (by omega) (by omega), firstI_near hk⟩
theorem NrOK.step {len k head : Nat} {s : Near} (h : NrOK len k head s) (hit : Nat → Bool) : NrOK len k head (stepI len k head hit s) := by
 obtain ⟨z, hz, rfl⟩ := h
 exact ⟨_, hz.step (by omega) (by omega) hit, nearOf_step hz⟩
theorem setOf_lt {len : Nat} (hl : len ≤ 30) (z : List Int) (c : Nat) : setOf len z c < 2147483648 := by
 have h1 := bset_lt (fun i => decide (fOf z i ≤ (c : Int))) (len + 1)
 have h2 := Nat.pow_le_pow_right (show 0 < 2 by omega) (show len + 1 ≤ 31 by omega)
 unfold setOf
 omega
theorem NrOK.bnd {len k head : Nat} {s : Near} (hl : len ≤ 30) (h : NrOK len k head s) : (s.1 < 2147483648 ∧ s.2.1 < 2147483648 ∧ s.2.2.1 < 2147483648) ∧ s.2.2.2 ≤ head := by
 obtain ⟨z, hz, rfl⟩ := h
 have hc := hz.came
 have b0 := setOf_lt hl z 0
 have b1 := setOf_lt hl z 1
 have b2 := setOf_lt hl z 2
 unfold nearOf
 split
 ·exact ⟨⟨by show 0 < 2147483648; omega, by show 0 < 2147483648; omega, by show 0 < 2147483648; omega⟩, Nat.le_refl _⟩
 ·refine ⟨⟨b0, ?_, ?_⟩, ?_⟩
  ·dsimp only; split <;> omega
  ·dsimp only; split <;> omega
  ·dsimp only; omega
theorem near_few {len k head : Nat} {Z : List Near} (hl : len ≤ 30) (hk : k ≤ 2) (hh : head ≤ 30) (hn : Z.Nodup) (hz : ∀ z ∈ Z, NrOK len k head z) : Z.length ≤ 1114112 :=
 card_le Z hn 1114112 (fun c => nearOf len k head (decZ len k c)) fun z hz' => by
  obtain ⟨r, hr, rfl⟩ := hz z hz'
  obtain ⟨c, hc, hd⟩ := hr.code hl (by omega) (by omega) (by omega)
  exact ⟨c, hc, by rw [hd]⟩
theorem NrOK.key {len k head : Nat} {s : Near} (hl : len ≤ 30) (hh : head ≤ 30) (h : NrOK len k head s) : keyN.ok s := by
 have := h.bnd hl
 exact ⟨by omega, by omega, by omega, by omega⟩
def strCells (l : List (Nat × Nat)) : List Value := l.flatMap fun s => [.int .i64 (s.1 : Int), .int .i64 (s.2 : Int)]
theorem strCells_snoc (l : List (Nat × Nat)) (s : Nat × Nat) : strCells (l ++ [s]) = strCells l ++ [.int .i64 (s.1 : Int), .int .i64 (s.2 : Int)] := by simp [strCells]
abbrev SRow := Value × List (Nat × Nat)
structure RowsS (W : World) (base : Nat) (v : Value) (l : List SRow) : Prop where
 row : W.ownsRow base 162 1 v l.length (l.map (·.1))
 each : ∀ s ∈ l, W.ownsRow base 164 2 s.1 s.2.length (strCells s.2)
 apart : l.Pairwise fun s t => ApartV s.1 t.1
theorem RowsS.nil (W : World) (base : Nat) : RowsS W base nilS [] := ⟨World.ownsRow_nil _ _ _ _, fun s hs => by simp at hs, List.Pairwise.nil⟩
theorem RowsS.congr {W W' : World} {base : Nat} {v : Value} {l : List SRow} (h : RowsS W base v l) (hb : ∀ (b : Nat) (cs : Array Value) (t : TypeId), (t = 162 ∨ t = 164) → (v.ownBlock = some b ∨ ∃ s ∈ l, s.1.ownBlock = some b) → W.heap[b]? = some (.cells cs t) → W'.heap[b]? = some (.cells cs t)) : RowsS W' base v l := by
 refine ⟨own_congr h.row (fun b hk => ?_), fun s hs => own_congr (h.each s hs) (fun b hk => ?_), h.apart⟩
 ·obtain ⟨_, cur, h2⟩ := own_blk h.row hk
  rw [hb b cur _ (Or.inl rfl) (Or.inl hk) h2, h2]
 ·obtain ⟨_, cur, h2⟩ := own_blk (h.each s hs) hk
  rw [hb b cur _ (Or.inr rfl) (Or.inr ⟨s, hs, hk⟩) h2, h2]
structure CurS (W : World) (base : Nat) (v : Value) (l : List SRow) (vr : Value) (rs : List (Nat × Nat)) : Prop where
 rows : RowsS W base v l
 cur : W.ownsRow base 164 2 vr rs.length (strCells rs)
 apart : ∀ s ∈ l, ApartV s.1 vr
theorem RowsS.start {W : World} {base : Nat} {v : Value} {l : List SRow} (h : RowsS W base v l) : CurS W base v l nilS [] := by
 refine ⟨h, World.ownsRow_nil _ _ _ _, fun s _ => ?_⟩
 unfold ApartV
 cases s.1.ownBlock with
 | none => exact Or.inl rfl
 | some k => exact Or.inr (by simp [Value.ownBlock])
theorem CurS.congr {W W' : World} {base : Nat} {v vr : Value} {l : List SRow} {rs : List (Nat × Nat)} (h : CurS W base v l vr rs) (hb : ∀ (b : Nat) (cs : Array Value) (t : TypeId), (t = 162 ∨ t = 164) → W.heap[b]? = some (.cells cs t) → W'.heap[b]? = some (.cells cs t)) : CurS W' base v l vr rs := by
 refine ⟨h.rows.congr fun b cs t ht _ hh => hb b cs t ht hh, own_congr h.cur (fun b hk => ?_), h.apart⟩
 obtain ⟨_, cur, h2⟩ := own_blk h.cur hk
 rw [hb b cur _ (Or.inr rfl) h2, h2]
theorem CurS.push {W W1 : World} {base : Nat} {v vr vr' : Value} {l : List SRow} {rs : List (Nat × Nat)} {p : Nat × Nat} (h : CurS W base v l vr rs) (hb : But (fun b => vr.ownBlock = some b) W W1) (ho : W1.ownsRow base 164 2 vr' (rs.length + 1) (strCells rs ++ [.int .i64 (p.1 : Int), .int .i64 (p.2 : Int)])) (hat : ∀ b, vr'.ownBlock = some b → vr.ownBlock = some b ∨ W.heap.size ≤ b) : CurS W1 base v l vr' (rs ++ [p]) := by
 refine ⟨h.rows.congr fun b cs t ht hk hh => ?_, by rw [List.length_append, List.length_singleton, strCells_snoc]; exact ho, fun s hs => ?_⟩
 ·rw [hb.block b (Array.getElem?_eq_some_iff.1 hh).1 (fun e' => by
   rcases hk with hk | ⟨s, hs, hk⟩
   ·obtain ⟨_, c1, h1⟩ := own_blk h.rows.row hk
    obtain ⟨_, c2, h2⟩ := own_blk h.cur e'
    exact blk_ne h1 h2 (by decide) rfl
   ·rcases h.apart s hs with h2 | h2
    ·rw [hk] at h2; cases h2
    ·exact h2 (hk.trans e'.symm))]
  exact hh
 ·unfold ApartV
  cases hu : s.1.ownBlock with
  | none => exact Or.inl rfl
  | some k =>
   refine Or.inr ?_
   intro e'
   rcases hat k e'.symm with h1 | h1
   ·rcases h.apart s hs with h2 | h2
    ·rw [hu] at h2; cases h2
    ·exact h2 (hu.trans h1.symm)
   ·have := (Array.getElem?_eq_some_iff.1 (own_blk (h.rows.each s hs) hu).2.choose_spec).1
    omega
theorem CurS.done {W W1 : World} {base : Nat} {v v' vr : Value} {l : List SRow} {rs : List (Nat × Nat)} (h : CurS W base v l vr rs) (hb : But (fun b => v.ownBlock = some b) W W1) (ho : W1.ownsRow base 162 1 v' (l.length + 1) (l.map (·.1) ++ [vr])) : RowsS W1 base v' (l ++ [(vr, rs)]) := by
 have key : ∀ (u : Value) (n : Nat) (xs : List Value), W.ownsRow base 164 2 u n xs → W1.ownsRow base 164 2 u n xs := by
  intro u n xs hu
  refine own_congr hu (fun b hk => hb.block b (Array.getElem?_eq_some_iff.1 (own_blk hu hk).2.choose_spec).1 (fun e' => ?_))
  obtain ⟨_, c1, h1⟩ := own_blk hu hk
  obtain ⟨_, c2, h2⟩ := own_blk h.rows.row e'
  exact blk_ne h1 h2 (by decide) rfl
 refine ⟨?_, fun s hs => ?_, ?_⟩
 ·rw [List.length_append, List.length_singleton, List.map_append]; exact ho
 ·rcases List.mem_append.1 hs with h1 | h1
  ·exact key _ _ _ (h.rows.each s h1)
  ·rw [List.mem_singleton.1 h1]; exact key _ _ _ h.cur
 ·rw [List.pairwise_append]
  refine ⟨h.rows.apart, by simp, fun s hs t ht => ?_⟩
  rw [List.mem_singleton.1 ht]; exact h.apart s hs
structure Tb (w W : World) (cw ca : Array Value) (a0 a1 a2 a3 vrows vfin vm vmem : Value) (Z : List Near) (bs : List Bool) : Prop where
 wb : W.heap[w.heap.size]? = some (.cells cw 77)
 ab : W.heap[w.heap.size + 1]? = some (.cells ca 80)
 rb : W.heap[w.heap.size + 2]? = some (.cells #[nilS, nilS, nilS, nilS, nilS, nilS, nilS, nilS] 127)
 tb : W.heap[w.heap.size + 3]? = some (.cells #[a0, a1, a2, a3, vrows, vfin, nilS, nilS] 127)
 set : SetAt keyN W w.heap.size (w.heap.size + 4) vm vmem Z
 fin : W.ownsRow w.heap.size 4 1 vfin bs.length (bs.map Value.bool)
 bel : Below w.heap.size w W
section
variable {w W W1 : World} {cw ca : Array Value} {a0 a1 a2 a3 vrows vfin vm vmem : Value} {Z : List Near} {bs : List Bool}
theorem Tb.keep (h : Tb w W cw ca a0 a1 a2 a3 vrows vfin vm vmem Z bs) {X : Nat → Prop} (hb : But X W W1) (hX : ∀ b, X b → w.heap.size ≤ b ∧ (∀ cs t, W.heap[b]? = some (.cells cs t) → t ≠ 77 ∧ t ≠ 80 ∧ t ≠ 127 ∧ t ≠ 4) ∧ ¬ SetB (w.heap.size + 4) vm vmem b) : Tb w W1 cw ca a0 a1 a2 a3 vrows vfin vm vmem Z bs := by
 have at_ : ∀ (b : Nat) (cs : Array Value) (t : TypeId), (t = 77 ∨ t = 80 ∨ t = 127 ∨ t = 4) → W.heap[b]? = some (.cells cs t) → W1.heap[b]? = some (.cells cs t) := by
  intro b cs t ht hh
  rw [hb.block b (Array.getElem?_eq_some_iff.1 hh).1 (fun hx => ?_)]
  ·exact hh
  ·obtain ⟨_, h2, _⟩ := hX b hx
   have := h2 cs t hh
   rcases ht with e | e | e | e
   ·exact this.1 e
   ·exact this.2.1 e
   ·exact this.2.2.1 e
   ·exact this.2.2.2 e
 refine ⟨at_ _ _ _ (Or.inl rfl) h.wb, at_ _ _ _ (Or.inr (Or.inl rfl)) h.ab, at_ _ _ _ (Or.inr (Or.inr (Or.inl rfl))) h.rb, at_ _ _ _ (Or.inr (Or.inr (Or.inl rfl))) h.tb, ?_, ?_, ?_⟩
 ·exact h.set.but hb (fun b hB hx => (hX b hx).2.2 hB)
 ·refine own_congr h.fin (fun b hk => ?_)
  obtain ⟨_, cur, h2⟩ := own_blk h.fin hk
  rw [at_ b cur _ (by simp) h2, h2]
 ·exact h.bel.trans (hb.below h.bel.size (fun k hk hx => by have := (hX k hx).1; omega))
theorem Tb.below (h : Tb w W cw ca a0 a1 a2 a3 vrows vfin vm vmem Z bs) (hb : Below W.heap.size W W1) : Tb w W1 cw ca a0 a1 a2 a3 vrows vfin vm vmem Z bs := h.keep (X := fun _ => False) (But.of_below hb) (fun b hx => hx.elim)
theorem Tb.placed (h : Tb w W cw ca a0 a1 a2 a3 vrows vfin vm vmem Z bs) {vm' vmem' : Value} {Z' : List Near} (hs' : SetAt keyN W1 w.heap.size (w.heap.size + 4) vm' vmem' Z') (hb : But (SetB (w.heap.size + 4) vm vmem) W W1) : Tb w W1 cw ca a0 a1 a2 a3 vrows vfin vm' vmem' Z' bs := by
 have far : ∀ b cs t, SetB (w.heap.size + 4) vm vmem b → W.heap[b]? = some (.cells cs t) → t = 160 ∨ t = 72 := by
  intro b cs t hB hh
  rcases (h.set.blk hB).2 with ⟨c, h1⟩ | ⟨es, c, h1⟩ | ⟨c, h1⟩
  ·rw [hh] at h1; simp only [Option.some.injEq, Obj.cells.injEq] at h1; exact Or.inl h1.2.1
  ·rw [hh] at h1; cases h1
  ·rw [hh] at h1; simp only [Option.some.injEq, Obj.cells.injEq] at h1; exact Or.inr h1.2.1
 have at_ : ∀ (b : Nat) (cs : Array Value) (t : TypeId), t ≠ 160 → t ≠ 72 → W.heap[b]? = some (.cells cs t) → W1.heap[b]? = some (.cells cs t) := by
  intro b cs t h1 h2 hh
  rw [hb.block b (Array.getElem?_eq_some_iff.1 hh).1 (fun hx => ?_)]
  ·exact hh
  ·rcases far b cs t hx hh with e | e
   ·exact h1 e
   ·exact h2 e
 refine ⟨at_ _ _ _ (by decide) (by decide) h.wb, at_ _ _ _ (by decide) (by decide) h.ab, at_ _ _ _ (by decide) (by decide) h.rb, at_ _ _ _ (by decide) (by decide) h.tb, hs', ?_, ?_⟩
 ·refine own_congr h.fin (fun b hk => ?_)
  obtain ⟨_, cur, h2⟩ := own_blk h.fin hk
  rw [at_ b cur _ (by decide) (by decide) h2, h2]
 ·refine h.bel.trans (hb.below h.bel.size (fun k hk hB => ?_))
  rcases h.set.from_ hB with h1 | h1 <;> omega
theorem Tb.set4 (h : Tb w W cw ca a0 a1 a2 a3 vrows vfin vm vmem Z bs) (v' : Value) : Tb w (W.setCell ⟨w.heap.size + 3, 4, none⟩ v') cw ca a0 a1 a2 a3 v' vfin vm vmem Z bs := by
 have at_ : ∀ (b : Nat), b ≠ w.heap.size + 3 → (W.setCell ⟨w.heap.size + 3, 4, none⟩ v').heap[b]? = W.heap[b]? := fun b hb => heap_set_other _ _ _ _ _ hb
 refine ⟨(at_ _ (by omega)).trans h.wb, (at_ _ (by omega)).trans h.ab, (at_ _ (by omega)).trans h.rb, ?_, ?_, ?_, h.bel.setCell (by show w.heap.size ≤ w.heap.size + 3; omega) _⟩
 ·have := blk_setk h.tb 4 v'
  simpa using this
 ·refine h.set.keep (fun b hB => at_ b ?_)
  rintro rfl
  rcases (h.set.blk hB).2 with ⟨c, h1⟩ | ⟨es, c, h1⟩ | ⟨c, h1⟩
  ·exact blk_ne h.tb h1 (by decide) rfl
  ·rw [h.tb] at h1; cases h1
  ·exact blk_ne h.tb h1 (by decide) rfl
 ·refine own_congr h.fin (fun b hk => at_ b ?_)
  obtain ⟨_, cur, h2⟩ := own_blk h.fin hk
  exact blk_ne h2 h.tb (by decide)
theorem Tb.pushFin (h : Tb w W cw ca a0 a1 a2 a3 vrows vfin vm vmem Z bs) {v' : Value} {b : Bool} (hb : But (fun b => vfin.ownBlock = some b) W W1) (ho : W1.ownsRow w.heap.size 4 1 v' (bs.length + 1) (bs.map Value.bool ++ [.bool b])) :
  Tb w (W1.setCell ⟨w.heap.size + 3, 5, none⟩ v') cw ca a0 a1 a2 a3 vrows v' vm vmem Z (bs ++ [b]) ∧ W1.heap[w.heap.size + 3]? = some (.cells #[a0, a1, a2, a3, vrows, vfin, nilS, nilS] 127) := by
 have at1 : ∀ (b : Nat) (cs : Array Value) (t : TypeId), t ≠ 4 → W.heap[b]? = some (.cells cs t) → W1.heap[b]? = some (.cells cs t) := by
  intro b cs t ht hh
  rw [hb.block b (Array.getElem?_eq_some_iff.1 hh).1 (fun hx => ?_)]
  ·exact hh
  ·obtain ⟨_, cur, h2⟩ := own_blk h.fin hx
   rw [hh] at h2
   simp only [Option.some.injEq, Obj.cells.injEq] at h2
   exact ht h2.2.1
 have htb := at1 _ _ _ (by decide) h.tb
 have at_ : ∀ (b : Nat), b ≠ w.heap.size + 3 → (W1.setCell ⟨w.heap.size + 3, 5, none⟩ v').heap[b]? = W1.heap[b]? := fun b hb => heap_set_other _ _ _ _ _ hb
 have hset1 : SetAt keyN W1 w.heap.size (w.heap.size + 4) vm vmem Z := h.set.but hb (fun b hB hx => by
  obtain ⟨_, cur, h2⟩ := own_blk h.fin hx
  rcases (h.set.blk hB).2 with ⟨c, h1⟩ | ⟨es, c, h1⟩ | ⟨c, h1⟩
  ·exact blk_ne h2 h1 (by decide) rfl
  ·rw [h2] at h1; cases h1
  ·exact blk_ne h2 h1 (by decide) rfl)
 have hbel1 : Below w.heap.size w W1 := h.bel.trans (hb.below h.bel.size (fun k hk hx => by have := (own_blk h.fin hx).1; omega))
 refine ⟨⟨(at_ _ (by omega)).trans (at1 _ _ _ (by decide) h.wb), (at_ _ (by omega)).trans (at1 _ _ _ (by decide) h.ab), (at_ _ (by omega)).trans (at1 _ _ _ (by decide) h.rb), ?_, ?_, ?_, hbel1.setCell (by show w.heap.size ≤ w.heap.size + 3; omega) _⟩, htb⟩
 ·have := blk_setk htb 5 v'
  simpa using this
 ·refine hset1.keep (fun b hB => at_ b ?_)
  rintro rfl
  rcases (hset1.blk hB).2 with ⟨c, h1⟩ | ⟨es, c, h1⟩ | ⟨c, h1⟩
  ·exact blk_ne htb h1 (by decide) rfl
  ·rw [htb] at h1; cases h1
  ·exact blk_ne htb h1 (by decide) rfl
 ·rw [List.length_append, List.length_singleton, List.map_append, List.map_singleton]
  refine own_congr ho (fun b hk => at_ b ?_)
  obtain ⟨_, cur, h2⟩ := own_blk ho hk
  exact blk_ne h2 htb (by decide)
structure InS (w W : World) (cw ca : Array Value) (a0 a1 a2 a3 vrows vfin vm vmem : Value) (Z : List Near) (bs : List Bool) (l : List SRow) (fb : Nat) (x : Near) (vr : Value) (rs : List (Nat × Nat)) : Prop where
 t : Tb w W cw ca a0 a1 a2 a3 vrows vfin vm vmem Z bs
 c : CurS W w.heap.size vrows l vr rs
 f : W.heap[fb]? = some (.cells (nearV x.1 x.2.1 x.2.2.1 x.2.2.2) 72)
 nf : ∀ b, SetB (w.heap.size + 4) vm vmem b → b ≠ fb
 ge : w.heap.size ≤ fb
variable {l : List SRow} {fb : Nat} {x : Near} {vr : Value} {rs : List (Nat × Nat)}
theorem InS.below (h : InS w W cw ca a0 a1 a2 a3 vrows vfin vm vmem Z bs l fb x vr rs) (hb : Below W.heap.size W W1) : InS w W1 cw ca a0 a1 a2 a3 vrows vfin vm vmem Z bs l fb x vr rs :=
 ⟨h.t.below hb, h.c.congr fun b cs t _ hh => blko hh hb, blko h.f hb, h.nf, h.ge⟩
theorem set_types {base sb : Nat} {Z : List Near} (h : SetAt keyN W base sb vm vmem Z) {b : Nat} {cs : Array Value} {t : TypeId} (hB : SetB sb vm vmem b) (hh : W.heap[b]? = some (.cells cs t)) : t = 160 ∨ t = 72 := by
 rcases (h.blk hB).2 with ⟨c, h1⟩ | ⟨es, c, h1⟩ | ⟨c, h1⟩
 ·rw [hh] at h1; simp only [Option.some.injEq, Obj.cells.injEq] at h1; exact Or.inl h1.2.1
 ·rw [hh] at h1; cases h1
 ·rw [hh] at h1; simp only [Option.some.injEq, Obj.cells.injEq] at h1; exact Or.inr h1.2.1
theorem InS.placed (h : InS w W cw ca a0 a1 a2 a3 vrows vfin vm vmem Z bs l fb x vr rs) {vm' vmem' : Value} {Z' : List Near} (hs' : SetAt keyN W1 w.heap.size (w.heap.size + 4) vm' vmem' Z') (hb : But (SetB (w.heap.size + 4) vm vmem) W W1) (hat : ∀ b, vmem'.ownBlock = some b → vmem.ownBlock = some b ∨ W.heap.size ≤ b) (hat2 : ∀ b, vm' = .map (some b) → vm = .map (some b) ∨ W.heap.size ≤ b) : InS w W1 cw ca a0 a1 a2 a3 vrows vfin vm' vmem' Z' bs l fb x vr rs := by
 have hfl := (Array.getElem?_eq_some_iff.1 h.f).1
 refine ⟨h.t.placed hs' hb, h.c.congr fun b cs t ht hh => ?_, ?_, fun b hB => ?_, h.ge⟩
 ·rw [hb.block b (Array.getElem?_eq_some_iff.1 hh).1 (fun hx => ?_)]
  ·exact hh
  ·rcases set_types h.t.set hx hh with e | e
   ·rcases ht with e' | e' <;> (rw [e] at e'; exact absurd e' (by decide))
   ·rcases ht with e' | e' <;> (rw [e] at e'; exact absurd e' (by decide))
 ·rw [hb.block fb hfl (fun hx => h.nf fb hx rfl)]; exact h.f
 ·rcases hB with e | e | e
  ·exact h.nf b (Or.inl e)
  ·rcases hat2 b e with h1 | h1
   ·exact h.nf b (Or.inr (Or.inl h1))
   ·omega
  ·rcases hat b e with h1 | h1
   ·exact h.nf b (Or.inr (Or.inr h1))
   ·omega
theorem InS.push (h : InS w W cw ca a0 a1 a2 a3 vrows vfin vm vmem Z bs l fb x vr rs) {vr' : Value} {p : Nat × Nat} (hb : But (fun b => vr.ownBlock = some b) W W1) (ho : W1.ownsRow w.heap.size 164 2 vr' (rs.length + 1) (strCells rs ++ [.int .i64 (p.1 : Int), .int .i64 (p.2 : Int)])) (hat : ∀ b, vr'.ownBlock = some b → vr.ownBlock = some b ∨ W.heap.size ≤ b) : InS w W1 cw ca a0 a1 a2 a3 vrows vfin vm vmem Z bs l fb x vr' (rs ++ [p]) := by
 refine ⟨h.t.keep hb (fun b hx => ?_), h.c.push hb ho hat, ?_, h.nf, h.ge⟩
 ·obtain ⟨h1, cur, h2⟩ := own_blk h.c.cur hx
  refine ⟨h1, fun cs t hh => ?_, fun hB => ?_⟩
  ·rw [h2] at hh
   simp only [Option.some.injEq, Obj.cells.injEq] at hh
   rw [← hh.2.1]
   decide
  ·rcases set_types h.t.set hB h2 with e | e <;> exact absurd e (by decide)
 ·rw [hb.block fb (Array.getElem?_eq_some_iff.1 h.f).1 (fun hx => by
   obtain ⟨_, cur, h2⟩ := own_blk h.c.cur hx
   exact blk_ne h.f h2 (by decide) rfl)]
  exact h.f
end
end Go.Proofs.YtoinajfliogcdaaDoor

namespace Go.Proofs.YtoinajfliogcdaaDoor
open Go Go.RowKit
set_option linter.unusedVariables false
set_option linter.unusedSimpArgs false
set_option maxRecDepth 100000

theorem eqItem64 (w : World) (xs ys : Array Value) (i : Nat) (x y : Int) (hx : xs[i]? = some (.int .u64 x)) (hy : ys[i]? = some (.int .u64 y)) (is : List Nat) :
  (Op.eqItems (9997 + 1) 69 1 xs ys (i :: is)).run Tryd.prog w = if x == y then (Op.eqItems (9997 + 1) 69 1 xs ys is).run Tryd.prog w else .ok false w := by
 have hk : Tryd.prog.plainKey 69 = true := by kernel_rfl
 have h1 := run_part_plain (P := Tryd.prog) w hk hx
 have h2 := run_part_plain (P := Tryd.prog) w hk hy
 have h3 : (Op.equalIn (9997 + 1) 69 (.int .u64 x) (.int .u64 y)).run Tryd.prog w = .ok (x == y) w := run_equalIn_int w 9997 _ _ _ _ _ Tryd.underlying69
 simp only [Op.eqItems, Nat.mul_one, Sem.run_bind, h1, h2, h3, Result.andThen_ok]
 cases hxy : (x == y) <;> simp
theorem eq3_run (w : World) (a0 a1 a2 b0 b1 b2 : Int) : (Op.equalIn 9999 70 (.agg #[.int .u64 a0, .int .u64 a1, .int .u64 a2]) (.agg #[.int .u64 b0, .int .u64 b1, .int .u64 b2])).run Tryd.prog w = .ok (a0 == b0 && (a1 == b1 && a2 == b2)) w := by
 obtain ⟨i, hi⟩ := info_of_underlying (P := Tryd.prog) Tryd.underlying69
 have hc : Tryd.prog.cellsOf 69 = 1 := by kernel_rfl
 rw [show (9999 : Nat) = 9997 + 1 + 1 from rfl, run_equalIn_array (P := Tryd.prog) w (9997 + 1) _ _ Tryd.underlying70 hi, hc, show List.range 3 = [0, 1, 2] from rfl,
  eqItem64 w _ _ 0 a0 b0 rfl rfl, eqItem64 w _ _ 1 a1 b1 rfl rfl, eqItem64 w _ _ 2 a2 b2 rfl rfl]
 cases (a0 == b0) <;> cases (a1 == b1) <;> cases (a2 == b2) <;> simp [Op.eqItems]
theorem cast_beq (a b : Nat) : ((a : Int) == (b : Int)) = decide (a = b) := by
 by_cases h : a = b
 ·subst h; simp
 ·rw [beq_eq_false_iff_ne.2 (by omega), decide_eq_false h]
theorem eqNear (w : World) (y z : Near) : (binOp BinOp.eql 72 (.agg (nearV y.1 y.2.1 y.2.2.1 y.2.2.2)) (.agg (nearV z.1 z.2.1 z.2.2.1 z.2.2.2))).run Tryd.prog w = .ok (.bool (decide (y = z))) w := by
 obtain ⟨a, b, c, d⟩ := y
 obtain ⟨a', b', c', d'⟩ := z
 have e : decide (((a, b, c, d) : Near) = (a', b', c', d')) = ((decide (a = a') && (decide (b = b') && decide (c = c'))) && decide (d = d')) := by
  rw [Bool.eq_iff_iff]
  simp [and_assoc]
 rw [e]
 have h3 := eq3_run w a b c a' b' c'
 rw [cast_beq, cast_beq, cast_beq] at h3
 generalize (decide (a = a') && (decide (b = b') && decide (c = c'))) = B at *
 go_simp
 cases B
 ·simp
 ·by_cases hd : d = d'
  ·subst hd; simp
  ·have : ¬ (d : Int) = (d' : Int) := by omega
   simp [hd, this]
theorem own_cellk {W : World} {base e size n g cap : Nat} {xs : List Value} (h : W.ownsRow base e size (.slice (some ⟨g, 0, none⟩) n cap) n xs) {p : Nat} {u : Value} (hp : xs[p]? = some u) : W.cell? ⟨g, p, none⟩ = some u := by
 rcases h.2 with ⟨h', _⟩ | ⟨g', c', cur, h1, h2, h3, h4, h5, h6, h7⟩
 ·simp at h'
 ·simp only [Value.slice.injEq, Option.some.injEq, Addr.mk.injEq, and_true, true_and] at h1
  obtain ⟨rfl, rfl⟩ := h1
  rw [blkc h3 p]
  rw [← h7, List.getElem?_take] at hp
  split at hp
  ·rw [← hp]; simp
  ·cases hp
theorem own_frozenk {W : World} {base e size n g cap : Nat} {xs : List Value} (h : W.ownsRow base e size (.slice (some ⟨g, 0, none⟩) n cap) n xs) (k : Nat) : W.frozen? ⟨g, k, none⟩ = false := by
 rcases h.2 with ⟨h', _⟩ | ⟨g', c', cur, h1, h2, h3, _⟩
 ·simp at h'
 ·simp only [Value.slice.injEq, Option.some.injEq, Addr.mk.injEq, and_true, true_and] at h1
  obtain ⟨rfl, rfl⟩ := h1
  exact frozen_of_row _ _ k _ _ h3
theorem own_slk {W : World} {base e size n : Nat} {v : Value} {xs : List Value} (h : W.ownsRow base e size v n xs) : ∃ ad cap, v = .slice ad n cap := by
 rcases h.2 with ⟨h1, h2⟩ | ⟨g, cap, cur, h1, _⟩
 ·exact ⟨none, 0, by rw [h1, h2]⟩
 ·exact ⟨_, cap, h1⟩
theorem own_posk {W : World} {base e size n : Nat} {v : Value} {xs : List Value} (h : W.ownsRow base e size v n xs) (hn : 0 < n) : ∃ g cap, v = .slice (some ⟨g, 0, none⟩) n cap := by
 rcases h.2 with ⟨h1, h2⟩ | ⟨g, cap, cur, h1, _⟩
 ·omega
 ·exact ⟨g, cap, h1⟩
theorem rowN_at (L : List Near) : ∀ (i j : Nat) (x : Near), L[i]? = some x → j < 4 → (rowK keyN L)[i * 4 + j]? = (nearV x.1 x.2.1 x.2.2.1 x.2.2.2)[j]? := by
 induction L with
 | nil => intro i j x h; simp at h
 | cons a L ih =>
  intro i j x h hj
  have e : rowK keyN (a :: L) = (nearV a.1 a.2.1 a.2.2.1 a.2.2.2).toList ++ rowK keyN L := by simp [rowK, keyN]
  rw [e]
  cases i with
  | zero =>
   simp at h
   subst h
   rw [List.getElem?_append_left (by simp; omega), Array.getElem?_toList]
   simp
  | succ i =>
   rw [List.getElem?_append_right (by simp; omega)]
   have := ih i j x (by simpa using h) hj
   rw [← this]
   congr 1
   simp
   omega
theorem set_read {W : World} {base sb : Nat} {vm vmem : Value} {Z : List Near} (h : SetAt keyN W base sb vm vmem Z) {i : Nat} {x : Near} (hi : Z[i]? = some x) : ∃ g cap, vmem = .slice (some ⟨g, 0, none⟩) Z.length cap ∧ W.cell? ⟨g, i * 4, none⟩ = some (.int .u64 (x.1 : Int)) ∧ W.cell? ⟨g, i * 4 + 1, none⟩ = some (.int .u64 (x.2.1 : Int)) ∧ W.cell? ⟨g, i * 4 + 2, none⟩ = some (.int .u64 (x.2.2.1 : Int)) ∧ W.cell? ⟨g, i * 4 + 3, none⟩ = some (.int .i64 (x.2.2.2 : Int)) := by
 have hp : 0 < Z.length := by have := (List.getElem?_eq_some_iff.1 hi).1; omega
 obtain ⟨g, cap, rfl⟩ := own_posk h.row hp
 exact ⟨g, cap, rfl, own_cellk h.row (rowN_at Z i 0 x hi (by omega)), own_cellk h.row (rowN_at Z i 1 x hi (by omega)), own_cellk h.row (rowN_at Z i 2 x hi (by omega)), own_cellk h.row (rowN_at Z i 3 x hi (by omega))⟩
theorem str_at (l : List (Nat × Nat)) : ∀ (i : Nat) (s : Nat × Nat), l[i]? = some s → (strCells l)[i * 2]? = some (.int .i64 (s.1 : Int)) ∧ (strCells l)[i * 2 + 1]? = some (.int .i64 (s.2 : Int)) := by
 induction l with
 | nil => intro i s h; simp at h
 | cons a l ih =>
  intro i s h
  have e : strCells (a :: l) = [.int .i64 (a.1 : Int), .int .i64 (a.2 : Int)] ++ strCells l := by simp [strCells]
  rw [e]
  cases i with
  | zero => simp at h; subst h; simp
  | succ i =>
   obtain ⟨h1, h2⟩ := ih i s (by simpa using h)
   rw [List.getElem?_append_right (by simp; omega), List.getElem?_append_right (by simp; omega)]
   refine ⟨?_, ?_⟩
   ·rw [← h1]; congr 1; simp; omega
   ·rw [← h2]; congr 1; simp; omega
theorem exec_idx2 (W : World) (ρ : Operand → Value) (o : Oper) (x y : Operand) (ho : o.op = .indexAddr 162 x y) (g X len c : Nat) (hx : ρ x = .slice (some ⟨g, 0, none⟩) len c) (hy : ρ y = .int .i64 (X : Int)) (h : X < len) :
  (execOp ρ o).run Tryd.prog W = .ok (.value (.pointer (some ⟨g, X * 2, none⟩))) W := by
 have h1 : (0 : Int) ≤ (X : Int) := by omega
 have h2 : (X : Int) < (len : Int) := by omega
 unfold execOp
 simp only [ho, hx, hy, Sem.run_bind, Sem.run_pure, Result.andThen_ok]
 go_simp
theorem exec_idx4 (W : World) (ρ : Operand → Value) (o : Oper) (x y : Operand) (ho : o.op = .indexAddr 158 x y) (g X len c : Nat) (hx : ρ x = .slice (some ⟨g, 0, none⟩) len c) (hy : ρ y = .int .i64 (X : Int)) (h : X < len) :
  (execOp ρ o).run Tryd.prog W = .ok (.value (.pointer (some ⟨g, X * 4, none⟩))) W := by
 have h1 : (0 : Int) ≤ (X : Int) := by omega
 have h2 : (X : Int) < (len : Int) := by omega
 unfold execOp
 simp only [ho, hx, hy, Sem.run_bind, Sem.run_pure, Result.andThen_ok]
 go_simp
theorem exec_callB (W : World) (a : Act) (o : Oper) (f : FuncId) (x y : Operand) (t : TypeId) (ho : o.op = .call { callee := .value x, args := #[y], argTypes := #[t] }) (r u : Value) (hx : a.eval x = .func (.func f) #[r] #[]) (hy : a.eval y = u)
  (hf : (callFunc f #[r, u]).run Tryd.prog W = .ok (.enter f #[r, u]) W) : (execOp a.eval o).run Tryd.prog W = .ok (.enter f #[r, u]) W := by
 unfold execOp
 simp [ho, resolve, invoke, Deferred.ofValue, hx, hy, hf]
theorem exec_loadS (W : World) (ρ : Operand → Value) (o : Oper) (x : Operand) (ho : o.op = .load 59 x) (b off n c : Nat) (ad : Option Addr) (hx : ρ x = .pointer (some ⟨b, off, none⟩)) (h0 : W.cell? ⟨b, off, none⟩ = some (.slice ad n c)) : (execOp ρ o).run Tryd.prog W = .ok (.value (.slice ad n c)) W := by
 unfold execOp
 simp only [ho, Instr.loadAt, Instr.sureAddr, hx, Sem.run_bind, Sem.run_pure, Result.andThen_ok]
 go_simp
theorem exec_build1 (W : World) (ρ : Operand → Value) (o : Oper) (y : Operand) (ho : o.op = .buildSlice 59 1 #[(0, y)]) (b : Bool) (hx : ρ y = .bool b) :
  (execOp ρ o).run Tryd.prog W = .ok (.value (.slice (some ⟨W.heap.size, 0, none⟩) 1 1)) (W.alloc (.cells #[.bool b] 4)) := by
 unfold execOp
 simp only [ho, hx, Sem.run_bind, Sem.run_pure, Result.andThen_ok]
 go_simp
theorem exec_storeS (W : World) (ρ : Operand → Value) (o : Oper) (x y : Operand) (ho : o.op = .store 59 x y) (b off g n c : Nat) (u : Value) (hx : ρ x = .pointer (some ⟨b, off, none⟩)) (hy : ρ y = .slice (some ⟨g, 0, none⟩) n c) (hc : W.cell? ⟨b, off, none⟩ = some u) (hf : W.frozen? ⟨b, off, none⟩ = false) :
  (execOp ρ o).run Tryd.prog W = .ok .skip (W.setCell ⟨b, off, none⟩ (.slice (some ⟨g, 0, none⟩) n c)) := by
 unfold execOp
 simp only [ho, Instr.storeAt, Instr.sureAddr, hx, hy, Sem.run_bind, Sem.run_pure, Result.andThen_ok]
 go_simp
theorem runsFrom_len : ∀ (l : List Nat) (last : Option Nat) (k : Nat), (runsFrom last k l).length ≤ l.length
 | [], _, _ => by simp [runsFrom]
 | v :: t, last, k => by
  unfold runsFrom
  split
  ·have := runsFrom_len t last (k + 1); simp; omega
  ·have := runsFrom_len t (some v) (k + 1); simp; omega
theorem rowN_len (K : Kaut Near) (Z : List Near) (x : Near) (j : Nat) : (rowN K Z x j).length ≤ j := by
 have := runsFrom_len (toN K (metN K Z x j) x j) none 0
 rw [toN_len] at this
 exact this
end Go.Proofs.YtoinajfliogcdaaDoor
