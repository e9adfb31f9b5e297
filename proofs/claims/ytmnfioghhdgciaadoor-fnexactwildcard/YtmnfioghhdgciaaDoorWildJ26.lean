import Derived.Test.YtmnfioghhdgciaaDoorWildJ25
import Derived.Test.YtmnfioghhdgciaaDoorWildJ14
import Derived.Test.YtmnfioghhdgciaaDoorWildJ07
namespace Go.Proofs.YtmnfioghhdgciaaDoor
open Go Go.RowKit
set_option linter.unusedVariables false
set_option linter.unusedSimpArgs false
set_option maxRecDepth 100000

/-! What part has in memory. -/
structure Pt (w W : World) (base tb bx g3 c3 : Nat) (a0 a1 a2 a3 vrows vfin vpts : Value) (l : List SRow) (bs : List Bool) (cl : List Int) (us : List Value) (parts : List (List Nat)) : Prop where
  tab : TabS W base tb a0 a1 a2 a3 vrows vfin (.slice (some ⟨g3, 0, none⟩) cl.length c3) vpts l bs cl
  pts : W.ownsRow w.heap.size 30 1 vpts us.length us
  len : us.length = parts.length
  hold : ∀ (j : Nat) (u : Value) (ms : List Nat), us[j]? = some u → parts[j]? = some ms → HoldO W g3 u (nat2 ms)
  bx : W.heap[bx]? = some (.cells #[.pointer (some ⟨tb, 0, none⟩)] 107)
  but : But (fun b => b = tb) w W
  low : base ≤ w.heap.size
  gg : w.heap.size ≤ g3
section
variable {w W W1 : World} {base tb bx g3 c3 : Nat} {a0 a1 a2 a3 vrows vfin vpts : Value} {l : List SRow} {bs : List Bool} {cl : List Int} {us : List Value} {parts : List (List Nat)}
theorem Pt.below (h : Pt w W base tb bx g3 c3 a0 a1 a2 a3 vrows vfin vpts l bs cl us parts) (hb : Below W.heap.size W W1) : Pt w W1 base tb bx g3 c3 a0 a1 a2 a3 vrows vfin vpts l bs cl us parts :=
  ⟨h.tab.below hb, own_congr h.pts (fun b hk => hb.block b (Array.getElem?_eq_some_iff.1 (own_blk h.pts hk).2.choose_spec).1), h.len, fun j u ms hj hm => (h.hold j u ms hj hm).below hb, blko h.bx hb,
   ⟨hb.os.trans h.but.os, hb.tape.trans h.but.tape, hb.output.trans h.but.output, Nat.le_trans h.but.size hb.size, fun b hb' hn => (hb.block b (Nat.lt_of_lt_of_le hb' h.but.size)).trans (h.but.block b hb' hn)⟩, h.low, h.gg⟩
/-- A set of traits that changes, made here. -/
theorem Pt.traits (h : Pt w W base tb bx g3 c3 a0 a1 a2 a3 vrows vfin vpts l bs cl us parts) {sb : Nat} {vm vmem : Value} {Tr : List (Int × Nat × Nat)} (hs : SetAt keyT W w.heap.size sb vm vmem Tr) (hsb : w.heap.size ≤ sb) (hb : But (SetB sb vm vmem) W W1) : Pt w W1 base tb bx g3 c3 a0 a1 a2 a3 vrows vfin vpts l bs cl us parts := by
  have hge : ∀ b, SetB sb vm vmem b → w.heap.size ≤ b := fun b hB => by
    rcases hs.from_ hB with e | e
    · rw [e]; exact hsb
    · exact e
  refine ⟨h.tab.keep hb (fun b hB cs t hh => ?_), own_congr h.pts (fun b hk => ?_), h.len, fun j u ms hj hm => (h.hold j u ms hj hm).keep hb (fun b hB => Or.inr fun cur e => ?_), ?_, ?_, h.low, h.gg⟩
  · rcases setT_types hs hB hh with e | e <;> (rw [e]; decide)
  · obtain ⟨_, cur, h2⟩ := own_blk h.pts hk
    refine hb.block b (Array.getElem?_eq_some_iff.1 h2).1 (fun hB => ?_)
    rcases setT_types hs hB h2 with e | e <;> exact absurd e (by decide)
  · rcases setT_types hs hB e with e | e <;> exact absurd e (by decide)
  · rw [hb.block bx (Array.getElem?_eq_some_iff.1 h.bx).1 (fun hB => by
      rcases setT_types hs hB h.bx with e | e <;> exact absurd e (by decide))]
    exact h.bx
  · refine ⟨hb.os.trans h.but.os, hb.tape.trans h.but.tape, hb.output.trans h.but.output, Nat.le_trans h.but.size hb.size, fun b hb' hn => ?_⟩
    rw [hb.block b (Nat.lt_of_lt_of_le hb' h.but.size) (fun hB => by have := hge b hB; omega), h.but.block b hb' hn]
/-- A class is written. -/
theorem Pt.setCls (h : Pt w W base tb bx g3 c3 a0 a1 a2 a3 vrows vfin vpts l bs cl us parts) {k : Nat} (hk : k < cl.length) (x : Int) : Pt w (W.setCell ⟨g3, k, none⟩ (.int .i64 x)) base tb bx g3 c3 a0 a1 a2 a3 vrows vfin vpts l bs (cl.set k x) us parts := by
  obtain ⟨hg, cur, hgb⟩ := own_blk h.tab.cls (b := g3) rfl
  have hot : ∀ (b : Nat) (cs : Array Value) (t : TypeId), t ≠ 3 → W.heap[b]? = some (.cells cs t) → (W.setCell ⟨g3, k, none⟩ (.int .i64 x)).heap[b]? = some (.cells cs t) := fun b cs t ht hh => by
    rw [heap_set_other _ _ _ _ _ (blk_ne hh hgb ht)]; exact hh
  refine ⟨⟨hot _ _ _ (by decide) h.tab.box |> fun e => by rw [List.length_set]; exact e, h.tab.rows.congr fun b cs t ht _ hh => hot b cs t (by rcases ht with e | e <;> (rw [e]; decide)) hh, ?_, ?_⟩, ?_, h.len, fun j u ms hj hm => ?_, hot _ _ _ (by decide) h.bx, ?_, h.low, h.gg⟩
  · refine own_congr h.tab.fin (fun b hkb => ?_)
    obtain ⟨_, cur2, h2⟩ := own_blk h.tab.fin hkb
    rw [hot b cur2 _ (by decide) h2, h2]
  · rw [List.length_set]
    exact own_setI h.tab.cls hk x
  · refine own_congr h.pts (fun b hkb => ?_)
    obtain ⟨_, cur2, h2⟩ := own_blk h.pts hkb
    rw [hot b cur2 _ (by decide) h2, h2]
  · exact (h.hold j u ms hj hm).keep ((But.refl (fun b => b = g3) W).set g3 k _ rfl) (fun b hB => Or.inl hB)
  · refine ⟨h.but.os, h.but.tape, h.but.output, by have := h.but.size; simpa [World.setCell] using this, fun b hb' hn => ?_⟩
    rw [heap_set_other _ _ _ _ _ (by have := h.gg; omega), h.but.block b hb' hn]
/-- A part is replaced. -/
theorem Pt.setPart (h : Pt w W base tb bx g3 c3 a0 a1 a2 a3 vrows vfin vpts l bs cl us parts) {gp cp c : Nat} (hvp : vpts = .slice (some ⟨gp, 0, none⟩) us.length cp) (hc : c < us.length) {u : Value} {ms : List Nat} (hu : HoldO W g3 u (nat2 ms)) : Pt w (W.setCell ⟨gp, c, none⟩ u) base tb bx g3 c3 a0 a1 a2 a3 vrows vfin vpts l bs cl (us.set c u) (parts.set c ms) := by
  obtain ⟨hg, cur, hgb⟩ := own_blk h.pts (b := gp) (by rw [hvp]; rfl)
  have hot : ∀ (b : Nat) (cs : Array Value) (t : TypeId), t ≠ 30 → W.heap[b]? = some (.cells cs t) → (W.setCell ⟨gp, c, none⟩ u).heap[b]? = some (.cells cs t) := fun b cs t ht hh => by
    rw [heap_set_other _ _ _ _ _ (blk_ne hh hgb ht)]; exact hh
  have hbut : But (fun b => b = gp) W (W.setCell ⟨gp, c, none⟩ u) := (But.refl (fun b => b = gp) W).set gp c _ rfl
  have hkeep : ∀ v zs, HoldO W g3 v zs → HoldO (W.setCell ⟨gp, c, none⟩ u) g3 v zs := fun v zs hv => hv.keep hbut (fun b hB => Or.inr fun cur2 e => by
    subst hB
    exact blk_ne hgb e (by decide) rfl)
  refine ⟨⟨hot _ _ _ (by decide) h.tab.box, h.tab.rows.congr fun b cs t ht _ hh => hot b cs t (by rcases ht with e | e <;> (rw [e]; decide)) hh, ?_, ?_⟩, ?_, by rw [List.length_set, List.length_set, h.len], fun j v k hj hk => ?_, hot _ _ _ (by decide) h.bx, ?_, h.low, h.gg⟩
  · refine own_congr h.tab.fin (fun b hkb => ?_)
    obtain ⟨_, cur2, h2⟩ := own_blk h.tab.fin hkb
    rw [hot b cur2 _ (by decide) h2, h2]
  · refine own_congr h.tab.cls (fun b hkb => ?_)
    obtain ⟨_, cur2, h2⟩ := own_blk h.tab.cls hkb
    rw [hot b cur2 _ (by decide) h2, h2]
  · rw [List.length_set]
    have hpr1 := h.pts
    subst hvp
    refine ⟨by rw [List.length_set]; exact hpr1.1, ?_⟩
    rcases hpr1.2 with ⟨h', _⟩ | ⟨g', c', cur, k1, k2, k3, k4, k5, k6, k7⟩
    · simp at h'
    · simp only [Value.slice.injEq, Option.some.injEq, Addr.mk.injEq, and_true, true_and] at k1
      obtain ⟨rfl, rfl⟩ := k1
      refine Or.inr ⟨gp, cp, cur.setIfInBounds c u, rfl, k2, blk_setk k3 c _, k4, k5, by simpa using k6, ?_⟩
      rw [Array.toList_setIfInBounds, List.take_set, k7]
  · by_cases e : j = c
    · subst e
      rw [List.getElem?_set_self hc] at hj
      rw [List.getElem?_set_self (by rw [← h.len]; exact hc)] at hk
      cases hj; cases hk
      exact hkeep _ _ hu
    · rw [List.getElem?_set_ne (Ne.symm e)] at hj hk
      exact hkeep _ _ (h.hold j v k hj hk)
  · refine ⟨h.but.os, h.but.tape, h.but.output, by have := h.but.size; simpa [World.setCell] using this, fun b hb' hn => ?_⟩
    rw [heap_set_other _ _ _ _ _ (by omega), h.but.block b hb' hn]
/-- A part more. -/
theorem Pt.pushPart (h : Pt w W base tb bx g3 c3 a0 a1 a2 a3 vrows vfin vpts l bs cl us parts) {v' u : Value} {ms : List Nat} (hu : HoldO W g3 u (nat2 ms)) (hb : But (fun b => vpts.ownBlock = some b) W W1) (ho : W1.ownsRow w.heap.size 30 1 v' (us.length + 1) (us ++ [u])) (hnt : w.heap.size ≤ tb ∨ tb < w.heap.size) :
    Pt w (W1.setCell ⟨tb, 7, none⟩ v') base tb bx g3 c3 a0 a1 a2 a3 vrows vfin v' l bs cl (us ++ [u]) (parts ++ [ms]) ∧ W1.heap[tb]? = some (.cells #[a0, a1, a2, a3, vrows, vfin, .slice (some ⟨g3, 0, none⟩) cl.length c3, vpts] 72) := by
  have hot1 : ∀ (b : Nat) (cs : Array Value) (t : TypeId), t ≠ 30 → W.heap[b]? = some (.cells cs t) → W1.heap[b]? = some (.cells cs t) := fun b cs t ht hh => by
    rw [hb.block b (Array.getElem?_eq_some_iff.1 hh).1 (fun hk => by
      obtain ⟨_, cur, h2⟩ := own_blk h.pts hk
      exact blk_ne hh h2 ht rfl)]
    exact hh
  have htb := hot1 _ _ _ (by decide) h.tab.box
  have hot : ∀ (b : Nat) (cs : Array Value) (t : TypeId), t ≠ 72 → W1.heap[b]? = some (.cells cs t) → (W1.setCell ⟨tb, 7, none⟩ v').heap[b]? = some (.cells cs t) := fun b cs t ht hh => by
    rw [heap_set_other _ _ _ _ _ (blk_ne hh htb ht)]; exact hh
  have hot2 : ∀ (b : Nat) (cs : Array Value) (t : TypeId), t ≠ 30 → t ≠ 72 → W.heap[b]? = some (.cells cs t) → (W1.setCell ⟨tb, 7, none⟩ v').heap[b]? = some (.cells cs t) := fun b cs t h1 h2 hh => hot b cs t h2 (hot1 b cs t h1 hh)
  have hkeep : ∀ v zs, HoldO W g3 v zs → HoldO (W1.setCell ⟨tb, 7, none⟩ v') g3 v zs := fun v zs hv => by
    have h1 : HoldO W1 g3 v zs := hv.keep hb (fun b hk => Or.inr fun cur2 e => by
      obtain ⟨_, cur, h2⟩ := own_blk h.pts hk
      exact blk_ne e h2 (by decide) rfl)
    exact h1.keep ((But.refl (fun b => b = tb) W1).set tb 7 _ rfl) (fun b hB => Or.inr fun cur2 e => by
      subst hB
      exact blk_ne htb e (by decide) rfl)
  refine ⟨⟨⟨?_, h.tab.rows.congr fun b cs t ht _ hh => hot2 b cs t (by rcases ht with e | e <;> (rw [e]; decide)) (by rcases ht with e | e <;> (rw [e]; decide)) hh, ?_, ?_⟩, ?_, by rw [List.length_append, List.length_append, h.len]; rfl, fun j v k hj hk => ?_, hot2 _ _ _ (by decide) (by decide) h.bx, ?_, h.low, h.gg⟩, htb⟩
  · have := blk_setk htb 7 v'
    simpa using this
  · refine own_congr h.tab.fin (fun b hkb => ?_)
    obtain ⟨_, cur2, h2⟩ := own_blk h.tab.fin hkb
    rw [hot2 b cur2 _ (by decide) (by decide) h2, h2]
  · refine own_congr h.tab.cls (fun b hkb => ?_)
    obtain ⟨_, cur2, h2⟩ := own_blk h.tab.cls hkb
    rw [hot2 b cur2 _ (by decide) (by decide) h2, h2]
  · rw [List.length_append, List.length_singleton]
    refine own_congr ho (fun b hkb => ?_)
    obtain ⟨_, cur2, h2⟩ := own_blk ho hkb
    rw [hot b cur2 _ (by decide) h2, h2]
  · by_cases e : j < us.length
    · rw [List.getElem?_append_left e] at hj
      rw [List.getElem?_append_left (by rw [← h.len]; exact e)] at hk
      exact hkeep _ _ (h.hold j v k hj hk)
    · have hjl : j = us.length := by have := (List.getElem?_eq_some_iff.1 hj).1; simp at this; omega
      subst hjl
      have e1 : v = u := by simpa using hj.symm
      have e2 : k = ms := by rw [h.len] at hk; simpa using hk.symm
      rw [e1, e2]
      exact hkeep _ _ hu
  · refine ⟨hb.os.trans h.but.os, hb.tape.trans h.but.tape, hb.output.trans h.but.output, by have := Nat.le_trans h.but.size hb.size; simpa [World.setCell] using this, fun b hb' hn => ?_⟩
    rw [heap_set_other _ _ _ _ _ hn, hb.block b (Nat.lt_of_lt_of_le hb' h.but.size) (fun hk => by have := (own_blk h.pts hk).1; omega), h.but.block b hb' hn]
end
theorem run_makeI (M : Nat) (hM : M ≤ 1099511627776) (W : World) : (Instr.makeSlice 30 (.int .i64 (M : Int)) (.int .i64 (M : Int))).run Tryd.prog W = .ok (.slice (some ⟨W.heap.size, 0, none⟩) M M) (W.alloc (.cells (zI (List.replicate M 0)).toArray 3)) := by
  obtain ⟨i0, hi, hz0, hz1, hz2⟩ := info_parts Tryd.infoIntL
  have := run_make (P := Tryd.prog) W 30 3 i0 _ Tryd.underlying30 hi hz0 .i64 .i64 (M : Int) (M : Int) (by omega) (by omega) (by rw [hz2]; omega) (by omega)
  rw [hz1] at this
  simp only [Int.toNat_natCast, Nat.mul_one] at this
  rw [this]
  have e : madeCells (Value.int .i64 0).cells M = (zI (List.replicate M 0)).toArray := by
    apply Array.ext'
    rw [show (Value.int .i64 0).cells = #[Value.int .i64 0] from rfl, toList_madeCells_one]
    simp [zI]
  rw [e]
theorem makeI_own (w : World) (M base : Nat) (hM : M ≤ 1099511627776) (hb : base ≤ w.heap.size) : (w.alloc (.cells (zI (List.replicate M 0)).toArray 3)).ownsRow base 3 1 (.slice (some ⟨w.heap.size, 0, none⟩) M M) M (zI (List.replicate M 0)) := by
  have := World.ownsRow_lit (base := base) (e := 3) (size := 1) w (zI (List.replicate M 0)).toArray M hb (by unfold maxLen; omega) (by simp [zI])
  simpa using this
theorem exec_makeI (W : World) (ρ : Operand → Value) (o : Oper) (x y : Operand) (ho : o.op = .makeSlice 30 x y) (M : Nat) (hM : M ≤ 1099511627776) (hx : ρ x = .int .i64 (M : Int)) (hy : ρ y = .int .i64 (M : Int)) :
    (execOp ρ o).run Tryd.prog W = .ok (.value (.slice (some ⟨W.heap.size, 0, none⟩) M M)) (W.alloc (.cells (zI (List.replicate M 0)).toArray 3)) := by
  have h := run_makeI M hM W
  unfold execOp
  simp only [ho, hx, hy, h, Sem.run_bind, Sem.run_pure, Result.andThen_ok]
theorem exec_storeI (W : World) (ρ : Operand → Value) (o : Oper) (x y : Operand) (ho : o.op = .store 30 x y) (b off n c : Nat) (ad : Option Addr) (u : Value) (hx : ρ x = .pointer (some ⟨b, off, none⟩)) (hy : ρ y = .slice ad n c) (hc : W.cell? ⟨b, off, none⟩ = some u) (hf : W.frozen? ⟨b, off, none⟩ = false) :
    (execOp ρ o).run Tryd.prog W = .ok .skip (W.setCell ⟨b, off, none⟩ (.slice ad n c)) := by
  unfold execOp
  simp only [ho, Instr.storeAt, Instr.sureAddr, hx, hy, Sem.run_bind, Sem.run_pure, Result.andThen_ok]
  go_simp
theorem exec_storeP (W : World) (ρ : Operand → Value) (o : Oper) (x y : Operand) (ho : o.op = .store 35 x y) (b off n c : Nat) (ad : Option Addr) (u : Value) (hx : ρ x = .pointer (some ⟨b, off, none⟩)) (hy : ρ y = .slice ad n c) (hc : W.cell? ⟨b, off, none⟩ = some u) (hf : W.frozen? ⟨b, off, none⟩ = false) :
    (execOp ρ o).run Tryd.prog W = .ok .skip (W.setCell ⟨b, off, none⟩ (.slice ad n c)) := by
  unfold execOp
  simp only [ho, Instr.storeAt, Instr.sureAddr, hx, hy, Sem.run_bind, Sem.run_pure, Result.andThen_ok]
  go_simp
theorem exec_storeZ (W : World) (ρ : Operand → Value) (o : Oper) (x y : Operand) (ho : o.op = .store 3 x y) (b off : Nat) (z : Int) (u : Value) (hx : ρ x = .pointer (some ⟨b, off, none⟩)) (hy : ρ y = .int .i64 z) (hc : W.cell? ⟨b, off, none⟩ = some u) (hf : W.frozen? ⟨b, off, none⟩ = false) :
    (execOp ρ o).run Tryd.prog W = .ok .skip (W.setCell ⟨b, off, none⟩ (.int .i64 z)) := by
  unfold execOp
  simp only [ho, Instr.storeAt, Instr.sureAddr, hx, hy, Sem.run_bind, Sem.run_pure, Result.andThen_ok]
  go_simp
theorem exec_loadI (W : World) (ρ : Operand → Value) (o : Oper) (x : Operand) (ho : o.op = .load 30 x) (b off n c : Nat) (ad : Option Addr) (hx : ρ x = .pointer (some ⟨b, off, none⟩)) (h0 : W.cell? ⟨b, off, none⟩ = some (.slice ad n c)) : (execOp ρ o).run Tryd.prog W = .ok (.value (.slice ad n c)) W := by
  unfold execOp
  simp only [ho, Instr.loadAt, Instr.sureAddr, hx, Sem.run_bind, Sem.run_pure, Result.andThen_ok]
  go_simp
theorem exec_loadP (W : World) (ρ : Operand → Value) (o : Oper) (x : Operand) (ho : o.op = .load 35 x) (b off n c : Nat) (ad : Option Addr) (hx : ρ x = .pointer (some ⟨b, off, none⟩)) (h0 : W.cell? ⟨b, off, none⟩ = some (.slice ad n c)) : (execOp ρ o).run Tryd.prog W = .ok (.value (.slice ad n c)) W := by
  unfold execOp
  simp only [ho, Instr.loadAt, Instr.sureAddr, hx, Sem.run_bind, Sem.run_pure, Result.andThen_ok]
  go_simp
theorem exec_buildI (W : World) (ρ : Operand → Value) (o : Oper) (y : Operand) (ho : o.op = .buildSlice 30 1 #[(0, y)]) (z : Int) (hx : ρ y = .int .i64 z) :
    (execOp ρ o).run Tryd.prog W = .ok (.value (.slice (some ⟨W.heap.size, 0, none⟩) 1 1)) (W.alloc (.cells #[.int .i64 z] 3)) := by
  unfold execOp
  simp only [ho, hx, Sem.run_bind, Sem.run_pure, Result.andThen_ok]
  go_simp
theorem exec_buildP (W : World) (ρ : Operand → Value) (o : Oper) (y : Operand) (ho : o.op = .buildSlice 35 1 #[(0, y)]) (ad : Option Addr) (n c : Nat) (hx : ρ y = .slice ad n c) :
    (execOp ρ o).run Tryd.prog W = .ok (.value (.slice (some ⟨W.heap.size, 0, none⟩) 1 1)) (W.alloc (.cells #[.slice ad n c] 30)) := by
  unfold execOp
  simp only [ho, hx, Sem.run_bind, Sem.run_pure, Result.andThen_ok]
  go_simp
theorem exec_idxP (W : World) (ρ : Operand → Value) (o : Oper) (x y : Operand) (ho : o.op = .indexAddr 35 x y) (g X len c : Nat) (hx : ρ x = .slice (some ⟨g, 0, none⟩) len c) (hy : ρ y = .int .i64 (X : Int)) (h : X < len) :
    (execOp ρ o).run Tryd.prog W = .ok (.value (.pointer (some ⟨g, X, none⟩))) W := by
  have h1 : (0 : Int) ≤ (X : Int) := by omega
  have h2 : (X : Int) < (len : Int) := by omega
  unfold execOp
  simp only [ho, hx, hy, Sem.run_bind, Sem.run_pure, Result.andThen_ok]
  go_simp
theorem exec_idxI (W : World) (ρ : Operand → Value) (o : Oper) (x y : Operand) (ho : o.op = .indexAddr 30 x y) (g X len c : Nat) (hx : ρ x = .slice (some ⟨g, 0, none⟩) len c) (hy : ρ y = .int .i64 (X : Int)) (h : X < len) :
    (execOp ρ o).run Tryd.prog W = .ok (.value (.pointer (some ⟨g, X, none⟩))) W := by
  have h1 : (0 : Int) ≤ (X : Int) := by omega
  have h2 : (X : Int) < (len : Int) := by omega
  unfold execOp
  simp only [ho, hx, hy, Sem.run_bind, Sem.run_pure, Result.andThen_ok]
  go_simp
theorem wpOp_pushI {W : World} {ops : Array Oper} {i : Nat} {o : Oper} {a : Act} {K : Act → World → Prop} {Q : Exit → Act → World → Prop} (hio : ops[i]? = some o) (hw : Region.wanted o (yielded ops a.tmps) = true) (hgd : o.guard = none) (s x : Operand)
    (ho : o.op = .call { callee := .builtin .append, args := #[s, x], argTypes := #[30, 30] })
    (base : Nat) (v : Value) (n : Nat) (xs : List Value) (hs : a.eval s = v) (hown : W.ownsRow base 3 1 v n xs) (z : Int) (ad : Nat) (had : ad = W.heap.size) (hx : a.eval x = .slice (some ⟨ad, 0, none⟩) 1 1) (hb : (n + 1) * 8 ≤ 140737488355328) (hbase : base ≤ W.heap.size)
    (h : ∀ g cap w', w'.ownsRow base 3 1 (.slice (some ⟨g, 0, none⟩) (n + 1) cap) (n + 1) (xs ++ [.int .i64 z]) → But (fun b => v.ownBlock = some b) W w' → (∀ b, (Value.slice (some ⟨g, 0, none⟩) (n + 1) cap).ownBlock = some b → v.ownBlock = some b ∨ W.heap.size ≤ b) → K (a.put o.dst (.slice (some ⟨g, 0, none⟩) (n + 1) cap)) w') :
    wpOp Tryd.prog ops Q i K a (W.alloc (.cells #[.int .i64 z] 3)) := by
  obtain ⟨i0, hi, hz0, hz1, hz2⟩ := info_parts Tryd.infoIntL
  refine wpOp_wp hio hw ?_
  have := step_pushk (ops := ops) (E := True) (Q := Q) hgd s x 30 3 ho i0 (.int .i64 0) 1 8 Tryd.underlying30 hi hz0 hz1 hz2 rfl (by decide) base v n xs hs hown #[.int .i64 z] rfl (by intro y hy; simp at hy; subst hy; rfl) ad had hx hb (by decide) hbase h
  rwa [if_pos hw] at this
theorem wpOp_pushP {W : World} {ops : Array Oper} {i : Nat} {o : Oper} {a : Act} {K : Act → World → Prop} {Q : Exit → Act → World → Prop} (hio : ops[i]? = some o) (hw : Region.wanted o (yielded ops a.tmps) = true) (hgd : o.guard = none) (s x : Operand)
    (ho : o.op = .call { callee := .builtin .append, args := #[s, x], argTypes := #[35, 35] })
    (base : Nat) (v : Value) (n : Nat) (xs : List Value) (hs : a.eval s = v) (hown : W.ownsRow base 30 1 v n xs) (ad' : Option Addr) (m c : Nat) (ad : Nat) (had : ad = W.heap.size) (hx : a.eval x = .slice (some ⟨ad, 0, none⟩) 1 1) (hb : (n + 1) * 24 ≤ 140737488355328) (hbase : base ≤ W.heap.size)
    (h : ∀ g cap w', w'.ownsRow base 30 1 (.slice (some ⟨g, 0, none⟩) (n + 1) cap) (n + 1) (xs ++ [.slice ad' m c]) → But (fun b => v.ownBlock = some b) W w' → (∀ b, (Value.slice (some ⟨g, 0, none⟩) (n + 1) cap).ownBlock = some b → v.ownBlock = some b ∨ W.heap.size ≤ b) → K (a.put o.dst (.slice (some ⟨g, 0, none⟩) (n + 1) cap)) w') :
    wpOp Tryd.prog ops Q i K a (W.alloc (.cells #[.slice ad' m c] 30)) := by
  obtain ⟨i0, hi, hz0, hz1, hz2⟩ := info_parts Tryd.infoIntS
  refine wpOp_wp hio hw ?_
  have := step_pushk (ops := ops) (E := True) (Q := Q) hgd s x 35 30 ho i0 (.slice none 0 0) 1 24 Tryd.underlying35 hi hz0 hz1 hz2 rfl (by decide) base v n xs hs hown #[.slice ad' m c] rfl (by intro y hy; simp at hy; subst hy; rfl) ad had hx hb (by decide) hbase h
  rwa [if_pos hw] at this
end Go.Proofs.YtmnfioghhdgciaaDoor
