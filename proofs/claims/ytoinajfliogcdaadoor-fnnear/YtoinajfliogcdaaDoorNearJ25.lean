import Derived.Test.YtoinajfliogcdaaDoorNearJ24
import Derived.Test.YtoinajfliogcdaaDoorNearJ15
namespace Go.Proofs.YtoinajfliogcdaaDoor
open Go Go.RowKit
set_option linter.unusedVariables false
set_option linter.unusedSimpArgs false
set_option maxRecDepth 100000

def HoldO (W : World) (g3 : Nat) (v : Value) (zs : List Int) : Prop :=
 ∃ g off cap cur, v = .slice (some ⟨g, off, none⟩) zs.length cap ∧ W.heap[g]? = some (.cells cur 3) ∧ g ≠ g3 ∧ ∀ t, t < zs.length → W.cell? ⟨g, off + t, none⟩ = some (.int .i64 (zs.getD t 0))
theorem HoldO.keep {W W' : World} {g3 : Nat} {v : Value} {zs : List Int} {X : Nat → Prop} (h : HoldO W g3 v zs) (hb : But X W W') (hX : ∀ b, X b → b = g3 ∨ ∀ cur, W.heap[b]? ≠ some (.cells cur 3)) : HoldO W' g3 v zs := by
 obtain ⟨g, off, cap, cur, rfl, h1, h2, h3⟩ := h
 have hg := (Array.getElem?_eq_some_iff.1 h1).1
 have hn : ¬ X g := fun hx => by
  rcases hX g hx with e | e
  ·exact h2 e
  ·exact e cur h1
 refine ⟨g, off, cap, cur, rfl, (hb.block g hg hn).trans h1, h2, fun t ht => ?_⟩
 rw [hb.cell (p := ⟨g, off + t, none⟩) hg hn]
 exact h3 t ht
theorem HoldO.below {W W' : World} {g3 : Nat} {v : Value} {zs : List Int} (h : HoldO W g3 v zs) (hb : Below W.heap.size W W') : HoldO W' g3 v zs := h.keep (X := fun _ => False) (But.of_below hb) (fun b hx => hx.elim)
theorem HoldO.own {W : World} {base g3 : Nat} {v : Value} {zs : List Int} (h : W.ownsRow base 3 1 v zs.length (zI zs)) (hne : zs ≠ []) (hg : g3 < base) : HoldO W g3 v zs := by
 have hp : 0 < zs.length := List.length_pos_iff.2 hne
 obtain ⟨g, cap, rfl⟩ := own_posk h hp
 obtain ⟨h1, cur, h2⟩ := own_blk h (b := g) rfl
 refine ⟨g, 0, cap, cur, rfl, h2, by omega, fun t ht => ?_⟩
 obtain ⟨g', o', e, _, hc⟩ := (HoldI.own h).cells ht
 simp only [Option.some.injEq, Addr.mk.injEq, and_true] at e
 obtain ⟨rfl, rfl⟩ := e
 exact hc
structure Pd (W0 W : World) (base sk sb : Nat) (vmk vk vp : Value) (Ks : List Int) (us : List Value) (gs : List (List Nat)) (vm0 vmem0 vm vmem : Value) (Tr : List (Int × Nat × Nat)) (G : List Mng) : Prop where
 ks : SetAt keyI W W0.heap.size sk vmk vk Ks
 ksb : W0.heap.size ≤ sk
 pr : W.ownsRow W0.heap.size 30 1 vp us.length us
 rows : ∃ R, RowsF W W0.heap.size R ∧ R 0 = some (vk, Ks) ∧ ∀ j u g, us[j]? = some u → gs[j]? = some g → R (j + 1) = some (u, nat2 g)
 len : us.length = gs.length
 ts : SetAt keyT W base sb vm vmem Tr
 tr : TrOK Tr G
 dis : ∀ b, SetB sk vmk vk b → ¬ SetB sb vm vmem b
 but : But (SetB sb vm0 vmem0) W0 W
 hat : ∀ b, SetB sb vm vmem b → SetB sb vm0 vmem0 b ∨ W0.heap.size ≤ b
section
variable {W0 W W1 : World} {base sk sb : Nat} {vmk vk vp : Value} {Ks : List Int} {us : List Value} {gs : List (List Nat)} {vm0 vmem0 vm vmem : Value} {Tr : List (Int × Nat × Nat)} {G : List Mng}
theorem setT_types (h : SetAt keyT W base sb vm vmem Tr) {b : Nat} {cs : Array Value} {t : TypeId} (hB : SetB sb vm vmem b) (hh : W.heap[b]? = some (.cells cs t)) : t = 169 ∨ t = 209 := by
 rcases (h.blk hB).2 with ⟨c, h1⟩ | ⟨es, c, h1⟩ | ⟨c, h1⟩
 ·rw [hh] at h1; simp only [Option.some.injEq, Obj.cells.injEq] at h1; exact Or.inl h1.2.1
 ·rw [hh] at h1; cases h1
 ·rw [hh] at h1; simp only [Option.some.injEq, Obj.cells.injEq] at h1; exact Or.inr h1.2.1
theorem setI_types (h : SetAt keyI W base sk vmk vk Ks) {b : Nat} {cs : Array Value} {t : TypeId} (hB : SetB sk vmk vk b) (hh : W.heap[b]? = some (.cells cs t)) : t = 177 ∨ t = 3 := by
 rcases (h.blk hB).2 with ⟨c, h1⟩ | ⟨es, c, h1⟩ | ⟨c, h1⟩
 ·rw [hh] at h1; simp only [Option.some.injEq, Obj.cells.injEq] at h1; exact Or.inl h1.2.1
 ·rw [hh] at h1; cases h1
 ·rw [hh] at h1; simp only [Option.some.injEq, Obj.cells.injEq] at h1; exact Or.inr h1.2.1
theorem Pd.trait (h : Pd W0 W base sk sb vmk vk vp Ks us gs vm0 vmem0 vm vmem Tr G) {vm' vmem' : Value} {Tr' : List (Int × Nat × Nat)} {G' : List Mng} (hs : SetAt keyT W1 base sb vm' vmem' Tr') (ht : TrOK Tr' G') (hb : But (SetB sb vm vmem) W W1) (hat : ∀ b, SetB sb vm' vmem' b → SetB sb vm vmem b ∨ W.heap.size ≤ b) : Pd W0 W1 base sk sb vmk vk vp Ks us gs vm0 vmem0 vm' vmem' Tr' G' := by
 refine ⟨h.ks.but hb h.dis, h.ksb, own_congr h.pr (fun b hk => ?_), ?_, h.len, hs, ht, fun b hB hB' => ?_, ?_, fun b hB => ?_⟩
 ·obtain ⟨_, cur, h2⟩ := own_blk h.pr hk
  refine hb.block b (Array.getElem?_eq_some_iff.1 h2).1 (fun hx => ?_)
  rcases setT_types h.ts hx h2 with e | e <;> exact absurd e (by decide)
 ·obtain ⟨R, h1, h2, h3⟩ := h.rows
  refine ⟨R, h1.but hb (fun b hx cur e => ?_), h2, h3⟩
  rcases setT_types h.ts hx e with e | e <;> exact absurd e (by decide)
 ·rcases hat b hB' with h1 | h1
  ·exact h.dis b hB h1
  ·have := (h.ks.blk hB).1; omega
 ·refine ⟨hb.os.trans h.but.os, hb.tape.trans h.but.tape, hb.output.trans h.but.output, Nat.le_trans h.but.size hb.size, fun b hb' hnB => ?_⟩
  rw [hb.block b (Nat.lt_of_lt_of_le hb' h.but.size) (fun hB => ?_), h.but.block b hb' hnB]
  rcases h.hat b hB with h1 | h1
  ·exact hnB h1
  ·omega
 ·rcases hat b hB with h1 | h1
  ·exact h.hat b h1
  ·exact Or.inr (Nat.le_trans h.but.size h1)
theorem Pd.place (h : Pd W0 W base sk sb vmk vk vp Ks us gs vm0 vmem0 vm vmem Tr G) {vmk' vk' : Value} {Ks' : List Int} (hs : SetAt keyI W1 W0.heap.size sk vmk' vk' Ks') (hb : But (SetB sk vmk vk) W W1) (hat : ∀ b, vk'.ownBlock = some b → vk.ownBlock = some b ∨ W.heap.size ≤ b) (hat2 : ∀ b, vmk' = .map (some b) → vmk = .map (some b) ∨ W.heap.size ≤ b) : Pd W0 W1 base sk sb vmk' vk' vp Ks' us gs vm0 vmem0 vm vmem Tr G := by
 have hge : ∀ b, SetB sk vmk vk b → W0.heap.size ≤ b := fun b hB => by
  rcases h.ks.from_ hB with e | e
  ·rw [e]; exact h.ksb
  ·exact e
 refine ⟨hs, h.ksb, own_congr h.pr (fun b hk => ?_), ?_, h.len, h.ts.but hb (fun b hB hB' => h.dis b hB' hB), h.tr, fun b hB hB' => ?_, ?_, h.hat⟩
 ·obtain ⟨_, cur, h2⟩ := own_blk h.pr hk
  refine hb.block b (Array.getElem?_eq_some_iff.1 h2).1 (fun hx => ?_)
  rcases setI_types h.ks hx h2 with e | e <;> exact absurd e (by decide)
 ·obtain ⟨R, h1, h2, h3⟩ := h.rows
  refine ⟨upd R 0 (some (vk', Ks')), h1.place h2 h.ks hs hb hat, upd_same _ _ _, fun j u g hj hg => ?_⟩
  rw [upd_other _ _ (by omega)]
  exact h3 j u g hj hg
 ·have hlt := (h.ts.blk hB').1
  rcases hB with e | e | e
  ·exact h.dis b (Or.inl e) hB'
  ·rcases hat2 b e with h1 | h1
   ·exact h.dis b (Or.inr (Or.inl h1)) hB'
   ·omega
  ·rcases hat b e with h1 | h1
   ·exact h.dis b (Or.inr (Or.inr h1)) hB'
   ·omega
 ·refine ⟨hb.os.trans h.but.os, hb.tape.trans h.but.tape, hb.output.trans h.but.output, Nat.le_trans h.but.size hb.size, fun b hb' hnB => ?_⟩
  rw [hb.block b (Nat.lt_of_lt_of_le hb' h.but.size) (fun hB => by have := hge b hB; omega), h.but.block b hb' hnB]
theorem Pd.more (h : Pd W0 W base sk sb vmk vk vp Ks us gs vm0 vmem0 vm vmem Tr G) {vp' : Value} (hb : But (fun b => vp.ownBlock = some b) W W1) (ho : W1.ownsRow W0.heap.size 30 1 vp' (us.length + 1) (us ++ [nilS])) : Pd W0 W1 base sk sb vmk vk vp' Ks (us ++ [nilS]) (gs ++ [[]]) vm0 vmem0 vm vmem Tr G := by
 have hne : ∀ b, vp.ownBlock = some b → ∀ cs t, W.heap[b]? = some (.cells cs t) → t = 30 := fun b hk cs t hh => by
  obtain ⟨_, cur, h2⟩ := own_blk h.pr hk
  rw [hh] at h2
  simp only [Option.some.injEq, Obj.cells.injEq] at h2
  exact h2.2.1
 have hc : ∀ b, vp.ownBlock = some b → ∃ cs, W.heap[b]? = some (.cells cs 30) := fun b hk => (own_blk h.pr hk).2
 refine ⟨h.ks.but hb (fun b hB hk => ?_), h.ksb, by rw [List.length_append, List.length_singleton]; exact ho, ?_, by rw [List.length_append, List.length_append, h.len]; rfl, h.ts.but hb (fun b hB hk => ?_), h.tr, h.dis, ?_, h.hat⟩
 ·obtain ⟨cs, h1⟩ := hc b hk
  rcases setI_types h.ks hB h1 with e | e <;> exact absurd e (by decide)
 ·obtain ⟨R, h1, h2, h3⟩ := h.rows
  have h1' : RowsF W1 W0.heap.size R := h1.but hb (fun b hk cur e => absurd (hne b hk cur _ e) (by decide))
  refine ⟨upd R (us.length + 1) (some (nilS, [])), ⟨fun a u zs ha => ?_, fun a b u zs x ys hab ha hb' => ?_⟩, by rw [upd_other _ _ (by omega)]; exact h2, fun j u g hj hg => ?_⟩
  ·by_cases e : a = us.length + 1
   ·rw [e, upd_same] at ha; cases ha; exact World.ownsRow_nil _ _ _ _
   ·rw [upd_other _ _ e] at ha; exact h1'.own a u zs ha
  ·by_cases e : a = us.length + 1
   ·rw [e, upd_same] at ha; cases ha; exact Or.inl rfl
   ·rw [upd_other _ _ e] at ha
    by_cases e2 : b = us.length + 1
    ·rw [e2, upd_same] at hb'; cases hb'
     cases hu : u.ownBlock with
     | none => exact Or.inl rfl
     | some k => exact Or.inr (by simp [Value.ownBlock])
    ·rw [upd_other _ _ e2] at hb'; exact h1'.apart a b u zs x ys hab ha hb'
  ·by_cases e : j < us.length
   ·rw [upd_other _ _ (by omega)]
    rw [List.getElem?_append_left e] at hj
    rw [List.getElem?_append_left (by rw [← h.len]; exact e)] at hg
    exact h3 j u g hj hg
   ·have hjl : j = us.length := by have := (List.getElem?_eq_some_iff.1 hj).1; simp at this; omega
    subst hjl
    rw [upd_same]
    have e1 : u = nilS := by simpa using hj.symm
    have e2 : g = [] := by rw [h.len] at hg; simpa using hg.symm
    rw [e1, e2]; rfl
 ·obtain ⟨cs, h1⟩ := hc b hk
  rcases setT_types h.ts hB h1 with e | e <;> exact absurd e (by decide)
 ·refine ⟨hb.os.trans h.but.os, hb.tape.trans h.but.tape, hb.output.trans h.but.output, Nat.le_trans h.but.size hb.size, fun b hb' hnB => ?_⟩
  rw [hb.block b (Nat.lt_of_lt_of_le hb' h.but.size) (fun hk => by have := (own_blk h.pr hk).1; omega), h.but.block b hb' hnB]
theorem Pd.push (h : Pd W0 W base sk sb vmk vk vp Ks us gs vm0 vmem0 vm vmem Tr G) {j q : Nat} {u u' : Value} {g : List Nat} {gp cp : Nat} (hvp : vp = .slice (some ⟨gp, 0, none⟩) us.length cp) (hj : us[j]? = some u) (hg : gs[j]? = some g) (hb : But (fun b => u.ownBlock = some b) W W1) (ho : W1.ownsRow W0.heap.size 3 1 u' (g.length + 1) (zI (nat2 g) ++ [.int .i64 (q : Int)])) (hat : ∀ b, u'.ownBlock = some b → u.ownBlock = some b ∨ W.heap.size ≤ b) (hone : u'.oneCell' = true) :
  Pd W0 (W1.setCell ⟨gp, j, none⟩ u') base sk sb vmk vk vp Ks (us.set j u') (gs.set j (g ++ [q])) vm0 vmem0 vm vmem Tr G ∧ W1.ownsRow W0.heap.size 30 1 vp us.length us := by
 obtain ⟨R, h1, h2, h3⟩ := h.rows
 have hR := h3 j u g hj hg
 have hown := h1.own (j + 1) u (nat2 g) hR
 have hint : ∀ b, u.ownBlock = some b → ∃ cs, W.heap[b]? = some (.cells cs 3) := fun b hk => (own_blk hown hk).2
 have hjl := (List.getElem?_eq_some_iff.1 hj).1
 have hpr1 : W1.ownsRow W0.heap.size 30 1 vp us.length us := own_congr h.pr (fun b hk => by
  obtain ⟨_, cur, hh⟩ := own_blk h.pr hk
  refine hb.block b (Array.getElem?_eq_some_iff.1 hh).1 (fun hx => ?_)
  obtain ⟨cs, h4⟩ := hint b hx
  exact blk_ne hh h4 (by decide) rfl)
 have hgp := own_blk hpr1 (b := gp) (by rw [hvp]; rfl)
 obtain ⟨hgp1, curp, hgp2⟩ := hgp
 have hks1 : SetAt keyI W1 W0.heap.size sk vmk vk Ks := h.ks.but hb (fun b hB hk => by
  obtain ⟨cs, h4⟩ := hint b hk
  rcases setI_X h.ks b hB with h5 | h5
  ·rcases h1.apart 0 (j + 1) vk Ks u (nat2 g) (by omega) h2 hR with h6 | h6
   ·rw [h5] at h6; cases h6
   ·exact h6 (h5.trans hk.symm)
  ·exact h5 cs h4)
 have hts1 : SetAt keyT W1 base sb vm vmem Tr := h.ts.but hb (fun b hB hk => by
  obtain ⟨cs, h4⟩ := hint b hk
  rcases setT_types h.ts hB h4 with e | e <;> exact absurd e (by decide))
 have hrow1 : RowsF W1 W0.heap.size (upd R (j + 1) (some (u', nat2 (g ++ [q])))) := h1.growB hR hb (by
  rw [nat2_app, show nat2 [q] = [(q : Int)] from rfl, zI_snoc, List.length_append, nat2_len, List.length_singleton]
  exact ho) hat
 refine ⟨⟨?_, h.ksb, ?_, ?_, by rw [List.length_set, List.length_set, h.len], ?_, h.tr, h.dis, ?_, h.hat⟩, hpr1⟩
 ·refine hks1.keep (fun b hB => heap_set_other _ _ _ _ _ ?_)
  rintro rfl
  rcases setI_types hks1 hB hgp2 with e | e <;> exact absurd e (by decide)
 ·rw [List.length_set]
  subst hvp
  refine ⟨by rw [List.length_set]; exact hpr1.1, ?_⟩
  rcases hpr1.2 with ⟨h', _⟩ | ⟨g', c', cur, k1, k2, k3, k4, k5, k6, k7⟩
  ·simp at h'
  ·simp only [Value.slice.injEq, Option.some.injEq, Addr.mk.injEq, and_true, true_and] at k1
   obtain ⟨rfl, rfl⟩ := k1
   refine Or.inr ⟨gp, cp, cur.setIfInBounds j u', rfl, k2, blk_setk k3 j _, k4, k5, by simpa using k6, ?_⟩
   rw [Array.toList_setIfInBounds, List.take_set, k7]
 ·refine ⟨upd R (j + 1) (some (u', nat2 (g ++ [q]))), hrow1.but ((But.refl (fun b => b = gp) W1).set gp j u' rfl) (fun b hB cur e => ?_), by rw [upd_other _ _ (by omega)]; exact h2, fun i v k hi hk => ?_⟩
  ·subst hB
   exact blk_ne hgp2 e (by decide) rfl
  ·by_cases e : i = j
   ·subst e
    rw [upd_same]
    rw [List.getElem?_set_self hjl] at hi
    rw [List.getElem?_set_self (by rw [← h.len]; exact hjl)] at hk
    cases hi; cases hk; rfl
   ·rw [upd_other _ _ (by omega)]
    rw [List.getElem?_set_ne (Ne.symm e)] at hi hk
    exact h3 i v k hi hk
 ·refine hts1.keep (fun b hB => heap_set_other _ _ _ _ _ ?_)
  rintro rfl
  rcases setT_types hts1 hB hgp2 with e | e <;> exact absurd e (by decide)
 ·refine ⟨hb.os.trans h.but.os, hb.tape.trans h.but.tape, hb.output.trans h.but.output, by have := Nat.le_trans h.but.size hb.size; simpa [World.setCell] using this, fun b hb' hnB => ?_⟩
  rw [heap_set_other _ _ _ _ _ (by omega), hb.block b (Nat.lt_of_lt_of_le hb' h.but.size) (fun hk => by have := (own_blk hown hk).1; omega), h.but.block b hb' hnB]
end
end Go.Proofs.YtoinajfliogcdaaDoor
