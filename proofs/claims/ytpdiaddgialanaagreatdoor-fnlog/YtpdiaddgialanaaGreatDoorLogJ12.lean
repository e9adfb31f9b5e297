import Derived.Test.YtpdiaddgialanaaGreatDoorLogJ11
namespace Go.Proofs.YtpdiaddgialanaaGreatDoor
open Go Go.RowKit
set_option linter.unusedVariables false
set_option linter.unusedSimpArgs false
set_option maxRecDepth 100000

/-! A document is bent. -/
def SmB (V : List Vl) : Prop := V.length ≤ 6 ∧ ∀ x ∈ V, x.1.length ≤ 8 ∧ x.2.1.length ≤ 3 ∧ (∀ t ∈ x.2.1, t.length ≤ 5000) ∧ x.2.2.length ≤ 50
def DrawnBt (w : World) (base b : Nat) (ao : Option Addr) (n cap : Nat) (A : Int) (e : Ending) (w' : World) : Prop :=
  ∃ (did' : List UInt8) (a : Option Addr) (c : Nat) (V' : List Vl) (ys' : List Value), e = .returned (.agg #[.string ⟨did'.toArray⟩, .slice a V'.length c]) ∧ did'.length ≤ 40 ∧ DocV w' base (.slice a V'.length c) V' ys' ∧ SmB V' ∧ Sx b ao n cap w' A ∧ Below base w w' ∧ KeepR w w'
/-- What is there behind the bending. -/
def BF (w : World) (base b : Nat) (ao : Option Addr) (n cap : Nat) (A : Int) (g3 g4 : Nat) (W : World) : Prop :=
  ∃ (did' : List UInt8) (dv' : Value) (V' : List Vl) (ys' : List Value), did'.length ≤ 40 ∧ SmB V' ∧ Sx b ao n cap W A ∧ Below base w W ∧ W.heap[g3]? = some (.cells #[.string ⟨did'.toArray⟩, dv'] 26) ∧ W.heap[g4]? = some (.cells #[.string ⟨#[]⟩, .slice none 0 0] 26) ∧ DocV W base dv' V' ys' ∧ KeepR w W
theorem BD.bf {w W : World} {base b : Nat} {ao : Option Addr} {n cap : Nat} {A A' : Int} {g3 g4 : Nat} {did : List UInt8} {dv : Value} {V : List Vl} {ys : List Value} (h : BD w base b ao n cap A g3 g4 did dv V ys W) (hd : did.length ≤ 40) (hV : SmB V) (hA : A ≤ A') : BF w base b ao n cap A' g3 g4 W :=
  ⟨did, dv, V, ys, hd, hV, h.src.mono hA, h.bel, h.box, h.res, h.doc.v, h.kr⟩
theorem SmV.b {V : List Vl} (h : SmV V) : SmB V := ⟨by have := h.1; omega, fun x hx => by
  obtain ⟨h1, h2, h3, h4⟩ := h.2 x hx
  exact ⟨h1, by omega, fun t ht => by have := h3 t ht; omega, by omega⟩⟩
theorem SmV.at {V : List Vl} (h : SmV V) {k : Nat} (hk : k < V.length) : (V.getD k vl0).1.length ≤ 8 ∧ (V.getD k vl0).2.1.length ≤ 2 ∧ (∀ t ∈ (V.getD k vl0).2.1, t.length ≤ 1000) ∧ (V.getD k vl0).2.2.length ≤ 2 := h.2 _ (by
  rw [List.getD_eq_getElem?_getD, List.getElem?_eq_getElem hk]
  exact List.getElem_mem hk)
theorem SmB.set {V : List Vl} (h : SmV V) (k : Nat) (x : Vl) (hx : x.1.length ≤ 8 ∧ x.2.1.length ≤ 3 ∧ (∀ t ∈ x.2.1, t.length ≤ 5000) ∧ x.2.2.length ≤ 50) : SmB (V.set k x) := ⟨by rw [List.length_set]; exact h.b.1, fun y hy => by
  rcases List.mem_or_eq_of_mem_set hy with hy | rfl
  · exact h.b.2 y hy
  · exact hx⟩
theorem tab3_at {W : World} {q : Nat} (y : Nat) (hy : y < 3) {t0 t1 t2 : List UInt8} (L : Nat) (h0 : t0.length ≤ L) (h1 : t1.length ≤ L) (h2 : t2.length ≤ L) (h : W.heap[q]? = some (.cells #[.string ⟨t0.toArray⟩, .string ⟨t1.toArray⟩, .string ⟨t2.toArray⟩] 9)) : ∃ tl : List UInt8, tl.length ≤ L ∧ W.cell? ⟨q, y, none⟩ = some (.string ⟨tl.toArray⟩) := by
  rcases (by omega : y = 0 ∨ y = 1 ∨ y = 2) with rfl | rfl | rfl
  · exact ⟨t0, h0, blkc h 0⟩
  · exact ⟨t1, h1, blkc h 1⟩
  · exact ⟨t2, h2, blkc h 2⟩
theorem tab4_at {W : World} {q : Nat} (y : Nat) (hy : y < 4) {t0 t1 t2 t3 : List UInt8} (L : Nat) (h0 : t0.length ≤ L) (h1 : t1.length ≤ L) (h2 : t2.length ≤ L) (h3 : t3.length ≤ L) (h : W.heap[q]? = some (.cells #[.string ⟨t0.toArray⟩, .string ⟨t1.toArray⟩, .string ⟨t2.toArray⟩, .string ⟨t3.toArray⟩] 9)) : ∃ tl : List UInt8, tl.length ≤ L ∧ W.cell? ⟨q, y, none⟩ = some (.string ⟨tl.toArray⟩) := by
  rcases (by omega : y = 0 ∨ y = 1 ∨ y = 2 ∨ y = 3) with rfl | rfl | rfl | rfl
  · exact ⟨t0, h0, blkc h 0⟩
  · exact ⟨t1, h1, blkc h 1⟩
  · exact ⟨t2, h2, blkc h 2⟩
  · exact ⟨t3, h3, blkc h 3⟩
theorem tabZ_at {W : World} {q : Nat} (y : Nat) (hy : y < 5) {z0 z1 z2 z3 z4 : Int} (h : W.heap[q]? = some (.cells #[.int .i64 z0, .int .i64 z1, .int .i64 z2, .int .i64 z3, .int .i64 z4] 3)) : ∃ zl : Int, W.cell? ⟨q, y, none⟩ = some (.int .i64 zl) := by
  rcases (by omega : y = 0 ∨ y = 1 ∨ y = 2 ∨ y = 3 ∨ y = 4) with rfl | rfl | rfl | rfl | rfl
  · exact ⟨z0, blkc h 0⟩
  · exact ⟨z1, blkc h 1⟩
  · exact ⟨z2, blkc h 2⟩
  · exact ⟨z3, blkc h 3⟩
  · exact ⟨z4, blkc h 4⟩
theorem snoc5 {T : List (List UInt8)} {x : List UInt8} (h : ∀ t ∈ T, t.length ≤ 5000) (hx : x.length ≤ 5000) : ∀ t ∈ T ++ [x], t.length ≤ 5000 := fun t ht => by
  rcases List.mem_append.1 ht with ht | ht
  · exact h t ht
  · rw [List.mem_singleton.1 ht]; exact hx
theorem frozen_row {W : World} {base e sz gv m c N : Nat} {xs : List Value} (h : W.ownsRow base e sz (.slice (some ⟨gv, 0, none⟩) m c) N xs) (hm : m = N) (j : Nat) : W.frozen? ⟨gv, j, none⟩ = false := by
  subst hm
  exact h.frozenAt j
section
variable {w W W' : World} {base b : Nat} {ao : Option Addr} {n cap : Nat} {A A' : Int} {g3 g4 gv m c k : Nat} {did f : List UInt8} {V : List Vl} {ys : List Value} {T : List (List UInt8)} {Z : List Int}
theorem BD.rowT {v : Value} (h : BD w base b ao n cap A g3 g4 did (.slice (some ⟨gv, 0, none⟩) m c) V ys W) (hm : m = V.length) (hk : k < m) (hv : ys[k * 3 + 1]? = some v) (hx : V.getD k vl0 = (f, T, Z)) : W.ownsRow base 9 1 v T.length (sC T) := by
  obtain ⟨_, ⟨v1, q1, q2⟩, _⟩ := h.doc.val k (by omega)
  rw [hv] at q1
  cases q1
  rw [hx] at q2
  exact q2
theorem BD.rowZ {v : Value} (h : BD w base b ao n cap A g3 g4 did (.slice (some ⟨gv, 0, none⟩) m c) V ys W) (hm : m = V.length) (hk : k < m) (hv : ys[k * 3 + 2]? = some v) (hx : V.getD k vl0 = (f, T, Z)) : W.ownsRow base 3 1 v Z.length (zC Z) := by
  obtain ⟨_, _, v2, q3, q4⟩ := h.doc.val k (by omega)
  rw [hv] at q3
  cases q3
  rw [hx] at q4
  exact q4
/-- What the loads find is there behind the growth of a row. -/
theorem BD.sbG {u0 u1 u2 v : Value} {e nn r : Nat} {xs : List Value} (h : BD w base b ao n cap A g3 g4 did (.slice (some ⟨gv, 0, none⟩) m c) V ys W) (hm : m = V.length) (hk : k < m) (h0 : ys[k * 3]? = some u0) (h1 : ys[k * 3 + 1]? = some u1) (h2 : ys[k * 3 + 2]? = some u2) (hv : ys[k * 3 + r]? = some v) (hr : W.ownsRow base e 1 v nn xs) (he : e ≠ 88 ∧ e ≠ 26) (hg : W.grownBy W' v.ownBlock) :
    SB g3 gv k (.slice (some ⟨gv, 0, none⟩) m c) u0 u1 u2 W' ∧ ∀ j, W'.frozen? ⟨gv, j, none⟩ = false := by
  subst hm
  have hrow := h.doc.row
  have hrow' : W'.ownsRow base 88 3 (.slice (some ⟨gv, 0, none⟩) V.length c) V.length ys := own_congr hrow fun y hy => hg.block y (own_ltL hrow hy) (fun e' => own_apartL hrow hr (Ne.symm he.1) hy e'.symm)
  have hbx : W'.heap[g3]? = _ := (but_own hg).blk h.box (own_apartB hr h.box he.2)
  exact ⟨⟨blkc hbx 1, (hrow'.cellAt (k * 3) (by omega)).trans h0, (hrow'.cellAt (k * 3 + 1) (by omega)).trans h1, (hrow'.cellAt (k * 3 + 2) (by omega)).trans h2⟩, fun j => hrow'.frozenAt j⟩
end
section
variable {w W W' : World} {base b : Nat} {ao : Option Addr} {n cap : Nat} {A A' : Int} {g3 g4 gv m c k : Nat} {did f : List UInt8} {V : List Vl} {ys : List Value}
theorem SmB.setB {V : List Vl} (h : SmB V) (k : Nat) (x : Vl) (hx : x.1.length ≤ 8 ∧ x.2.1.length ≤ 3 ∧ (∀ t ∈ x.2.1, t.length ≤ 5000) ∧ x.2.2.length ≤ 50) : SmB (V.set k x) := ⟨by rw [List.length_set]; exact h.1, fun y hy => by
  rcases List.mem_or_eq_of_mem_set hy with hy | rfl
  · exact h.2 y hy
  · exact hx⟩
theorem BD.dupBF {u0 u1 u2 dv' : Value} (h : BD w base b ao n cap A g3 g4 did (.slice (some ⟨gv, 0, none⟩) m c) V ys W) (hm : m = V.length) (hk : k < m) (h0 : ys[k * 3]? = some u0) (h1 : ys[k * 3 + 1]? = some u1) (h2 : ys[k * 3 + 2]? = some u2) (ho : W'.ownsRow base 88 3 dv' (m + 1) (ys ++ [u0, u1, u2])) (hg : W.grownBy W' (Value.slice (some ⟨gv, 0, none⟩) m c).ownBlock) (hd : did.length ≤ 40) (hV : SmV V) (hA : A ≤ A') : BF w base b ao n cap A' g3 g4 (W'.setCell ⟨g3, 1, none⟩ dv') := by
  subst hm
  have hrow := h.doc.row
  have hb := but_own hg
  have hgv := own_blk hrow rfl
  have k3 : W'.heap[g3]? = _ := hb.blk h.box (own_apartB hrow h.box (by decide))
  have k4 : W'.heap[g4]? = _ := hb.blk h.res (own_apartB hrow h.res (by decide))
  have hX : ∀ x, x < base → ¬ ((Value.slice (some ⟨gv, 0, none⟩) V.length c).ownBlock = some x) := fun x hx e => by have := (own_blk hrow e).1; omega
  have hs : Sx b ao n cap W' A := h.src.butN hb (fun e => by
    obtain ⟨_, cur, hc⟩ := own_blk hrow e
    exact h.src.neT hc (by decide) rfl) (fun j hj => by
    obtain ⟨blk, off, q1, q2⟩ := h.cb j hj
    exact ⟨blk, off, q1, Nat.lt_of_lt_of_le q2 h.size, hX blk q2⟩)
  have hbel : Below base w W' := h.bel.trans (hb.below h.size hX)
  have hxl := h.xl
  refine ⟨did, dv', V ++ [V.getD k vl0], ys ++ [u0, u1, u2], hd, ⟨by have := hV.1; simp; omega, fun x hx => ?_⟩, (hs.set g3 1 _ (hs.neT k3 (by decide)) (fun j hj => by
    obtain ⟨blk, off, q1, q2⟩ := h.cb j hj
    exact ⟨blk, off, q1, by omega⟩)).mono hA, hbel.setCell (p := ⟨g3, 1, none⟩) hxl _, blk_setk k3 1 _, (heap_set_other _ _ _ _ _ h.ne).trans k4, (h.doc.dup hk h0 h1 h2 ho hg).keep (KeepD.set k3 (by decide) (by decide) (by decide)), fun g cs hg' => ?_⟩
  rotate_left
  · have h1 := h.kr g cs hg'
    have h2 := hb.blk h1 (own_apartB hrow h1 (by decide))
    refine (heap_set_other _ _ _ _ _ (fun e => ?_)).trans h2
    rw [e, k3] at h2
    injection h2 with h2
    injection h2 with _ h2
    exact absurd h2 (by decide)
  rcases List.mem_append.1 hx with hx | hx
  · exact hV.b.2 x hx
  · rw [List.mem_singleton.1 hx]
    obtain ⟨q1, q2, q3, q4⟩ := hV.at hk
    exact ⟨q1, by omega, fun t ht => by have := q3 t ht; omega, by omega⟩
/-- The two stores of the answer. -/
theorem BF.end {did' : List UInt8} {V' : List Vl} {ys' : List Value} {a' : Option Addr} {N c' : Nat} (hN : V'.length = N) (hd : did'.length ≤ 40) (hV : SmB V') (hs : Sx b ao n cap W A) (hb : Below base w W) (h4 : W.heap[g4]? = some (.cells #[.string ⟨#[]⟩, .slice none 0 0] 26)) (hdv : DocV W base (.slice a' N c') V' ys') (h4b : base ≤ g4) (hcb : ∀ j, j < n → ∃ blk off, ao = some ⟨blk, off, none⟩ ∧ blk < base) (hkr : KeepR w W) (hA : A ≤ A') :
    DrawnBt w base b ao n cap A' (.returned (.agg #[.string ⟨did'.toArray⟩, .slice a' N c'])) ((W.setCell ⟨g4, 0, none⟩ (.string ⟨did'.toArray⟩)).setCell ⟨g4, 1, none⟩ (.slice a' N c')) := by
  subst hN
  have hn4 : g4 ≠ b := hs.neT h4 (by decide)
  have hc : ∀ j, j < n → ∃ blk off, ao = some ⟨blk, off, none⟩ ∧ blk ≠ g4 := fun j hj => by
    obtain ⟨blk, off, q1, q2⟩ := hcb j hj
    exact ⟨blk, off, q1, by omega⟩
  exact ⟨did', a', c', V', ys', rfl, hd, hdv.keep ((KeepD.set (k := 0) (u := .string ⟨did'.toArray⟩) h4 (by decide) (by decide) (by decide)).trans (KeepD.set (k := 1) (u := .slice a' V'.length c') (blk_setk h4 0 (.string ⟨did'.toArray⟩)) (by decide) (by decide) (by decide))), hV, ((hs.set g4 0 _ hn4 hc).set g4 1 _ hn4 hc).mono hA, (hb.setCell (p := ⟨g4, 0, none⟩) h4b _).setCell (p := ⟨g4, 1, none⟩) h4b _, fun g cs hg => by
    have h1 := hkr g cs hg
    have hne : g ≠ g4 := fun e => by
      rw [e, h4] at h1
      injection h1 with h1
      injection h1 with _ h1
      exact absurd h1 (by decide)
    rw [heap_set_other _ _ _ _ _ hne, heap_set_other _ _ _ _ _ hne]
    exact h1⟩
end
set_option maxHeartbeats 16000000 in
theorem bentDoc_any (b : Nat) (ao : Option Addr) (n cap : Nat) (A : Int) (w : World) (base : Nat) (did : List UInt8) (dv : Value) (V : List Vl) (ys : List Value) (hn : n ≤ 1048576) (hA : A ≤ 100000) (hs : Sx b ao n cap w A) (hcb : ∀ j, j < n → ∃ blk off, ao = some ⟨blk, off, none⟩ ∧ blk < base) (hbs : base ≤ w.heap.size) (hbb : base ≤ b) (hdoc : DocO w base dv V ys) (hSm : SmV V) (hdl : did.length ≤ 3) :
    Calls Tryz.prog 16 #[.pointer (some ⟨b, 0, none⟩), .agg #[.string ⟨did.toArray⟩, dv]] w (DrawnBt w base b ao n cap (A + 200)) := by
  obtain ⟨ad, cd, rfl⟩ := own_slice hdoc.row
  obtain ⟨NV, hNV⟩ : ∃ N, V.length = N := ⟨_, rfl⟩
  rw [hNV] at hdoc ⊢
  have HNV := hidd hNV
  have HSm := hidd hSm
  have hN5 : NV ≤ 5 := by have := hSm.1; omega
  have HB0 : Hid (Below w.heap.size w ((w.alloc (.cells #[.string ⟨did.toArray⟩, .slice ad NV cd] 26)).alloc (.cells #[.string ⟨#[]⟩, .slice none 0 0] 26))) := ((Below.refl _ _).alloc (Nat.le_refl _) _).alloc (by simp) _
  have HD0 : Hid (BD w base b ao n cap A w.heap.size (w.heap.size + 1) did (.slice ad NV cd) V ys ((w.alloc (.cells #[.string ⟨did.toArray⟩, .slice ad NV cd] 26)).alloc (.cells #[.string ⟨#[]⟩, .slice none 0 0] 26))) := by
    refine ⟨hs.below HB0.out, HB0.out.mono hbs, (Below.heap_alloc _ _ _ (by simp)).trans (heap_alloc_new w _), ?_, hdoc.keep (KeepD.below HB0.out), hbs, hbb, hbs, by omega, by omega, hcb, fun g cs hg => blko hg HB0.out⟩
    have := heap_alloc_new (w.alloc (.cells #[.string ⟨did.toArray⟩, .slice ad NV cd] 26)) (.cells #[.string ⟨#[]⟩, .slice none 0 0] 26)
    simpa using this
  clear hs hcb hdoc hSm HB0 hNV
  go_enter Tryz.func16, Tryz.ntmps16
  go_upto_region 1 with fail
  obtain ⟨g3, hg3⟩ : ∃ g, w.heap.size = g := ⟨_, rfl⟩
  obtain ⟨g4, hg4⟩ : ∃ g, w.heap.size + 1 = g := ⟨_, rfl⟩
  rw [hg4, hg3] at HD0
  simp only [hg4]
  simp only [hg3]
  clear hg3 hg4
  generalize (w.alloc (.cells #[.string ⟨did.toArray⟩, .slice ad NV cd] 26)).alloc (.cells #[.string ⟨#[]⟩, .slice none 0 0] 26) = w1 at *
  have z0 := blkc HD0.out.box 0
  have z1 := blkc HD0.out.box 1
  simp only [List.getElem?_toArray, List.getElem?_cons_zero, List.getElem?_cons_succ] at z0 z1
  by_cases hV0 : NV = 0
  · subst hV0
    have r0 := blkc HD0.out.res 0
    have r1 := blkc HD0.out.res 1
    have f0 := blkf HD0.out.res 0
    have f1 := blkf HD0.out.res 1
    simp only [List.getElem?_toArray, List.getElem?_cons_zero, List.getElem?_cons_succ] at r0 r1
    go_wp2
    have k1 := blk_setk (blk_setk HD0.out.res 0 (.string ⟨did.toArray⟩)) 1 (.slice ad 0 cd)
    have hfin := BF.end (did' := did) (A' := A + 200) HNV.out (by omega) HSm.out.b HD0.out.src HD0.out.bel HD0.out.res HD0.out.doc.v HD0.out.rl HD0.out.cb HD0.out.kr (by omega)
    refine bodyPost_ret (v := .agg #[.string ⟨did.toArray⟩, .slice ad 0 cd]) ?_ rfl hfin
    clear hfin z0 z1 r0 r1 f0 f1
    generalize (w1.setCell ⟨g4, 0, none⟩ (.string ⟨did.toArray⟩)).setCell ⟨g4, 1, none⟩ (.slice ad 0 cd) = wf at *
    have z0 := blkc k1 0
    have z1 := blkc k1 1
    simp at z0 z1
    simp [results, Tryz.results16, go_sem, z0, z1]
  · have hVz : ((NV : Int) == 0) = false := by simp; omega
    obtain ⟨gv, rfl⟩ : ∃ gv, ad = some ⟨gv, 0, none⟩ := by
      rcases HD0.out.doc.row.2 with ⟨_, h2⟩ | ⟨g, cap', cur, h1, _⟩
      · exact absurd h2 (by have := HNV.out; omega)
      · injection h1 with h1
        exact ⟨g, h1⟩
    go_wp2_with fail
    refine (nextS HD0.out.src hn (by omega) NV (by omega) (by omega)).mono ?_
    rintro e w2 ⟨k, rfl, hk, hs2, hb2⟩
    have HD1 := hidd (HD0.out.draw hs2 hb2)
    clear hs2 hb2 HD0 z0 z1
    have hkN : k < NV := by omega
    go_upto_block 0 with (go_at_call 14; refine (nextS HD1.out.src hn (by omega) 14 (by omega) (by omega)).mono ?_; rintro e w3 ⟨r, rfl, hr, hs3, hb3⟩)
    have HD2 := hidd (HD1.out.draw hs3 hb3)
    clear hs3 hb3 HD1
    have HM : Hid (NV = V.length) := HNV.out.symm
    obtain ⟨⟨f, T, Z⟩, hX⟩ : ∃ x, V.getD k vl0 = x := ⟨_, rfl⟩
    have HX := hidd hX
    have HXb : Hid (f.length ≤ 8 ∧ T.length ≤ 2 ∧ (∀ t ∈ T, t.length ≤ 1000) ∧ Z.length ≤ 2) := by
      have := HSm.out.at (k := k) (by have := HM.out; omega)
      rw [hX] at this
      exact this
    obtain ⟨q0, ⟨v1, q1, q2⟩, v2, q3, q4⟩ := HD2.out.doc.val k (by have := HM.out; omega)
    rw [hX] at q0 q2 q4
    obtain ⟨a1, c1, rfl⟩ := own_slice q2
    obtain ⟨a2, c2, rfl⟩ := own_slice q4
    have HQ0 : Hid (ys[k * 3]? = some (.string ⟨f.toArray⟩)) := q0
    have HQ1 : Hid (ys[k * 3 + 1]? = some (.slice a1 T.length c1)) := q1
    have HQ2 : Hid (ys[k * 3 + 2]? = some (.slice a2 Z.length c2)) := q3
    clear q0 q1 q2 q3 q4 hX
    have hTl : T.length ≤ 2 := HXb.out.2.1
    have hZl : Z.length ≤ 2 := HXb.out.2.2.2
    obtain ⟨rz, hrz⟩ : ∃ z : Int, (r : Int) = z := ⟨_, rfl⟩
    simp only [hrz]
    clear hrz
    go_cut [] (fun wy => BF w base b ao n cap (A + 150) g3 g4 wy)
    case first =>
      by_cases h1 : rz = 1
      · subst h1
        go_upto_region 8 with fail
        refine wp_region_E (SB g3 gv k (.slice (some ⟨gv, 0, none⟩) NV cd) (.string ⟨f.toArray⟩) (.slice a1 T.length c1) (.slice a2 Z.length c2)) 10 (by kernel_rfl) ?_
        have hbd : Below w3.heap.size w3 ({ heap := w3.heap, tape := w3.tape, drawn := w3.drawn + 1, os := w3.os, output := w3.output } : World) := (Below.refl _ _).drew
        generalize ({ heap := w3.heap, tape := w3.tape, drawn := w3.drawn + 1, os := w3.os, output := w3.output } : World) = wd1 at *
        have H2 := hidd (HD2.out.below hbd)
        clear hbd
        try simp only [Act.put, List.getElem_toArray, List.getElem_cons_succ, List.getElem_cons_zero, List.setIfInBounds_toArray, List.set_cons_zero, List.set_cons_succ]
        refine ekP 0 (hS := (H2.out.sb HM.out hkN HQ0.out HQ1.out HQ2.out)) (h := ?_)
        try simp only [Act.put, List.getElem_toArray, List.getElem_cons_succ, List.getElem_cons_zero, List.setIfInBounds_toArray, List.set_cons_zero, List.set_cons_succ]
        refine ekL 1 [8, 9, 10] (v := (.slice (some ⟨gv, 0, none⟩) NV cd)) (hx := fun u hu => exec_ldV u _ _ _ rfl g3 1 _ ⟨_, _, _, rfl⟩ (by kernel_rfl) hu.1) (hS := (H2.out.sb HM.out hkN HQ0.out HQ1.out HQ2.out)) (h := ?_)
        try simp only [Act.put, List.getElem_toArray, List.getElem_cons_succ, List.getElem_cons_zero, List.setIfInBounds_toArray, List.set_cons_zero, List.set_cons_succ]
        refine ekP 2 (hS := (H2.out.sb HM.out hkN HQ0.out HQ1.out HQ2.out)) (h := ?_)
        try simp only [Act.put, List.getElem_toArray, List.getElem_cons_succ, List.getElem_cons_zero, List.setIfInBounds_toArray, List.set_cons_zero, List.set_cons_succ]
        refine ekP 4 (hS := (H2.out.sb HM.out hkN HQ0.out HQ1.out HQ2.out)) (h := ?_)
        try simp only [Act.put, List.getElem_toArray, List.getElem_cons_succ, List.getElem_cons_zero, List.setIfInBounds_toArray, List.set_cons_zero, List.set_cons_succ]
        refine wpAnyE_two 3 5 (by kernel_rfl) ?_ ?_
        · refine wpOp_val _ _ rfl (by kernel_rfl) (exec_bx3S _ _ _ _ _ _ rfl ⟨#[]⟩ ⟨#[110, 111, 112, 101]⟩ ⟨#[122, 122, 122]⟩ (by kernel_rfl) (by kernel_rfl) (by kernel_rfl)) ?_
          have q6l : Hid (b < wd1.heap.size) := H2.out.src.lt
          have hba : Below wd1.heap.size wd1 (wd1.alloc (.cells #[.string ⟨#[]⟩, .string ⟨#[110, 111, 112, 101]⟩, .string ⟨#[122, 122, 122]⟩] 9)) := (Below.refl _ _).alloc (Nat.le_refl _) _
          have H4 := hidd (H2.out.below hba)
          have T5 := hidd (heap_alloc_new wd1 (.cells #[.string ⟨#[]⟩, .string ⟨#[110, 111, 112, 101]⟩, .string ⟨#[122, 122, 122]⟩] 9))
          clear hba
          refine ⟨Or.inr (H4.out.sb HM.out hkN HQ0.out HQ1.out HQ2.out), ?_⟩
          try simp only [Act.put, List.getElem_toArray, List.getElem_cons_succ, List.getElem_cons_zero, List.setIfInBounds_toArray, List.set_cons_zero, List.set_cons_succ]
          obtain ⟨q6, hq6⟩ : ∃ g, wd1.heap.size = g := ⟨_, rfl⟩
          rw [hq6] at T5 q6l
          simp only [hq6]
          clear hq6
          generalize wd1.alloc (.cells #[.string ⟨#[]⟩, .string ⟨#[110, 111, 112, 101]⟩, .string ⟨#[122, 122, 122]⟩] 9) = w3 at *
          refine wpAnyE_one 5 (by kernel_rfl) ?_
          refine wpOp_call 14 #[.pointer (some ⟨b, 0, none⟩), .int .i64 3] rfl (by kernel_rfl) (rbx_call2 _ _ _ _ _ _ _ _ rfl _ _ (by kernel_rfl) (by kernel_rfl) (Tryz.call14 _ _)) ?_
          refine (nextS H4.out.src hn (by omega) 3 (by omega) (by omega)).mono ?_
          rintro e' w7 ⟨y, rfl, hy, hsd, hbb⟩
          have H8 := hidd (H4.out.draw hsd hbb)
          have T9 := hidd (hbb.blk T5.out (fun e => by have := q6l.out; omega))
          clear hsd hbb
          obtain ⟨tl, htl, hcl⟩ := tab3_at y (by omega) (t0 := []) (t1 := [110, 111, 112, 101]) (t2 := [122, 122, 122]) 8 (by decide) (by decide) (by decide) T9.out
          refine ⟨Or.inr (H8.out.sb HM.out hkN HQ0.out HQ1.out HQ2.out), ?_⟩
          try simp only [Act.put, List.getElem_toArray, List.getElem_cons_succ, List.getElem_cons_zero, List.setIfInBounds_toArray, List.set_cons_zero, List.set_cons_succ]
          refine ekP 6 (v := .pointer (some ⟨q6, y, none⟩)) (hx := fun u => exec_ixS u _ _ _ _ rfl q6 y 3 (by kernel_rfl) (by kernel_rfl) (by omega) (by omega)) (hS := (H8.out.sb HM.out hkN HQ0.out HQ1.out HQ2.out)) (h := ?_)
          try simp only [Act.put, List.getElem_toArray, List.getElem_cons_succ, List.getElem_cons_zero, List.setIfInBounds_toArray, List.set_cons_zero, List.set_cons_succ]
          refine wpAnyE_one 7 (by kernel_rfl) ?_
          refine wpOp_val _ _ rfl (by kernel_rfl) (exec_ldStr _ _ _ _ rfl q6 y ⟨tl.toArray⟩ (by kernel_rfl) hcl) ?_
          refine ⟨Or.inr (H8.out.sb HM.out hkN HQ0.out HQ1.out HQ2.out), ?_⟩
          try simp only [Act.put, List.getElem_toArray, List.getElem_cons_succ, List.getElem_cons_zero, List.setIfInBounds_toArray, List.set_cons_zero, List.set_cons_succ]
          refine ekP 8 (v := .pointer (some ⟨gv, k * 3, none⟩)) (hx := fun u => exec_ixV u _ _ _ _ rfl gv k NV cd (by kernel_rfl) (by kernel_rfl) hkN (by omega)) (hS := (H8.out.sb HM.out hkN HQ0.out HQ1.out HQ2.out)) (h := ?_)
          try simp only [Act.put, List.getElem_toArray, List.getElem_cons_succ, List.getElem_cons_zero, List.setIfInBounds_toArray, List.set_cons_zero, List.set_cons_succ]
          refine ekP 9 (hS := (H8.out.sb HM.out hkN HQ0.out HQ1.out HQ2.out)) (h := ?_)
          try simp only [Act.put, List.getElem_toArray, List.getElem_cons_succ, List.getElem_cons_zero, List.setIfInBounds_toArray, List.set_cons_zero, List.set_cons_succ]
          refine wpAnyE_one 10 (by kernel_rfl) ?_
          refine wpOp_skip _ rfl (by kernel_rfl) (exec_stStr _ _ _ _ _ rfl gv (k * 3 + 0) ⟨tl.toArray⟩ _ (by kernel_rfl) (by kernel_rfl) (H8.out.sb HM.out hkN HQ0.out HQ1.out HQ2.out).2.1 (frozen_row H8.out.doc.row HM.out (k * 3))) ?_
          have HE := hidd ((H8.out.setF HM.out (by have := HM.out; omega) tl).bf (by omega) (SmB.set HSm.out k _ (by rw [HX.out]; exact ⟨htl, by show T.length ≤ 3; omega, fun t ht => by have := HXb.out.2.2.1 t ht; omega, by show Z.length ≤ 50; omega⟩)) (A' := A + 150) (by omega))
          refine ⟨Or.inl (by kernel_rfl), ?_⟩
          try simp only [Act.put, List.getElem_toArray, List.getElem_cons_succ, List.getElem_cons_zero, List.setIfInBounds_toArray, List.set_cons_zero, List.set_cons_succ]
          refine wpAnyE_done (by kernel_rfl) ?_ _
          go_wp2_with fail
          go_meet
          case rel => exact HE.out
        · refine wpOp_call 14 #[.pointer (some ⟨b, 0, none⟩), .int .i64 3] rfl (by kernel_rfl) (rbx_call2 _ _ _ _ _ _ _ _ rfl _ _ (by kernel_rfl) (by kernel_rfl) (Tryz.call14 _ _)) ?_
          refine (nextS H2.out.src hn (by omega) 3 (by omega) (by omega)).mono ?_
          rintro e' w10 ⟨y, rfl, hy, hsd, hbb⟩
          have H11 := hidd (H2.out.draw hsd hbb)
          clear hsd hbb
          refine ⟨Or.inr (H11.out.sb HM.out hkN HQ0.out HQ1.out HQ2.out), ?_⟩
          try simp only [Act.put, List.getElem_toArray, List.getElem_cons_succ, List.getElem_cons_zero, List.setIfInBounds_toArray, List.set_cons_zero, List.set_cons_succ]
          refine wpAnyE_one 3 (by kernel_rfl) ?_
          refine wpOp_val _ _ rfl (by kernel_rfl) (exec_bx3S _ _ _ _ _ _ rfl ⟨#[]⟩ ⟨#[110, 111, 112, 101]⟩ ⟨#[122, 122, 122]⟩ (by kernel_rfl) (by kernel_rfl) (by kernel_rfl)) ?_
          have q15l : Hid (b < w10.heap.size) := H11.out.src.lt
          have hba : Below w10.heap.size w10 (w10.alloc (.cells #[.string ⟨#[]⟩, .string ⟨#[110, 111, 112, 101]⟩, .string ⟨#[122, 122, 122]⟩] 9)) := (Below.refl _ _).alloc (Nat.le_refl _) _
          have H13 := hidd (H11.out.below hba)
          have T14 := hidd (heap_alloc_new w10 (.cells #[.string ⟨#[]⟩, .string ⟨#[110, 111, 112, 101]⟩, .string ⟨#[122, 122, 122]⟩] 9))
          clear hba
          refine ⟨Or.inr (H13.out.sb HM.out hkN HQ0.out HQ1.out HQ2.out), ?_⟩
          try simp only [Act.put, List.getElem_toArray, List.getElem_cons_succ, List.getElem_cons_zero, List.setIfInBounds_toArray, List.set_cons_zero, List.set_cons_succ]
          obtain ⟨q15, hq15⟩ : ∃ g, w10.heap.size = g := ⟨_, rfl⟩
          rw [hq15] at T14 q15l
          simp only [hq15]
          clear hq15
          generalize w10.alloc (.cells #[.string ⟨#[]⟩, .string ⟨#[110, 111, 112, 101]⟩, .string ⟨#[122, 122, 122]⟩] 9) = w12 at *
          obtain ⟨tl, htl, hcl⟩ := tab3_at y (by omega) (t0 := []) (t1 := [110, 111, 112, 101]) (t2 := [122, 122, 122]) 8 (by decide) (by decide) (by decide) T14.out
          refine ekP 6 (v := .pointer (some ⟨q15, y, none⟩)) (hx := fun u => exec_ixS u _ _ _ _ rfl q15 y 3 (by kernel_rfl) (by kernel_rfl) (by omega) (by omega)) (hS := (H13.out.sb HM.out hkN HQ0.out HQ1.out HQ2.out)) (h := ?_)
          try simp only [Act.put, List.getElem_toArray, List.getElem_cons_succ, List.getElem_cons_zero, List.setIfInBounds_toArray, List.set_cons_zero, List.set_cons_succ]
          refine wpAnyE_one 7 (by kernel_rfl) ?_
          refine wpOp_val _ _ rfl (by kernel_rfl) (exec_ldStr _ _ _ _ rfl q15 y ⟨tl.toArray⟩ (by kernel_rfl) hcl) ?_
          refine ⟨Or.inr (H13.out.sb HM.out hkN HQ0.out HQ1.out HQ2.out), ?_⟩
          try simp only [Act.put, List.getElem_toArray, List.getElem_cons_succ, List.getElem_cons_zero, List.setIfInBounds_toArray, List.set_cons_zero, List.set_cons_succ]
          refine ekP 8 (v := .pointer (some ⟨gv, k * 3, none⟩)) (hx := fun u => exec_ixV u _ _ _ _ rfl gv k NV cd (by kernel_rfl) (by kernel_rfl) hkN (by omega)) (hS := (H13.out.sb HM.out hkN HQ0.out HQ1.out HQ2.out)) (h := ?_)
          try simp only [Act.put, List.getElem_toArray, List.getElem_cons_succ, List.getElem_cons_zero, List.setIfInBounds_toArray, List.set_cons_zero, List.set_cons_succ]
          refine ekP 9 (hS := (H13.out.sb HM.out hkN HQ0.out HQ1.out HQ2.out)) (h := ?_)
          try simp only [Act.put, List.getElem_toArray, List.getElem_cons_succ, List.getElem_cons_zero, List.setIfInBounds_toArray, List.set_cons_zero, List.set_cons_succ]
          refine wpAnyE_one 10 (by kernel_rfl) ?_
          refine wpOp_skip _ rfl (by kernel_rfl) (exec_stStr _ _ _ _ _ rfl gv (k * 3 + 0) ⟨tl.toArray⟩ _ (by kernel_rfl) (by kernel_rfl) (H13.out.sb HM.out hkN HQ0.out HQ1.out HQ2.out).2.1 (frozen_row H13.out.doc.row HM.out (k * 3))) ?_
          have HE := hidd ((H13.out.setF HM.out (by have := HM.out; omega) tl).bf (by omega) (SmB.set HSm.out k _ (by rw [HX.out]; exact ⟨htl, by show T.length ≤ 3; omega, fun t ht => by have := HXb.out.2.2.1 t ht; omega, by show Z.length ≤ 50; omega⟩)) (A' := A + 150) (by omega))
          refine ⟨Or.inl (by kernel_rfl), ?_⟩
          try simp only [Act.put, List.getElem_toArray, List.getElem_cons_succ, List.getElem_cons_zero, List.setIfInBounds_toArray, List.set_cons_zero, List.set_cons_succ]
          refine wpAnyE_done (by kernel_rfl) ?_ _
          go_wp2_with fail
          go_meet
          case rel => exact HE.out

      · have h1b : (rz == 1) = false := by simpa using h1
        by_cases h2 : rz = 2
        · subst h2
          go_upto_region 10 with fail
          refine wp_region_E (SB g3 gv k (.slice (some ⟨gv, 0, none⟩) NV cd) (.string ⟨f.toArray⟩) (.slice a1 T.length c1) (.slice a2 Z.length c2)) 27 (by kernel_rfl) ?_
          have hbd : Below w3.heap.size w3 ({ heap := w3.heap, tape := w3.tape, drawn := w3.drawn + 1, os := w3.os, output := w3.output } : World) := (Below.refl _ _).drew
          generalize ({ heap := w3.heap, tape := w3.tape, drawn := w3.drawn + 1, os := w3.os, output := w3.output } : World) = wd16 at *
          have H17 := hidd (HD2.out.below hbd)
          clear hbd
          try simp only [Act.put, List.getElem_toArray, List.getElem_cons_succ, List.getElem_cons_zero, List.setIfInBounds_toArray, List.set_cons_zero, List.set_cons_succ]
          refine ekP 0 (hS := (H17.out.sb HM.out hkN HQ0.out HQ1.out HQ2.out)) (h := ?_)
          try simp only [Act.put, List.getElem_toArray, List.getElem_cons_succ, List.getElem_cons_zero, List.setIfInBounds_toArray, List.set_cons_zero, List.set_cons_succ]
          refine ekL 1 [25, 26, 27] (v := (.slice (some ⟨gv, 0, none⟩) NV cd)) (hx := fun u hu => exec_ldV u _ _ _ rfl g3 1 _ ⟨_, _, _, rfl⟩ (by kernel_rfl) hu.1) (hS := (H17.out.sb HM.out hkN HQ0.out HQ1.out HQ2.out)) (h := ?_)
          try simp only [Act.put, List.getElem_toArray, List.getElem_cons_succ, List.getElem_cons_zero, List.setIfInBounds_toArray, List.set_cons_zero, List.set_cons_succ]
          refine ekP 2 (hS := (H17.out.sb HM.out hkN HQ0.out HQ1.out HQ2.out)) (h := ?_)
          try simp only [Act.put, List.getElem_toArray, List.getElem_cons_succ, List.getElem_cons_zero, List.setIfInBounds_toArray, List.set_cons_zero, List.set_cons_succ]
          refine ekP 3 (hS := (H17.out.sb HM.out hkN HQ0.out HQ1.out HQ2.out)) (h := ?_)
          try simp only [Act.put, List.getElem_toArray, List.getElem_cons_succ, List.getElem_cons_zero, List.setIfInBounds_toArray, List.set_cons_zero, List.set_cons_succ]
          refine ekL 4 [6, 7, 8, 24, 27] (v := (.slice (some ⟨gv, 0, none⟩) NV cd)) (hx := fun u hu => exec_ldV u _ _ _ rfl g3 1 _ ⟨_, _, _, rfl⟩ (by kernel_rfl) hu.1) (hS := (H17.out.sb HM.out hkN HQ0.out HQ1.out HQ2.out)) (h := ?_)
          try simp only [Act.put, List.getElem_toArray, List.getElem_cons_succ, List.getElem_cons_zero, List.setIfInBounds_toArray, List.set_cons_zero, List.set_cons_succ]
          refine ekP 5 (hS := (H17.out.sb HM.out hkN HQ0.out HQ1.out HQ2.out)) (h := ?_)
          try simp only [Act.put, List.getElem_toArray, List.getElem_cons_succ, List.getElem_cons_zero, List.setIfInBounds_toArray, List.set_cons_zero, List.set_cons_succ]
          refine ekP 6 (v := .pointer (some ⟨gv, k * 3, none⟩)) (hx := fun u => exec_ixV u _ _ _ _ rfl gv k NV cd (by kernel_rfl) (by kernel_rfl) hkN (by omega)) (hS := (H17.out.sb HM.out hkN HQ0.out HQ1.out HQ2.out)) (h := ?_)
          try simp only [Act.put, List.getElem_toArray, List.getElem_cons_succ, List.getElem_cons_zero, List.setIfInBounds_toArray, List.set_cons_zero, List.set_cons_succ]
          refine ekP 7 (hS := (H17.out.sb HM.out hkN HQ0.out HQ1.out HQ2.out)) (h := ?_)
          try simp only [Act.put, List.getElem_toArray, List.getElem_cons_succ, List.getElem_cons_zero, List.setIfInBounds_toArray, List.set_cons_zero, List.set_cons_succ]
          refine ekL 8 [24, 27] (v := (.slice a1 T.length c1)) (hx := fun u hu => exec_ldS u _ _ _ rfl gv (k * 3 + 1) _ ⟨_, _, _, rfl⟩ (by kernel_rfl) hu.2.2.1) (hS := (H17.out.sb HM.out hkN HQ0.out HQ1.out HQ2.out)) (h := ?_)
          try simp only [Act.put, List.getElem_toArray, List.getElem_cons_succ, List.getElem_cons_zero, List.setIfInBounds_toArray, List.set_cons_zero, List.set_cons_succ]
          refine ekP 9 (hS := (H17.out.sb HM.out hkN HQ0.out HQ1.out HQ2.out)) (h := ?_)
          try simp only [Act.put, List.getElem_toArray, List.getElem_cons_succ, List.getElem_cons_zero, List.setIfInBounds_toArray, List.set_cons_zero, List.set_cons_succ]
          refine ekP 13 (hS := (H17.out.sb HM.out hkN HQ0.out HQ1.out HQ2.out)) (h := ?_)
          try simp only [Act.put, List.getElem_toArray, List.getElem_cons_succ, List.getElem_cons_zero, List.setIfInBounds_toArray, List.set_cons_zero, List.set_cons_succ]
          refine ekP 19 (hS := (H17.out.sb HM.out hkN HQ0.out HQ1.out HQ2.out)) (h := ?_)
          try simp only [Act.put, List.getElem_toArray, List.getElem_cons_succ, List.getElem_cons_zero, List.setIfInBounds_toArray, List.set_cons_zero, List.set_cons_succ]
          refine wpAnyE_one 10 (by kernel_rfl) ?_
          refine wpOp_call 14 #[.pointer (some ⟨b, 0, none⟩), .int .i64 2] rfl (by kernel_rfl) (rbx_call2 _ _ _ _ _ _ _ _ rfl _ _ (by kernel_rfl) (by kernel_rfl) (Tryz.call14 _ _)) ?_
          refine (nextS H17.out.src hn (by omega) 2 (by omega) (by omega)).mono ?_
          rintro e' w18 ⟨y1, rfl, hy1, hsd, hbb⟩
          have H19 := hidd (H17.out.draw hsd hbb)
          clear hsd hbb
          obtain ⟨K1, hK1⟩ : ∃ K : Nat, 64 + (y1 : Int) = (K : Int) := ⟨64 + y1, by omega⟩
          have hwa : IntKind.i64.wrap (K1 : Int) = (K1 : Int) := by rw [IntKind.wrap_i64]; omega
          refine ⟨Or.inr (H19.out.sb HM.out hkN HQ0.out HQ1.out HQ2.out), ?_⟩
          try simp only [Act.put, List.getElem_toArray, List.getElem_cons_succ, List.getElem_cons_zero, List.setIfInBounds_toArray, List.set_cons_zero, List.set_cons_succ]
          refine ekP 11 (v := .int .i64 (K1 : Int)) (hS := (H19.out.sb HM.out hkN HQ0.out HQ1.out HQ2.out)) (h := ?_)
          try simp only [Act.put, List.getElem_toArray, List.getElem_cons_succ, List.getElem_cons_zero, List.setIfInBounds_toArray, List.set_cons_zero, List.set_cons_succ]
          refine wpAnyE_one 12 (by kernel_rfl) ?_
          refine wpOp_call 35 #[.string ⟨#[116]⟩, .int .i64 (K1 : Int)] rfl (by kernel_rfl) (rbx_call2 _ _ _ _ _ _ _ _ rfl _ _ (by kernel_rfl) (by kernel_rfl) (Tryz.call35 _ _)) ?_
          refine (repeatS ⟨#[116]⟩ K1 w18 (by decide) (by omega)).mono ?_
          rintro e' w20 ⟨l1, rfl, hl1', hbb⟩
          have hl1 : l1.length ≤ K1 := by have h1 : (⟨#[116]⟩ : ByteArray).size = 1 := rfl; rw [h1] at hl1'; omega
          have H21 := hidd (H19.out.below hbb)
          clear hbb hl1'
          refine ⟨Or.inr (H21.out.sb HM.out hkN HQ0.out HQ1.out HQ2.out), ?_⟩
          try simp only [Act.put, List.getElem_toArray, List.getElem_cons_succ, List.getElem_cons_zero, List.setIfInBounds_toArray, List.set_cons_zero, List.set_cons_succ]
          refine wpAnyE_one 14 (by kernel_rfl) ?_
          refine wpOp_call 14 #[.pointer (some ⟨b, 0, none⟩), .int .i64 2] rfl (by kernel_rfl) (rbx_call2 _ _ _ _ _ _ _ _ rfl _ _ (by kernel_rfl) (by kernel_rfl) (Tryz.call14 _ _)) ?_
          refine (nextS H21.out.src hn (by omega) 2 (by omega) (by omega)).mono ?_
          rintro e' w22 ⟨y2, rfl, hy2, hsd, hbb⟩
          have H23 := hidd (H21.out.draw hsd hbb)
          clear hsd hbb
          obtain ⟨K2, hK2⟩ : ∃ K : Nat, 4000 + (y2 : Int) = (K : Int) := ⟨4000 + y2, by omega⟩
          have hwb : IntKind.i64.wrap (K2 : Int) = (K2 : Int) := by rw [IntKind.wrap_i64]; omega
          obtain ⟨K3, hK3⟩ : ∃ K : Nat, (K2 : Int) - 20 = (K : Int) := ⟨K2 - 20, by omega⟩
          have hwc : IntKind.i64.wrap (K3 : Int) = (K3 : Int) := by rw [IntKind.wrap_i64]; omega
          refine ⟨Or.inr (H23.out.sb HM.out hkN HQ0.out HQ1.out HQ2.out), ?_⟩
          try simp only [Act.put, List.getElem_toArray, List.getElem_cons_succ, List.getElem_cons_zero, List.setIfInBounds_toArray, List.set_cons_zero, List.set_cons_succ]
          refine ekP 15 (v := .int .i64 (K2 : Int)) (hS := (H23.out.sb HM.out hkN HQ0.out HQ1.out HQ2.out)) (h := ?_)
          try simp only [Act.put, List.getElem_toArray, List.getElem_cons_succ, List.getElem_cons_zero, List.setIfInBounds_toArray, List.set_cons_zero, List.set_cons_succ]
          refine ekP 16 (v := .int .i64 (K3 : Int)) (hS := (H23.out.sb HM.out hkN HQ0.out HQ1.out HQ2.out)) (h := ?_)
          try simp only [Act.put, List.getElem_toArray, List.getElem_cons_succ, List.getElem_cons_zero, List.setIfInBounds_toArray, List.set_cons_zero, List.set_cons_succ]
          refine wpAnyE_one 17 (by kernel_rfl) ?_
          refine wpOp_call 35 #[.string ⟨#[117]⟩, .int .i64 (K3 : Int)] rfl (by kernel_rfl) (rbx_call2 _ _ _ _ _ _ _ _ rfl _ _ (by kernel_rfl) (by kernel_rfl) (Tryz.call35 _ _)) ?_
          refine (repeatS ⟨#[117]⟩ K3 w22 (by decide) (by omega)).mono ?_
          rintro e' w24 ⟨l2, rfl, hl2', hbb⟩
          have hl2 : l2.length ≤ K3 := by have h1 : (⟨#[117]⟩ : ByteArray).size = 1 := rfl; rw [h1] at hl2'; omega
          have H25 := hidd (H23.out.below hbb)
          clear hbb hl2'
          refine ⟨Or.inr (H25.out.sb HM.out hkN HQ0.out HQ1.out HQ2.out), ?_⟩
          try simp only [Act.put, List.getElem_toArray, List.getElem_cons_succ, List.getElem_cons_zero, List.setIfInBounds_toArray, List.set_cons_zero, List.set_cons_succ]
          refine wpAnyE_two 18 20 (by kernel_rfl) ?_ ?_
          · refine wpOp_val _ _ rfl (by kernel_rfl) (exec_bx4S _ _ _ _ _ _ _ rfl ⟨#[]⟩ ⟨#[255]⟩ ⟨l1.toArray⟩ ⟨l2.toArray⟩ (by kernel_rfl) (by kernel_rfl) (by kernel_rfl) (by kernel_rfl)) ?_
            have q29l : Hid (b < w24.heap.size) := H25.out.src.lt
            have hba : Below w24.heap.size w24 (w24.alloc (.cells #[.string ⟨#[]⟩, .string ⟨#[255]⟩, .string ⟨l1.toArray⟩, .string ⟨l2.toArray⟩] 9)) := (Below.refl _ _).alloc (Nat.le_refl _) _
            have H27 := hidd (H25.out.below hba)
            have T28 := hidd (heap_alloc_new w24 (.cells #[.string ⟨#[]⟩, .string ⟨#[255]⟩, .string ⟨l1.toArray⟩, .string ⟨l2.toArray⟩] 9))
            clear hba
            refine ⟨Or.inr (H27.out.sb HM.out hkN HQ0.out HQ1.out HQ2.out), ?_⟩
            try simp only [Act.put, List.getElem_toArray, List.getElem_cons_succ, List.getElem_cons_zero, List.setIfInBounds_toArray, List.set_cons_zero, List.set_cons_succ]
            obtain ⟨q29, hq29⟩ : ∃ g, w24.heap.size = g := ⟨_, rfl⟩
            rw [hq29] at T28 q29l
            simp only [hq29]
            clear hq29
            generalize w24.alloc (.cells #[.string ⟨#[]⟩, .string ⟨#[255]⟩, .string ⟨l1.toArray⟩, .string ⟨l2.toArray⟩] 9) = w26 at *
            refine wpAnyE_one 20 (by kernel_rfl) ?_
            refine wpOp_call 14 #[.pointer (some ⟨b, 0, none⟩), .int .i64 4] rfl (by kernel_rfl) (rbx_call2 _ _ _ _ _ _ _ _ rfl _ _ (by kernel_rfl) (by kernel_rfl) (Tryz.call14 _ _)) ?_
            refine (nextS H27.out.src hn (by omega) 4 (by omega) (by omega)).mono ?_
            rintro e' w30 ⟨y, rfl, hy, hsd, hbb⟩
            have H31 := hidd (H27.out.draw hsd hbb)
            have T32 := hidd (hbb.blk T28.out (fun e => by have := q29l.out; omega))
            clear hsd hbb
            obtain ⟨tl, htl, hcl⟩ := tab4_at y (by omega) (t0 := []) (t1 := [255]) (t2 := l1) (t3 := l2) 5000 (by decide) (by decide) (by omega) (by omega) T32.out
            refine ⟨Or.inr (H31.out.sb HM.out hkN HQ0.out HQ1.out HQ2.out), ?_⟩
            try simp only [Act.put, List.getElem_toArray, List.getElem_cons_succ, List.getElem_cons_zero, List.setIfInBounds_toArray, List.set_cons_zero, List.set_cons_succ]
            refine ekP 21 (v := .pointer (some ⟨q29, y, none⟩)) (hx := fun u => exec_ixS u _ _ _ _ rfl q29 y 4 (by kernel_rfl) (by kernel_rfl) (by omega) (by omega)) (hS := (H31.out.sb HM.out hkN HQ0.out HQ1.out HQ2.out)) (h := ?_)
            try simp only [Act.put, List.getElem_toArray, List.getElem_cons_succ, List.getElem_cons_zero, List.setIfInBounds_toArray, List.set_cons_zero, List.set_cons_succ]
            refine wpAnyE_one 22 (by kernel_rfl) ?_
            refine wpOp_val _ _ rfl (by kernel_rfl) (exec_ldStr _ _ _ _ rfl q29 y ⟨tl.toArray⟩ (by kernel_rfl) hcl) ?_
            refine ⟨Or.inr (H31.out.sb HM.out hkN HQ0.out HQ1.out HQ2.out), ?_⟩
            try simp only [Act.put, List.getElem_toArray, List.getElem_cons_succ, List.getElem_cons_zero, List.setIfInBounds_toArray, List.set_cons_zero, List.set_cons_succ]
            refine wpAnyE_one 23 (by kernel_rfl) ?_
            refine wpOp_val _ _ rfl (by kernel_rfl) (exec_bxS _ _ _ _ rfl ⟨tl.toArray⟩ (by kernel_rfl)) ?_
            have q36l : Hid (b < w30.heap.size) := H31.out.src.lt
            have hba : Below w30.heap.size w30 (w30.alloc (.cells #[.string ⟨tl.toArray⟩] 9)) := (Below.refl _ _).alloc (Nat.le_refl _) _
            have H34 := hidd (H31.out.below hba)
            have T35 := hidd (heap_alloc_new w30 (.cells #[.string ⟨tl.toArray⟩] 9))
            clear hba
            refine ⟨Or.inr (H34.out.sb HM.out hkN HQ0.out HQ1.out HQ2.out), ?_⟩
            try simp only [Act.put, List.getElem_toArray, List.getElem_cons_succ, List.getElem_cons_zero, List.setIfInBounds_toArray, List.set_cons_zero, List.set_cons_succ]
            obtain ⟨q36, hq36⟩ : ∃ g, w30.heap.size = g := ⟨_, rfl⟩
            rw [hq36] at T35 q36l
            simp only [hq36]
            clear hq36
            generalize w30.alloc (.cells #[.string ⟨tl.toArray⟩] 9) = w33 at *
            refine wpAnyE_one 24 (by kernel_rfl) ?_
            refine wpOp_pushSL rfl (by kernel_rfl) _ _ rfl base _ T (by kernel_rfl) (H34.out.rowT HM.out hkN HQ1.out HX.out) q36 tl (by kernel_rfl) T35.out (by omega) H34.out.size ?_
            intro g6 c6 w6 N hN ho hgr hloc
            have HE : Hid (BD w base b ao n cap (A + 150) g3 g4 did (.slice (some ⟨gv, 0, none⟩) NV cd) (V.set k (f, T ++ [tl], Z)) (ys.set (k * 3 + 1) (.slice (some ⟨g6, 0, none⟩) N c6)) (w6.setCell ⟨gv, k * 3 + 1, none⟩ (.slice (some ⟨g6, 0, none⟩) N c6))) := by
              have e := hN.out
              subst e
              have := H34.out.setT HM.out (by have := HM.out; omega) HQ1.out hgr ho hloc
              rw [HX.out] at this
              exact this.mono (by omega)
            have hsb6 := H34.out.sbG HM.out hkN HQ0.out HQ1.out HQ2.out HQ1.out (H34.out.rowT HM.out hkN HQ1.out HX.out) (by decide) hgr
            refine ⟨Or.inr hsb6.1, ?_⟩
            try simp only [Act.put, List.getElem_toArray, List.getElem_cons_succ, List.getElem_cons_zero, List.setIfInBounds_toArray, List.set_cons_zero, List.set_cons_succ]
            refine ekP 25 (v := .pointer (some ⟨gv, k * 3, none⟩)) (hx := fun u => exec_ixV u _ _ _ _ rfl gv k NV cd (by kernel_rfl) (by kernel_rfl) hkN (by omega)) (hS := hsb6.1) (h := ?_)
            try simp only [Act.put, List.getElem_toArray, List.getElem_cons_succ, List.getElem_cons_zero, List.setIfInBounds_toArray, List.set_cons_zero, List.set_cons_succ]
            refine ekP 26 (hS := hsb6.1) (h := ?_)
            try simp only [Act.put, List.getElem_toArray, List.getElem_cons_succ, List.getElem_cons_zero, List.setIfInBounds_toArray, List.set_cons_zero, List.set_cons_succ]
            refine wpAnyE_one 27 (by kernel_rfl) ?_
            refine wpOp_skip _ rfl (by kernel_rfl) (exec_stS _ _ _ _ _ rfl gv (k * 3 + 1) (some ⟨g6, 0, none⟩) N c6 _ (by kernel_rfl) (by kernel_rfl) hsb6.1.2.2.1 (hsb6.2 (k * 3 + 1))) ?_
            refine ⟨Or.inl (by kernel_rfl), ?_⟩
            try simp only [Act.put, List.getElem_toArray, List.getElem_cons_succ, List.getElem_cons_zero, List.setIfInBounds_toArray, List.set_cons_zero, List.set_cons_succ]
            clear ho hgr hloc hsb6
            refine wpAnyE_done (by kernel_rfl) ?_ _
            go_wp2_with fail
            go_meet
            case rel => exact HE.out.bf (by omega) (SmB.set HSm.out k _ ⟨HXb.out.1, by have := HXb.out.2.1; simp; omega, snoc5 (fun t ht => by have := HXb.out.2.2.1 t ht; omega) htl, by have := HXb.out.2.2.2; show Z.length ≤ 50; omega⟩) (by omega)
          · refine wpOp_call 14 #[.pointer (some ⟨b, 0, none⟩), .int .i64 4] rfl (by kernel_rfl) (rbx_call2 _ _ _ _ _ _ _ _ rfl _ _ (by kernel_rfl) (by kernel_rfl) (Tryz.call14 _ _)) ?_
            refine (nextS H25.out.src hn (by omega) 4 (by omega) (by omega)).mono ?_
            rintro e' w37 ⟨y, rfl, hy, hsd, hbb⟩
            have H38 := hidd (H25.out.draw hsd hbb)
            clear hsd hbb
            refine ⟨Or.inr (H38.out.sb HM.out hkN HQ0.out HQ1.out HQ2.out), ?_⟩
            try simp only [Act.put, List.getElem_toArray, List.getElem_cons_succ, List.getElem_cons_zero, List.setIfInBounds_toArray, List.set_cons_zero, List.set_cons_succ]
            refine wpAnyE_one 18 (by kernel_rfl) ?_
            refine wpOp_val _ _ rfl (by kernel_rfl) (exec_bx4S _ _ _ _ _ _ _ rfl ⟨#[]⟩ ⟨#[255]⟩ ⟨l1.toArray⟩ ⟨l2.toArray⟩ (by kernel_rfl) (by kernel_rfl) (by kernel_rfl) (by kernel_rfl)) ?_
            have q42l : Hid (b < w37.heap.size) := H38.out.src.lt
            have hba : Below w37.heap.size w37 (w37.alloc (.cells #[.string ⟨#[]⟩, .string ⟨#[255]⟩, .string ⟨l1.toArray⟩, .string ⟨l2.toArray⟩] 9)) := (Below.refl _ _).alloc (Nat.le_refl _) _
            have H40 := hidd (H38.out.below hba)
            have T41 := hidd (heap_alloc_new w37 (.cells #[.string ⟨#[]⟩, .string ⟨#[255]⟩, .string ⟨l1.toArray⟩, .string ⟨l2.toArray⟩] 9))
            clear hba
            refine ⟨Or.inr (H40.out.sb HM.out hkN HQ0.out HQ1.out HQ2.out), ?_⟩
            try simp only [Act.put, List.getElem_toArray, List.getElem_cons_succ, List.getElem_cons_zero, List.setIfInBounds_toArray, List.set_cons_zero, List.set_cons_succ]
            obtain ⟨q42, hq42⟩ : ∃ g, w37.heap.size = g := ⟨_, rfl⟩
            rw [hq42] at T41 q42l
            simp only [hq42]
            clear hq42
            generalize w37.alloc (.cells #[.string ⟨#[]⟩, .string ⟨#[255]⟩, .string ⟨l1.toArray⟩, .string ⟨l2.toArray⟩] 9) = w39 at *
            obtain ⟨tl, htl, hcl⟩ := tab4_at y (by omega) (t0 := []) (t1 := [255]) (t2 := l1) (t3 := l2) 5000 (by decide) (by decide) (by omega) (by omega) T41.out
            refine ekP 21 (v := .pointer (some ⟨q42, y, none⟩)) (hx := fun u => exec_ixS u _ _ _ _ rfl q42 y 4 (by kernel_rfl) (by kernel_rfl) (by omega) (by omega)) (hS := (H40.out.sb HM.out hkN HQ0.out HQ1.out HQ2.out)) (h := ?_)
            try simp only [Act.put, List.getElem_toArray, List.getElem_cons_succ, List.getElem_cons_zero, List.setIfInBounds_toArray, List.set_cons_zero, List.set_cons_succ]
            refine wpAnyE_one 22 (by kernel_rfl) ?_
            refine wpOp_val _ _ rfl (by kernel_rfl) (exec_ldStr _ _ _ _ rfl q42 y ⟨tl.toArray⟩ (by kernel_rfl) hcl) ?_
            refine ⟨Or.inr (H40.out.sb HM.out hkN HQ0.out HQ1.out HQ2.out), ?_⟩
            try simp only [Act.put, List.getElem_toArray, List.getElem_cons_succ, List.getElem_cons_zero, List.setIfInBounds_toArray, List.set_cons_zero, List.set_cons_succ]
            refine wpAnyE_one 23 (by kernel_rfl) ?_
            refine wpOp_val _ _ rfl (by kernel_rfl) (exec_bxS _ _ _ _ rfl ⟨tl.toArray⟩ (by kernel_rfl)) ?_
            have q46l : Hid (b < w39.heap.size) := H40.out.src.lt
            have hba : Below w39.heap.size w39 (w39.alloc (.cells #[.string ⟨tl.toArray⟩] 9)) := (Below.refl _ _).alloc (Nat.le_refl _) _
            have H44 := hidd (H40.out.below hba)
            have T45 := hidd (heap_alloc_new w39 (.cells #[.string ⟨tl.toArray⟩] 9))
            clear hba
            refine ⟨Or.inr (H44.out.sb HM.out hkN HQ0.out HQ1.out HQ2.out), ?_⟩
            try simp only [Act.put, List.getElem_toArray, List.getElem_cons_succ, List.getElem_cons_zero, List.setIfInBounds_toArray, List.set_cons_zero, List.set_cons_succ]
            obtain ⟨q46, hq46⟩ : ∃ g, w39.heap.size = g := ⟨_, rfl⟩
            rw [hq46] at T45 q46l
            simp only [hq46]
            clear hq46
            generalize w39.alloc (.cells #[.string ⟨tl.toArray⟩] 9) = w43 at *
            refine wpAnyE_one 24 (by kernel_rfl) ?_
            refine wpOp_pushSL rfl (by kernel_rfl) _ _ rfl base _ T (by kernel_rfl) (H44.out.rowT HM.out hkN HQ1.out HX.out) q46 tl (by kernel_rfl) T45.out (by omega) H44.out.size ?_
            intro g6 c6 w6 N hN ho hgr hloc
            have HE : Hid (BD w base b ao n cap (A + 150) g3 g4 did (.slice (some ⟨gv, 0, none⟩) NV cd) (V.set k (f, T ++ [tl], Z)) (ys.set (k * 3 + 1) (.slice (some ⟨g6, 0, none⟩) N c6)) (w6.setCell ⟨gv, k * 3 + 1, none⟩ (.slice (some ⟨g6, 0, none⟩) N c6))) := by
              have e := hN.out
              subst e
              have := H44.out.setT HM.out (by have := HM.out; omega) HQ1.out hgr ho hloc
              rw [HX.out] at this
              exact this.mono (by omega)
            have hsb6 := H44.out.sbG HM.out hkN HQ0.out HQ1.out HQ2.out HQ1.out (H44.out.rowT HM.out hkN HQ1.out HX.out) (by decide) hgr
            refine ⟨Or.inr hsb6.1, ?_⟩
            try simp only [Act.put, List.getElem_toArray, List.getElem_cons_succ, List.getElem_cons_zero, List.setIfInBounds_toArray, List.set_cons_zero, List.set_cons_succ]
            refine ekP 25 (v := .pointer (some ⟨gv, k * 3, none⟩)) (hx := fun u => exec_ixV u _ _ _ _ rfl gv k NV cd (by kernel_rfl) (by kernel_rfl) hkN (by omega)) (hS := hsb6.1) (h := ?_)
            try simp only [Act.put, List.getElem_toArray, List.getElem_cons_succ, List.getElem_cons_zero, List.setIfInBounds_toArray, List.set_cons_zero, List.set_cons_succ]
            refine ekP 26 (hS := hsb6.1) (h := ?_)
            try simp only [Act.put, List.getElem_toArray, List.getElem_cons_succ, List.getElem_cons_zero, List.setIfInBounds_toArray, List.set_cons_zero, List.set_cons_succ]
            refine wpAnyE_one 27 (by kernel_rfl) ?_
            refine wpOp_skip _ rfl (by kernel_rfl) (exec_stS _ _ _ _ _ rfl gv (k * 3 + 1) (some ⟨g6, 0, none⟩) N c6 _ (by kernel_rfl) (by kernel_rfl) hsb6.1.2.2.1 (hsb6.2 (k * 3 + 1))) ?_
            refine ⟨Or.inl (by kernel_rfl), ?_⟩
            try simp only [Act.put, List.getElem_toArray, List.getElem_cons_succ, List.getElem_cons_zero, List.setIfInBounds_toArray, List.set_cons_zero, List.set_cons_succ]
            clear ho hgr hloc hsb6
            refine wpAnyE_done (by kernel_rfl) ?_ _
            go_wp2_with fail
            go_meet
            case rel => exact HE.out.bf (by omega) (SmB.set HSm.out k _ ⟨HXb.out.1, by have := HXb.out.2.1; simp; omega, snoc5 (fun t ht => by have := HXb.out.2.2.1 t ht; omega) htl, by have := HXb.out.2.2.2; show Z.length ≤ 50; omega⟩) (by omega)

        · have h2b : (rz == 2) = false := by simpa using h2
          by_cases h3 : rz = 3
          · subst h3
            go_upto_region 12 with fail
            refine wp_region_E (SB g3 gv k (.slice (some ⟨gv, 0, none⟩) NV cd) (.string ⟨f.toArray⟩) (.slice a1 T.length c1) (.slice a2 Z.length c2)) 18 (by kernel_rfl) ?_
            have hbd : Below w3.heap.size w3 ({ heap := w3.heap, tape := w3.tape, drawn := w3.drawn + 1, os := w3.os, output := w3.output } : World) := (Below.refl _ _).drew
            generalize ({ heap := w3.heap, tape := w3.tape, drawn := w3.drawn + 1, os := w3.os, output := w3.output } : World) = wd47 at *
            have H48 := hidd (HD2.out.below hbd)
            clear hbd
            try simp only [Act.put, List.getElem_toArray, List.getElem_cons_succ, List.getElem_cons_zero, List.setIfInBounds_toArray, List.set_cons_zero, List.set_cons_succ]
            refine ekP 0 (hS := (H48.out.sb HM.out hkN HQ0.out HQ1.out HQ2.out)) (h := ?_)
            try simp only [Act.put, List.getElem_toArray, List.getElem_cons_succ, List.getElem_cons_zero, List.setIfInBounds_toArray, List.set_cons_zero, List.set_cons_succ]
            refine ekL 1 [16, 17, 18] (v := (.slice (some ⟨gv, 0, none⟩) NV cd)) (hx := fun u hu => exec_ldV u _ _ _ rfl g3 1 _ ⟨_, _, _, rfl⟩ (by kernel_rfl) hu.1) (hS := (H48.out.sb HM.out hkN HQ0.out HQ1.out HQ2.out)) (h := ?_)
            try simp only [Act.put, List.getElem_toArray, List.getElem_cons_succ, List.getElem_cons_zero, List.setIfInBounds_toArray, List.set_cons_zero, List.set_cons_succ]
            refine ekP 2 (hS := (H48.out.sb HM.out hkN HQ0.out HQ1.out HQ2.out)) (h := ?_)
            try simp only [Act.put, List.getElem_toArray, List.getElem_cons_succ, List.getElem_cons_zero, List.setIfInBounds_toArray, List.set_cons_zero, List.set_cons_succ]
            refine ekP 3 (hS := (H48.out.sb HM.out hkN HQ0.out HQ1.out HQ2.out)) (h := ?_)
            try simp only [Act.put, List.getElem_toArray, List.getElem_cons_succ, List.getElem_cons_zero, List.setIfInBounds_toArray, List.set_cons_zero, List.set_cons_succ]
            refine ekL 4 [6, 7, 8, 15, 18] (v := (.slice (some ⟨gv, 0, none⟩) NV cd)) (hx := fun u hu => exec_ldV u _ _ _ rfl g3 1 _ ⟨_, _, _, rfl⟩ (by kernel_rfl) hu.1) (hS := (H48.out.sb HM.out hkN HQ0.out HQ1.out HQ2.out)) (h := ?_)
            try simp only [Act.put, List.getElem_toArray, List.getElem_cons_succ, List.getElem_cons_zero, List.setIfInBounds_toArray, List.set_cons_zero, List.set_cons_succ]
            refine ekP 5 (hS := (H48.out.sb HM.out hkN HQ0.out HQ1.out HQ2.out)) (h := ?_)
            try simp only [Act.put, List.getElem_toArray, List.getElem_cons_succ, List.getElem_cons_zero, List.setIfInBounds_toArray, List.set_cons_zero, List.set_cons_succ]
            refine ekP 6 (v := .pointer (some ⟨gv, k * 3, none⟩)) (hx := fun u => exec_ixV u _ _ _ _ rfl gv k NV cd (by kernel_rfl) (by kernel_rfl) hkN (by omega)) (hS := (H48.out.sb HM.out hkN HQ0.out HQ1.out HQ2.out)) (h := ?_)
            try simp only [Act.put, List.getElem_toArray, List.getElem_cons_succ, List.getElem_cons_zero, List.setIfInBounds_toArray, List.set_cons_zero, List.set_cons_succ]
            refine ekP 7 (hS := (H48.out.sb HM.out hkN HQ0.out HQ1.out HQ2.out)) (h := ?_)
            try simp only [Act.put, List.getElem_toArray, List.getElem_cons_succ, List.getElem_cons_zero, List.setIfInBounds_toArray, List.set_cons_zero, List.set_cons_succ]
            refine ekL 8 [15, 18] (v := (.slice a2 Z.length c2)) (hx := fun u hu => exec_ldZ u _ _ _ rfl gv (k * 3 + 2) _ ⟨_, _, _, rfl⟩ (by kernel_rfl) hu.2.2.2) (hS := (H48.out.sb HM.out hkN HQ0.out HQ1.out HQ2.out)) (h := ?_)
            try simp only [Act.put, List.getElem_toArray, List.getElem_cons_succ, List.getElem_cons_zero, List.setIfInBounds_toArray, List.set_cons_zero, List.set_cons_succ]
            refine ekP 10 (hS := (H48.out.sb HM.out hkN HQ0.out HQ1.out HQ2.out)) (h := ?_)
            try simp only [Act.put, List.getElem_toArray, List.getElem_cons_succ, List.getElem_cons_zero, List.setIfInBounds_toArray, List.set_cons_zero, List.set_cons_succ]
            refine wpAnyE_two 9 11 (by kernel_rfl) ?_ ?_
            · refine wpOp_val _ _ rfl (by kernel_rfl) (exec_bx5Z _ _ _ _ _ _ _ _ rfl 0 1000000000000 1000000000001 (-1000000000000) (-1000000000001) (by kernel_rfl) (by kernel_rfl) (by kernel_rfl) (by kernel_rfl) (by kernel_rfl)) ?_
              have q52l : Hid (b < wd47.heap.size) := H48.out.src.lt
              have hba : Below wd47.heap.size wd47 (wd47.alloc (.cells #[.int .i64 0, .int .i64 1000000000000, .int .i64 1000000000001, .int .i64 (-1000000000000), .int .i64 (-1000000000001)] 3)) := (Below.refl _ _).alloc (Nat.le_refl _) _
              have H50 := hidd (H48.out.below hba)
              have T51 := hidd (heap_alloc_new wd47 (.cells #[.int .i64 0, .int .i64 1000000000000, .int .i64 1000000000001, .int .i64 (-1000000000000), .int .i64 (-1000000000001)] 3))
              clear hba
              refine ⟨Or.inr (H50.out.sb HM.out hkN HQ0.out HQ1.out HQ2.out), ?_⟩
              try simp only [Act.put, List.getElem_toArray, List.getElem_cons_succ, List.getElem_cons_zero, List.setIfInBounds_toArray, List.set_cons_zero, List.set_cons_succ]
              obtain ⟨q52, hq52⟩ : ∃ g, wd47.heap.size = g := ⟨_, rfl⟩
              rw [hq52] at T51 q52l
              simp only [hq52]
              clear hq52
              generalize wd47.alloc (.cells #[.int .i64 0, .int .i64 1000000000000, .int .i64 1000000000001, .int .i64 (-1000000000000), .int .i64 (-1000000000001)] 3) = w49 at *
              refine wpAnyE_one 11 (by kernel_rfl) ?_
              refine wpOp_call 14 #[.pointer (some ⟨b, 0, none⟩), .int .i64 5] rfl (by kernel_rfl) (rbx_call2 _ _ _ _ _ _ _ _ rfl _ _ (by kernel_rfl) (by kernel_rfl) (Tryz.call14 _ _)) ?_
              refine (nextS H50.out.src hn (by omega) 5 (by omega) (by omega)).mono ?_
              rintro e' w53 ⟨y, rfl, hy, hsd, hbb⟩
              have H54 := hidd (H50.out.draw hsd hbb)
              have T55 := hidd (hbb.blk T51.out (fun e => by have := q52l.out; omega))
              clear hsd hbb
              obtain ⟨zl, hcl⟩ := tabZ_at y (by omega) T55.out
              refine ⟨Or.inr (H54.out.sb HM.out hkN HQ0.out HQ1.out HQ2.out), ?_⟩
              try simp only [Act.put, List.getElem_toArray, List.getElem_cons_succ, List.getElem_cons_zero, List.setIfInBounds_toArray, List.set_cons_zero, List.set_cons_succ]
              refine ekP 12 (v := .pointer (some ⟨q52, y, none⟩)) (hx := fun u => exec_ixZ u _ _ _ _ rfl q52 y 5 (by kernel_rfl) (by kernel_rfl) (by omega) (by omega)) (hS := (H54.out.sb HM.out hkN HQ0.out HQ1.out HQ2.out)) (h := ?_)
              try simp only [Act.put, List.getElem_toArray, List.getElem_cons_succ, List.getElem_cons_zero, List.setIfInBounds_toArray, List.set_cons_zero, List.set_cons_succ]
              refine wpAnyE_one 13 (by kernel_rfl) ?_
              refine wpOp_val _ _ rfl (by kernel_rfl) (exec_ldInt _ _ _ _ rfl q52 y zl (by kernel_rfl) hcl) ?_
              refine ⟨Or.inr (H54.out.sb HM.out hkN HQ0.out HQ1.out HQ2.out), ?_⟩
              try simp only [Act.put, List.getElem_toArray, List.getElem_cons_succ, List.getElem_cons_zero, List.setIfInBounds_toArray, List.set_cons_zero, List.set_cons_succ]
              refine wpAnyE_one 14 (by kernel_rfl) ?_
              refine wpOp_val _ _ rfl (by kernel_rfl) (exec_bxZ _ _ _ _ rfl zl (by kernel_rfl)) ?_
              have q59l : Hid (b < w53.heap.size) := H54.out.src.lt
              have hba : Below w53.heap.size w53 (w53.alloc (.cells #[.int .i64 zl] 3)) := (Below.refl _ _).alloc (Nat.le_refl _) _
              have H57 := hidd (H54.out.below hba)
              have T58 := hidd (heap_alloc_new w53 (.cells #[.int .i64 zl] 3))
              clear hba
              refine ⟨Or.inr (H57.out.sb HM.out hkN HQ0.out HQ1.out HQ2.out), ?_⟩
              try simp only [Act.put, List.getElem_toArray, List.getElem_cons_succ, List.getElem_cons_zero, List.setIfInBounds_toArray, List.set_cons_zero, List.set_cons_succ]
              obtain ⟨q59, hq59⟩ : ∃ g, w53.heap.size = g := ⟨_, rfl⟩
              rw [hq59] at T58 q59l
              simp only [hq59]
              clear hq59
              generalize w53.alloc (.cells #[.int .i64 zl] 3) = w56 at *
              refine wpAnyE_one 15 (by kernel_rfl) ?_
              refine wpOp_pushZL rfl (by kernel_rfl) _ _ rfl base _ Z (by kernel_rfl) (H57.out.rowZ HM.out hkN HQ2.out HX.out) q59 zl (by kernel_rfl) T58.out (by omega) H57.out.size ?_
              intro g6 c6 w6 N hN ho hgr hloc
              have HE : Hid (BD w base b ao n cap (A + 150) g3 g4 did (.slice (some ⟨gv, 0, none⟩) NV cd) (V.set k (f, T, Z ++ [zl])) (ys.set (k * 3 + 2) (.slice (some ⟨g6, 0, none⟩) N c6)) (w6.setCell ⟨gv, k * 3 + 2, none⟩ (.slice (some ⟨g6, 0, none⟩) N c6))) := by
                have e := hN.out
                subst e
                have := H57.out.setZ HM.out (by have := HM.out; omega) HQ2.out hgr ho hloc
                rw [HX.out] at this
                exact this.mono (by omega)
              have hsb6 := H57.out.sbG HM.out hkN HQ0.out HQ1.out HQ2.out HQ2.out (H57.out.rowZ HM.out hkN HQ2.out HX.out) (by decide) hgr
              refine ⟨Or.inr hsb6.1, ?_⟩
              try simp only [Act.put, List.getElem_toArray, List.getElem_cons_succ, List.getElem_cons_zero, List.setIfInBounds_toArray, List.set_cons_zero, List.set_cons_succ]
              refine ekP 16 (v := .pointer (some ⟨gv, k * 3, none⟩)) (hx := fun u => exec_ixV u _ _ _ _ rfl gv k NV cd (by kernel_rfl) (by kernel_rfl) hkN (by omega)) (hS := hsb6.1) (h := ?_)
              try simp only [Act.put, List.getElem_toArray, List.getElem_cons_succ, List.getElem_cons_zero, List.setIfInBounds_toArray, List.set_cons_zero, List.set_cons_succ]
              refine ekP 17 (hS := hsb6.1) (h := ?_)
              try simp only [Act.put, List.getElem_toArray, List.getElem_cons_succ, List.getElem_cons_zero, List.setIfInBounds_toArray, List.set_cons_zero, List.set_cons_succ]
              refine wpAnyE_one 18 (by kernel_rfl) ?_
              refine wpOp_skip _ rfl (by kernel_rfl) (exec_stZ _ _ _ _ _ rfl gv (k * 3 + 2) (some ⟨g6, 0, none⟩) N c6 _ (by kernel_rfl) (by kernel_rfl) hsb6.1.2.2.2 (hsb6.2 (k * 3 + 2))) ?_
              refine ⟨Or.inl (by kernel_rfl), ?_⟩
              try simp only [Act.put, List.getElem_toArray, List.getElem_cons_succ, List.getElem_cons_zero, List.setIfInBounds_toArray, List.set_cons_zero, List.set_cons_succ]
              clear ho hgr hloc hsb6
              refine wpAnyE_done (by kernel_rfl) ?_ _
              go_wp2_with fail
              go_meet
              case rel => exact HE.out.bf (by omega) (SmB.set HSm.out k _ ⟨HXb.out.1, by have := HXb.out.2.1; show T.length ≤ 3; omega, fun t ht => by have := HXb.out.2.2.1 t ht; omega, by have := HXb.out.2.2.2; simp; omega⟩) (by omega)
            · refine wpOp_call 14 #[.pointer (some ⟨b, 0, none⟩), .int .i64 5] rfl (by kernel_rfl) (rbx_call2 _ _ _ _ _ _ _ _ rfl _ _ (by kernel_rfl) (by kernel_rfl) (Tryz.call14 _ _)) ?_
              refine (nextS H48.out.src hn (by omega) 5 (by omega) (by omega)).mono ?_
              rintro e' w60 ⟨y, rfl, hy, hsd, hbb⟩
              have H61 := hidd (H48.out.draw hsd hbb)
              clear hsd hbb
              refine ⟨Or.inr (H61.out.sb HM.out hkN HQ0.out HQ1.out HQ2.out), ?_⟩
              try simp only [Act.put, List.getElem_toArray, List.getElem_cons_succ, List.getElem_cons_zero, List.setIfInBounds_toArray, List.set_cons_zero, List.set_cons_succ]
              refine wpAnyE_one 9 (by kernel_rfl) ?_
              refine wpOp_val _ _ rfl (by kernel_rfl) (exec_bx5Z _ _ _ _ _ _ _ _ rfl 0 1000000000000 1000000000001 (-1000000000000) (-1000000000001) (by kernel_rfl) (by kernel_rfl) (by kernel_rfl) (by kernel_rfl) (by kernel_rfl)) ?_
              have q65l : Hid (b < w60.heap.size) := H61.out.src.lt
              have hba : Below w60.heap.size w60 (w60.alloc (.cells #[.int .i64 0, .int .i64 1000000000000, .int .i64 1000000000001, .int .i64 (-1000000000000), .int .i64 (-1000000000001)] 3)) := (Below.refl _ _).alloc (Nat.le_refl _) _
              have H63 := hidd (H61.out.below hba)
              have T64 := hidd (heap_alloc_new w60 (.cells #[.int .i64 0, .int .i64 1000000000000, .int .i64 1000000000001, .int .i64 (-1000000000000), .int .i64 (-1000000000001)] 3))
              clear hba
              refine ⟨Or.inr (H63.out.sb HM.out hkN HQ0.out HQ1.out HQ2.out), ?_⟩
              try simp only [Act.put, List.getElem_toArray, List.getElem_cons_succ, List.getElem_cons_zero, List.setIfInBounds_toArray, List.set_cons_zero, List.set_cons_succ]
              obtain ⟨q65, hq65⟩ : ∃ g, w60.heap.size = g := ⟨_, rfl⟩
              rw [hq65] at T64 q65l
              simp only [hq65]
              clear hq65
              generalize w60.alloc (.cells #[.int .i64 0, .int .i64 1000000000000, .int .i64 1000000000001, .int .i64 (-1000000000000), .int .i64 (-1000000000001)] 3) = w62 at *
              obtain ⟨zl, hcl⟩ := tabZ_at y (by omega) T64.out
              refine ekP 12 (v := .pointer (some ⟨q65, y, none⟩)) (hx := fun u => exec_ixZ u _ _ _ _ rfl q65 y 5 (by kernel_rfl) (by kernel_rfl) (by omega) (by omega)) (hS := (H63.out.sb HM.out hkN HQ0.out HQ1.out HQ2.out)) (h := ?_)
              try simp only [Act.put, List.getElem_toArray, List.getElem_cons_succ, List.getElem_cons_zero, List.setIfInBounds_toArray, List.set_cons_zero, List.set_cons_succ]
              refine wpAnyE_one 13 (by kernel_rfl) ?_
              refine wpOp_val _ _ rfl (by kernel_rfl) (exec_ldInt _ _ _ _ rfl q65 y zl (by kernel_rfl) hcl) ?_
              refine ⟨Or.inr (H63.out.sb HM.out hkN HQ0.out HQ1.out HQ2.out), ?_⟩
              try simp only [Act.put, List.getElem_toArray, List.getElem_cons_succ, List.getElem_cons_zero, List.setIfInBounds_toArray, List.set_cons_zero, List.set_cons_succ]
              refine wpAnyE_one 14 (by kernel_rfl) ?_
              refine wpOp_val _ _ rfl (by kernel_rfl) (exec_bxZ _ _ _ _ rfl zl (by kernel_rfl)) ?_
              have q69l : Hid (b < w62.heap.size) := H63.out.src.lt
              have hba : Below w62.heap.size w62 (w62.alloc (.cells #[.int .i64 zl] 3)) := (Below.refl _ _).alloc (Nat.le_refl _) _
              have H67 := hidd (H63.out.below hba)
              have T68 := hidd (heap_alloc_new w62 (.cells #[.int .i64 zl] 3))
              clear hba
              refine ⟨Or.inr (H67.out.sb HM.out hkN HQ0.out HQ1.out HQ2.out), ?_⟩
              try simp only [Act.put, List.getElem_toArray, List.getElem_cons_succ, List.getElem_cons_zero, List.setIfInBounds_toArray, List.set_cons_zero, List.set_cons_succ]
              obtain ⟨q69, hq69⟩ : ∃ g, w62.heap.size = g := ⟨_, rfl⟩
              rw [hq69] at T68 q69l
              simp only [hq69]
              clear hq69
              generalize w62.alloc (.cells #[.int .i64 zl] 3) = w66 at *
              refine wpAnyE_one 15 (by kernel_rfl) ?_
              refine wpOp_pushZL rfl (by kernel_rfl) _ _ rfl base _ Z (by kernel_rfl) (H67.out.rowZ HM.out hkN HQ2.out HX.out) q69 zl (by kernel_rfl) T68.out (by omega) H67.out.size ?_
              intro g6 c6 w6 N hN ho hgr hloc
              have HE : Hid (BD w base b ao n cap (A + 150) g3 g4 did (.slice (some ⟨gv, 0, none⟩) NV cd) (V.set k (f, T, Z ++ [zl])) (ys.set (k * 3 + 2) (.slice (some ⟨g6, 0, none⟩) N c6)) (w6.setCell ⟨gv, k * 3 + 2, none⟩ (.slice (some ⟨g6, 0, none⟩) N c6))) := by
                have e := hN.out
                subst e
                have := H67.out.setZ HM.out (by have := HM.out; omega) HQ2.out hgr ho hloc
                rw [HX.out] at this
                exact this.mono (by omega)
              have hsb6 := H67.out.sbG HM.out hkN HQ0.out HQ1.out HQ2.out HQ2.out (H67.out.rowZ HM.out hkN HQ2.out HX.out) (by decide) hgr
              refine ⟨Or.inr hsb6.1, ?_⟩
              try simp only [Act.put, List.getElem_toArray, List.getElem_cons_succ, List.getElem_cons_zero, List.setIfInBounds_toArray, List.set_cons_zero, List.set_cons_succ]
              refine ekP 16 (v := .pointer (some ⟨gv, k * 3, none⟩)) (hx := fun u => exec_ixV u _ _ _ _ rfl gv k NV cd (by kernel_rfl) (by kernel_rfl) hkN (by omega)) (hS := hsb6.1) (h := ?_)
              try simp only [Act.put, List.getElem_toArray, List.getElem_cons_succ, List.getElem_cons_zero, List.setIfInBounds_toArray, List.set_cons_zero, List.set_cons_succ]
              refine ekP 17 (hS := hsb6.1) (h := ?_)
              try simp only [Act.put, List.getElem_toArray, List.getElem_cons_succ, List.getElem_cons_zero, List.setIfInBounds_toArray, List.set_cons_zero, List.set_cons_succ]
              refine wpAnyE_one 18 (by kernel_rfl) ?_
              refine wpOp_skip _ rfl (by kernel_rfl) (exec_stZ _ _ _ _ _ rfl gv (k * 3 + 2) (some ⟨g6, 0, none⟩) N c6 _ (by kernel_rfl) (by kernel_rfl) hsb6.1.2.2.2 (hsb6.2 (k * 3 + 2))) ?_
              refine ⟨Or.inl (by kernel_rfl), ?_⟩
              try simp only [Act.put, List.getElem_toArray, List.getElem_cons_succ, List.getElem_cons_zero, List.setIfInBounds_toArray, List.set_cons_zero, List.set_cons_succ]
              clear ho hgr hloc hsb6
              refine wpAnyE_done (by kernel_rfl) ?_ _
              go_wp2_with fail
              go_meet
              case rel => exact HE.out.bf (by omega) (SmB.set HSm.out k _ ⟨HXb.out.1, by have := HXb.out.2.1; show T.length ≤ 3; omega, fun t ht => by have := HXb.out.2.2.1 t ht; omega, by have := HXb.out.2.2.2; simp; omega⟩) (by omega)

          · have h3b : (rz == 3) = false := by simpa using h3
            by_cases h6 : rz = 6
            · subst h6
              go_upto_region 21 with fail
              refine wp_region_E (SB g3 gv k (.slice (some ⟨gv, 0, none⟩) NV cd) (.string ⟨f.toArray⟩) (.slice a1 T.length c1) (.slice a2 Z.length c2)) 8 (by kernel_rfl) ?_
              have hbd : Below w3.heap.size w3 ({ heap := w3.heap, tape := w3.tape, drawn := w3.drawn + 1, os := w3.os, output := w3.output } : World) := (Below.refl _ _).drew
              generalize ({ heap := w3.heap, tape := w3.tape, drawn := w3.drawn + 1, os := w3.os, output := w3.output } : World) = wd76 at *
              have H77 := hidd (HD2.out.below hbd)
              clear hbd
              try simp only [Act.put, List.getElem_toArray, List.getElem_cons_succ, List.getElem_cons_zero, List.setIfInBounds_toArray, List.set_cons_zero, List.set_cons_succ]
              refine ekP 0 (hS := (H77.out.sb HM.out hkN HQ0.out HQ1.out HQ2.out)) (h := ?_)
              try simp only [Act.put, List.getElem_toArray, List.getElem_cons_succ, List.getElem_cons_zero, List.setIfInBounds_toArray, List.set_cons_zero, List.set_cons_succ]
              refine ekL 1 [8] (v := (.slice (some ⟨gv, 0, none⟩) NV cd)) (hx := fun u hu => exec_ldV u _ _ _ rfl g3 1 _ ⟨_, _, _, rfl⟩ (by kernel_rfl) hu.1) (hS := (H77.out.sb HM.out hkN HQ0.out HQ1.out HQ2.out)) (h := ?_)
              try simp only [Act.put, List.getElem_toArray, List.getElem_cons_succ, List.getElem_cons_zero, List.setIfInBounds_toArray, List.set_cons_zero, List.set_cons_succ]
              refine ekP 2 (hS := (H77.out.sb HM.out hkN HQ0.out HQ1.out HQ2.out)) (h := ?_)
              try simp only [Act.put, List.getElem_toArray, List.getElem_cons_succ, List.getElem_cons_zero, List.setIfInBounds_toArray, List.set_cons_zero, List.set_cons_succ]
              refine ekL 3 [5, 6, 7, 8] (v := (.slice (some ⟨gv, 0, none⟩) NV cd)) (hx := fun u hu => exec_ldV u _ _ _ rfl g3 1 _ ⟨_, _, _, rfl⟩ (by kernel_rfl) hu.1) (hS := (H77.out.sb HM.out hkN HQ0.out HQ1.out HQ2.out)) (h := ?_)
              try simp only [Act.put, List.getElem_toArray, List.getElem_cons_succ, List.getElem_cons_zero, List.setIfInBounds_toArray, List.set_cons_zero, List.set_cons_succ]
              refine ekP 4 (hS := (H77.out.sb HM.out hkN HQ0.out HQ1.out HQ2.out)) (h := ?_)
              try simp only [Act.put, List.getElem_toArray, List.getElem_cons_succ, List.getElem_cons_zero, List.setIfInBounds_toArray, List.set_cons_zero, List.set_cons_succ]
              refine ekP 5 (v := .pointer (some ⟨gv, k * 3, none⟩)) (hx := fun u => exec_ixV u _ _ _ _ rfl gv k NV cd (by kernel_rfl) (by kernel_rfl) hkN (by omega)) (hS := (H77.out.sb HM.out hkN HQ0.out HQ1.out HQ2.out)) (h := ?_)
              try simp only [Act.put, List.getElem_toArray, List.getElem_cons_succ, List.getElem_cons_zero, List.setIfInBounds_toArray, List.set_cons_zero, List.set_cons_succ]
              refine ekL 6 [7, 8] (v := (.agg #[.string ⟨f.toArray⟩, .slice a1 T.length c1, .slice a2 Z.length c2])) (hx := fun u hu => exec_ldVal u _ _ _ rfl gv (k * 3) _ _ _ (by kernel_rfl) hu.2.1 hu.2.2.1 hu.2.2.2) (hS := (H77.out.sb HM.out hkN HQ0.out HQ1.out HQ2.out)) (h := ?_)
              try simp only [Act.put, List.getElem_toArray, List.getElem_cons_succ, List.getElem_cons_zero, List.setIfInBounds_toArray, List.set_cons_zero, List.set_cons_succ]
              refine wpAnyE_one 7 (by kernel_rfl) ?_
              refine wpOp_val _ _ rfl (by kernel_rfl) (exec_bxV _ _ _ _ rfl (.string ⟨f.toArray⟩) (.slice a1 T.length c1) (.slice a2 Z.length c2) (by kernel_rfl)) ?_
              have q81l : Hid (b < wd76.heap.size) := H77.out.src.lt
              have hba : Below wd76.heap.size wd76 (wd76.alloc (.cells #[.string ⟨f.toArray⟩, .slice a1 T.length c1, .slice a2 Z.length c2] 88)) := (Below.refl _ _).alloc (Nat.le_refl _) _
              have H79 := hidd (H77.out.below hba)
              have T80 := hidd (heap_alloc_new wd76 (.cells #[.string ⟨f.toArray⟩, .slice a1 T.length c1, .slice a2 Z.length c2] 88))
              clear hba
              refine ⟨Or.inr (H79.out.sb HM.out hkN HQ0.out HQ1.out HQ2.out), ?_⟩
              try simp only [Act.put, List.getElem_toArray, List.getElem_cons_succ, List.getElem_cons_zero, List.setIfInBounds_toArray, List.set_cons_zero, List.set_cons_succ]
              obtain ⟨q81, hq81⟩ : ∃ g, wd76.heap.size = g := ⟨_, rfl⟩
              rw [hq81] at T80 q81l
              simp only [hq81]
              clear hq81
              generalize wd76.alloc (.cells #[.string ⟨f.toArray⟩, .slice a1 T.length c1, .slice a2 Z.length c2] 88) = w78 at *
              refine wpAnyE_one 8 (by kernel_rfl) ?_
              refine wpOp_pushVL rfl (by kernel_rfl) _ _ rfl base _ NV ys (by kernel_rfl) (by have := H79.out.doc.row; rw [HNV.out] at this; exact this) q81 _ _ _ (by kernel_rfl) T80.out ⟨rfl, rfl, rfl⟩ (by omega) H79.out.size ?_
              intro g6 c6 w6 N hN ho hgr
              have HE : Hid (BF w base b ao n cap (A + 150) g3 g4 (w6.setCell ⟨g3, 1, none⟩ (.slice (some ⟨g6, 0, none⟩) N c6))) := by
                have e := hN.out
                subst e
                exact H79.out.dupBF HM.out hkN HQ0.out HQ1.out HQ2.out ho hgr (by omega) HSm.out (by omega)
              have hbx6 := (but_own hgr).blk H79.out.box (own_apartB H79.out.doc.row H79.out.box (by decide))
              refine ⟨Or.inl (by kernel_rfl), ?_⟩
              try simp only [Act.put, List.getElem_toArray, List.getElem_cons_succ, List.getElem_cons_zero, List.setIfInBounds_toArray, List.set_cons_zero, List.set_cons_succ]
              refine wpAnyE_one 9 (by kernel_rfl) ?_
              refine wpOp_val (.pointer (some ⟨g3, 1, none⟩)) _ rfl (by kernel_rfl) (by go_simp <;> with_reducible rfl) ?_
              refine ⟨Or.inl (by kernel_rfl), ?_⟩
              try simp only [Act.put, List.getElem_toArray, List.getElem_cons_succ, List.getElem_cons_zero, List.setIfInBounds_toArray, List.set_cons_zero, List.set_cons_succ]
              refine wpAnyE_one 10 (by kernel_rfl) ?_
              refine wpOp_skip _ rfl (by kernel_rfl) (exec_stV _ _ _ _ _ rfl g3 1 (some ⟨g6, 0, none⟩) N c6 _ (by kernel_rfl) (by kernel_rfl) (blkc hbx6 1) (blkf hbx6 1)) ?_
              refine ⟨Or.inl (by kernel_rfl), ?_⟩
              try simp only [Act.put, List.getElem_toArray, List.getElem_cons_succ, List.getElem_cons_zero, List.setIfInBounds_toArray, List.set_cons_zero, List.set_cons_succ]
              clear ho hgr hbx6
              refine wpAnyE_done (by kernel_rfl) ?_ _
              go_wp2_with fail
              go_meet
              case rel => exact HE.out

            · have h6b : (rz == 6) = false := by simpa using h6
              by_cases h4 : rz = 4
              · subst h4
                have HE : Hid (BF w base b ao n cap (A + 150) g3 g4 ((w3.alloc (.cells #[] 9)).setCell ⟨gv, k * 3 + 1, none⟩ (.slice (some ⟨w3.heap.size, 0, none⟩) 0 0))) := by
                  have := HD2.out.setT (T' := []) (v' := .slice (some ⟨w3.heap.size, 0, none⟩) 0 0) HM.out (by have := HM.out; omega) HQ1.out (World.grownBy_alloc w3 _ _) (own_low (own_empty w3 9) HD2.out.size) (Or.inr fun x hx => by have hx' : some w3.heap.size = some x := hx; injection hx' with hx'; omega)
                  refine this.bf (by omega) (SmB.set HSm.out k _ ?_) (by omega)
                  rw [HX.out]
                  exact ⟨HXb.out.1, by show 0 ≤ 3; omega, (fun t ht => (by cases ht)), by show Z.length ≤ 50; omega⟩
                obtain ⟨s0, s1, s2, s3⟩ := (HD2.out.below ((Below.refl _ _).alloc (Nat.le_refl _) (.cells #[] 9))).sb HM.out hkN HQ0.out HQ1.out HQ2.out
                have sf := frozen_row (HD2.out.below ((Below.refl _ _).alloc (Nat.le_refl _) (.cells #[] 9))).doc.row HM.out (k * 3 + 1)
                obtain ⟨p0, p1, p2, p3⟩ := HD2.out.sb HM.out hkN HQ0.out HQ1.out HQ2.out
                have hkz : (k : Int) < (NV : Int) := by omega
                go_wp2_with fail
                go_meet
                case rel => exact HE.out
              · have h4b : (rz == 4) = false := by simpa using h4
                by_cases h5 : rz = 5
                · subst h5
                  go_wp2_with fail
                  refine (nextS HD2.out.src hn (by omega) 2 (by omega) (by omega)).mono ?_
                  rintro e w4 ⟨y1, rfl, hy1, hs4, hb4⟩
                  have HD3 := hidd (HD2.out.draw hs4 hb4)
                  clear hs4 hb4 HD2
                  obtain ⟨K1, hK1⟩ : ∃ K : Nat, (y1 : Int) + 16 = (K : Int) := ⟨y1 + 16, by omega⟩
                  go_wp2_with fail
                  go_loopw [6] (fun iv wx => ∃ (j : Nat) (Z : List Int) (V : List Vl) (ys : List Value), iv = .int .i64 (j : Int) ∧ j ≤ 17 ∧ Z.length + j ≤ 30 ∧ BD w base b ao n cap (A + 20) g3 g4 did (.slice (some ⟨gv, 0, none⟩) NV cd) V ys wx ∧ V.getD k vl0 = (f, T, Z) ∧ NV = V.length ∧ SmB V) (fun iv _ => (intOf iv).toNat)
                  case atStart => exact ⟨K1, Z, V, ys, rfl, by omega, by omega, HD3.out.mono (by omega), HX.out, HM.out, HSm.out.b⟩
                  case round =>
                    obtain ⟨j, Z, V, ys, rfl, hj, hZj, hD, hXv, hMv, hSv⟩ := hrel
                    clear HQ0 HQ1 HQ2 HM HX HD3 hZl HSm HNV HXb
                    have HD := hidd hD
                    have HX := hidd hXv
                    have HM := hidd hMv
                    have HSv := hidd hSv
                    clear hD hXv hMv hSv
                    by_cases hj0 : 0 < j
                    · have hjz : (j : Int) > 0 := by omega
                      obtain ⟨q0, ⟨v1, q1, q2⟩, v2, q3, q4⟩ := HD.out.doc.val k (by have := HM.out; omega)
                      rw [HX.out] at q0 q2 q4
                      obtain ⟨a1, c1, rfl⟩ := own_slice q2
                      obtain ⟨a2, c2, rfl⟩ := own_slice q4
                      have HQ0 : Hid (ys[k * 3]? = some (.string ⟨f.toArray⟩)) := q0
                      have HQ1 : Hid (ys[k * 3 + 1]? = some (.slice a1 T.length c1)) := q1
                      have HQ2 : Hid (ys[k * 3 + 2]? = some (.slice a2 Z.length c2)) := q3
                      have HXb : Hid (f.length ≤ 8 ∧ T.length ≤ 3 ∧ (∀ t ∈ T, t.length ≤ 5000) ∧ Z.length ≤ 50) := by
                        have := HSv.out.2 (V.getD k vl0) (by rw [List.getD_eq_getElem?_getD, List.getElem?_eq_getElem (show k < V.length by have := HM.out; omega)]; exact List.getElem_mem _)
                        rw [HX.out] at this
                        exact this
                      clear q0 q1 q2 q3 q4
                      go_upto_region 19 with fail
                      refine wp_region_E (SB g3 gv k (.slice (some ⟨gv, 0, none⟩) NV cd) (.string ⟨f.toArray⟩) (.slice a1 T.length c1) (.slice a2 Z.length c2)) 13 (by kernel_rfl) ?_
                      have hbd : Below wr.heap.size wr ({ heap := wr.heap, tape := wr.tape, drawn := wr.drawn + 1, os := wr.os, output := wr.output } : World) := (Below.refl _ _).drew
                      generalize ({ heap := wr.heap, tape := wr.tape, drawn := wr.drawn + 1, os := wr.os, output := wr.output } : World) = wd82 at *
                      have H83 := hidd (HD.out.below hbd)
                      clear hbd
                      try simp only [Act.put, List.getElem_toArray, List.getElem_cons_succ, List.getElem_cons_zero, List.setIfInBounds_toArray, List.set_cons_zero, List.set_cons_succ]
                      refine ekP 0 (hS := (H83.out.sb HM.out hkN HQ0.out HQ1.out HQ2.out)) (h := ?_)
                      try simp only [Act.put, List.getElem_toArray, List.getElem_cons_succ, List.getElem_cons_zero, List.setIfInBounds_toArray, List.set_cons_zero, List.set_cons_succ]
                      refine ekL 1 [11, 12, 13] (v := (.slice (some ⟨gv, 0, none⟩) NV cd)) (hx := fun u hu => exec_ldV u _ _ _ rfl g3 1 _ ⟨_, _, _, rfl⟩ (by kernel_rfl) hu.1) (hS := (H83.out.sb HM.out hkN HQ0.out HQ1.out HQ2.out)) (h := ?_)
                      try simp only [Act.put, List.getElem_toArray, List.getElem_cons_succ, List.getElem_cons_zero, List.setIfInBounds_toArray, List.set_cons_zero, List.set_cons_succ]
                      refine ekP 2 (hS := (H83.out.sb HM.out hkN HQ0.out HQ1.out HQ2.out)) (h := ?_)
                      try simp only [Act.put, List.getElem_toArray, List.getElem_cons_succ, List.getElem_cons_zero, List.setIfInBounds_toArray, List.set_cons_zero, List.set_cons_succ]
                      refine ekP 3 (hS := (H83.out.sb HM.out hkN HQ0.out HQ1.out HQ2.out)) (h := ?_)
                      try simp only [Act.put, List.getElem_toArray, List.getElem_cons_succ, List.getElem_cons_zero, List.setIfInBounds_toArray, List.set_cons_zero, List.set_cons_succ]
                      refine ekL 4 [6, 7, 8, 10, 13] (v := (.slice (some ⟨gv, 0, none⟩) NV cd)) (hx := fun u hu => exec_ldV u _ _ _ rfl g3 1 _ ⟨_, _, _, rfl⟩ (by kernel_rfl) hu.1) (hS := (H83.out.sb HM.out hkN HQ0.out HQ1.out HQ2.out)) (h := ?_)
                      try simp only [Act.put, List.getElem_toArray, List.getElem_cons_succ, List.getElem_cons_zero, List.setIfInBounds_toArray, List.set_cons_zero, List.set_cons_succ]
                      refine ekP 5 (hS := (H83.out.sb HM.out hkN HQ0.out HQ1.out HQ2.out)) (h := ?_)
                      try simp only [Act.put, List.getElem_toArray, List.getElem_cons_succ, List.getElem_cons_zero, List.setIfInBounds_toArray, List.set_cons_zero, List.set_cons_succ]
                      refine ekP 6 (v := .pointer (some ⟨gv, k * 3, none⟩)) (hx := fun u => exec_ixV u _ _ _ _ rfl gv k NV cd (by kernel_rfl) (by kernel_rfl) hkN (by omega)) (hS := (H83.out.sb HM.out hkN HQ0.out HQ1.out HQ2.out)) (h := ?_)
                      try simp only [Act.put, List.getElem_toArray, List.getElem_cons_succ, List.getElem_cons_zero, List.setIfInBounds_toArray, List.set_cons_zero, List.set_cons_succ]
                      refine ekP 7 (hS := (H83.out.sb HM.out hkN HQ0.out HQ1.out HQ2.out)) (h := ?_)
                      try simp only [Act.put, List.getElem_toArray, List.getElem_cons_succ, List.getElem_cons_zero, List.setIfInBounds_toArray, List.set_cons_zero, List.set_cons_succ]
                      refine ekL 8 [10, 13] (v := (.slice a2 Z.length c2)) (hx := fun u hu => exec_ldZ u _ _ _ rfl gv (k * 3 + 2) _ ⟨_, _, _, rfl⟩ (by kernel_rfl) hu.2.2.2) (hS := (H83.out.sb HM.out hkN HQ0.out HQ1.out HQ2.out)) (h := ?_)
                      try simp only [Act.put, List.getElem_toArray, List.getElem_cons_succ, List.getElem_cons_zero, List.setIfInBounds_toArray, List.set_cons_zero, List.set_cons_succ]
                      refine wpAnyE_one 9 (by kernel_rfl) ?_
                      refine wpOp_val _ _ rfl (by kernel_rfl) (exec_bxZ _ _ _ _ rfl 1 (by kernel_rfl)) ?_
                      have q87l : Hid (b < wd82.heap.size) := H83.out.src.lt
                      have hba : Below wd82.heap.size wd82 (wd82.alloc (.cells #[.int .i64 1] 3)) := (Below.refl _ _).alloc (Nat.le_refl _) _
                      have H85 := hidd (H83.out.below hba)
                      have T86 := hidd (heap_alloc_new wd82 (.cells #[.int .i64 1] 3))
                      clear hba
                      refine ⟨Or.inr (H85.out.sb HM.out hkN HQ0.out HQ1.out HQ2.out), ?_⟩
                      try simp only [Act.put, List.getElem_toArray, List.getElem_cons_succ, List.getElem_cons_zero, List.setIfInBounds_toArray, List.set_cons_zero, List.set_cons_succ]
                      obtain ⟨q87, hq87⟩ : ∃ g, wd82.heap.size = g := ⟨_, rfl⟩
                      rw [hq87] at T86 q87l
                      simp only [hq87]
                      clear hq87
                      generalize wd82.alloc (.cells #[.int .i64 1] 3) = w84 at *
                      refine wpAnyE_one 10 (by kernel_rfl) ?_
                      refine wpOp_pushZL rfl (by kernel_rfl) _ _ rfl base _ Z (by kernel_rfl) (H85.out.rowZ HM.out hkN HQ2.out HX.out) q87 1 (by kernel_rfl) T86.out (by omega) H85.out.size ?_
                      intro g6 c6 w6 N hN ho hgr hloc
                      have HE : Hid (BD w base b ao n cap (A + 20) g3 g4 did (.slice (some ⟨gv, 0, none⟩) NV cd) (V.set k (f, T, Z ++ [1])) (ys.set (k * 3 + 2) (.slice (some ⟨g6, 0, none⟩) N c6)) (w6.setCell ⟨gv, k * 3 + 2, none⟩ (.slice (some ⟨g6, 0, none⟩) N c6))) := by
                        have e := hN.out
                        subst e
                        have := H85.out.setZ HM.out (by have := HM.out; omega) HQ2.out hgr ho hloc
                        rw [HX.out] at this
                        exact this.mono (by omega)
                      have hsb6 := H85.out.sbG HM.out hkN HQ0.out HQ1.out HQ2.out HQ2.out (H85.out.rowZ HM.out hkN HQ2.out HX.out) (by decide) hgr
                      refine ⟨Or.inr hsb6.1, ?_⟩
                      try simp only [Act.put, List.getElem_toArray, List.getElem_cons_succ, List.getElem_cons_zero, List.setIfInBounds_toArray, List.set_cons_zero, List.set_cons_succ]
                      refine ekP 11 (v := .pointer (some ⟨gv, k * 3, none⟩)) (hx := fun u => exec_ixV u _ _ _ _ rfl gv k NV cd (by kernel_rfl) (by kernel_rfl) hkN (by omega)) (hS := hsb6.1) (h := ?_)
                      try simp only [Act.put, List.getElem_toArray, List.getElem_cons_succ, List.getElem_cons_zero, List.setIfInBounds_toArray, List.set_cons_zero, List.set_cons_succ]
                      refine ekP 12 (hS := hsb6.1) (h := ?_)
                      try simp only [Act.put, List.getElem_toArray, List.getElem_cons_succ, List.getElem_cons_zero, List.setIfInBounds_toArray, List.set_cons_zero, List.set_cons_succ]
                      refine wpAnyE_one 13 (by kernel_rfl) ?_
                      refine wpOp_skip _ rfl (by kernel_rfl) (exec_stZ _ _ _ _ _ rfl gv (k * 3 + 2) (some ⟨g6, 0, none⟩) N c6 _ (by kernel_rfl) (by kernel_rfl) hsb6.1.2.2.2 (hsb6.2 (k * 3 + 2))) ?_
                      refine ⟨Or.inl (by kernel_rfl), ?_⟩
                      try simp only [Act.put, List.getElem_toArray, List.getElem_cons_succ, List.getElem_cons_zero, List.setIfInBounds_toArray, List.set_cons_zero, List.set_cons_succ]
                      clear ho hgr hloc hsb6
                      refine wpAnyE_done (by kernel_rfl) ?_ _
                      go_wp2_with fail
                      go_roundw
                      · exact ⟨j - 1, Z ++ [1], _, _, by go_num, by omega, by simp; omega, HE.out, getD_set_k (by have := HM.out; omega), by rw [List.length_set]; exact HM.out, HSv.out.setB k _ ⟨HXb.out.1, HXb.out.2.1, HXb.out.2.2.1, by simp; omega⟩⟩
                      · simp [intOf]; omega

                    · have hjz : ¬ (j : Int) > 0 := by omega
                      have HE := hidd (HD.out.bf (by omega) HSv.out (A' := A + 150) (by omega))
                      go_wp2_with fail
                      go_meet
                      case rel => exact HE.out
                · have h5b : (rz == 5) = false := by simpa using h5
                  by_cases h0 : rz = 0
                  · subst h0
                    go_wp2_with fail
                    refine (nextS HD2.out.src hn (by omega) 2 (by omega) (by omega)).mono ?_
                    rintro e w4 ⟨y1, rfl, hy1, hs4, hb4⟩
                    have HD3 := hidd (HD2.out.draw hs4 hb4)
                    clear hs4 hb4 HD2
                    obtain ⟨K1, hK1⟩ : ∃ K : Nat, 30 + (y1 : Int) = (K : Int) := ⟨30 + y1, by omega⟩
                    go_wp2_with fail
                    refine (repeatS ⟨#[105]⟩ K1 w4 (by decide) (by omega)).mono ?_
                    rintro e w5 ⟨l1, rfl, hl1', hb5⟩
                    have hl1 : l1.length ≤ 40 := by have h1 : (⟨#[105]⟩ : ByteArray).size = 1 := rfl; rw [h1] at hl1'; omega
                    have HD4 := hidd (HD3.out.below hb5)
                    clear hb5 hl1' HD3
                    go_wp2_with fail
                    have hba : Below w5.heap.size w5 (w5.alloc (.cells #[.string ⟨#[]⟩, .string ⟨#[97, 32, 98]⟩, .string ⟨#[127]⟩, .string ⟨l1.toArray⟩] 9)) := (Below.refl _ _).alloc (Nat.le_refl _) _
                    have HD5 := hidd (HD4.out.below hba)
                    have HT5 := hidd (heap_alloc_new w5 (.cells #[.string ⟨#[]⟩, .string ⟨#[97, 32, 98]⟩, .string ⟨#[127]⟩, .string ⟨l1.toArray⟩] 9))
                    have HTb : Hid (b < w5.heap.size) := HD4.out.src.lt
                    clear hba HD4
                    obtain ⟨tq, htq⟩ : ∃ g, w5.heap.size = g := ⟨_, rfl⟩
                    rw [htq] at HT5 HTb
                    simp only [htq]
                    clear htq
                    generalize w5.alloc (.cells #[.string ⟨#[]⟩, .string ⟨#[97, 32, 98]⟩, .string ⟨#[127]⟩, .string ⟨l1.toArray⟩] 9) = w6 at *
                    refine (nextS HD5.out.src hn (by omega) 4 (by omega) (by omega)).mono ?_
                    rintro e w7 ⟨y, rfl, hy, hs7, hb7⟩
                    have HD6 := hidd (HD5.out.draw hs7 hb7)
                    have HT7 := hidd (hb7.blk HT5.out (fun e => by have := HTb.out; omega))
                    clear hs7 hb7 HD5 HT5
                    obtain ⟨tl, htl, hcl⟩ := tab4_at y (by omega) (t0 := []) (t1 := [97, 32, 98]) (t2 := [127]) (t3 := l1) 40 (by decide) (by decide) (by decide) hl1 HT7.out
                    have hyz : (y : Int) < 4 := by omega
                    have HE := hidd ((HD6.out.setId tl).bf htl HSm.out.b (A' := A + 150) (by omega))
                    have b0 := blkc HD6.out.box 0
                    have b0f := blkf HD6.out.box 0
                    simp only [List.getElem?_toArray, List.getElem?_cons_zero] at b0
                    go_wp2_with fail
                    go_meet
                    case rel => exact HE.out
                  · have h0b : (rz == 0) = false := by simpa using h0
                    have HE := hidd (HD2.out.bf (by omega) HSm.out.b (A' := A + 150) (by omega))
                    go_wp2_with fail
                    go_meet
                    case rel => exact HE.out
    case rest =>
      obtain ⟨did', dv', V', ys', hd', hSm', hs', hb', hbx, hrs, hdv, hkr⟩ := hcut
      obtain ⟨a', c', rfl⟩ := own_slice hdv.row
      obtain ⟨N', hN'⟩ : ∃ N, V'.length = N := ⟨_, rfl⟩
      rw [hN'] at hbx hdv
      have HRL := hidd HD2.out.rl
      have HCB := hidd HD2.out.cb
      have HF := hidd (BF.end (A' := A + 200) hN' hd' hSm' hs' hb' hrs hdv HRL.out HCB.out hkr (by omega))
      have z0 := blkc hbx 0
      have z1 := blkc hbx 1
      have r0 := blkc hrs 0
      have r1 := blkc hrs 1
      have f0 := blkf hrs 0
      have f1 := blkf hrs 1
      have HRS := hidd hrs
      simp only [List.getElem?_toArray, List.getElem?_cons_zero, List.getElem?_cons_succ] at z0 z1 r0 r1
      clear hN' hd' hSm' hs' hb' hbx hrs hdv hkr HD2
      go_wp2
      have k1 := blk_setk (blk_setk HRS.out 0 (.string ⟨did'.toArray⟩)) 1 (.slice a' N' c')
      have hfin := HF.out
      refine bodyPost_ret (v := .agg #[.string ⟨did'.toArray⟩, .slice a' N' c']) ?_ rfl hfin
      clear hfin z0 z1 r0 r1 f0 f1
      generalize (wc.setCell ⟨g4, 0, none⟩ (.string ⟨did'.toArray⟩)).setCell ⟨g4, 1, none⟩ (.slice a' N' c') = wf at *
      have z0 := blkc k1 0
      have z1 := blkc k1 1
      simp at z0 z1
      simp [results, Tryz.results16, go_sem, z0, z1]
end Go.Proofs.YtpdiaddgialanaaGreatDoor
