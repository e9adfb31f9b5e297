import Derived.Test.YtkgmghncpjhodabSkE
import Derived.Test.YtkgmghncpjhodabSkKs
namespace Go.Proofs.Ytkgmghncpjhodab
open Go Go.RowKit
set_option linter.unusedVariables false
set_option linter.unusedSimpArgs false
set_option maxRecDepth 100000

/-! The law of SketchJoin. -/
theorem set1 {W : World} {b : Nat} {x0 : Value} {t : TypeId} (h : W.heap[b]? = some (.cells #[x0] t)) (y0 : Value) : (W.setCell ⟨b, 0, none⟩ y0).heap[b]? = some (.cells #[y0] t) := by
  have h1 := blk_setk h 0 y0
  simpa using h1
theorem tyK {ty : TypeId} (h : ty = 3 ∨ ty = 49) : (27 : TypeId) ≠ ty := by rcases h with rfl | rfl <;> decide
theorem tyL {ty : TypeId} (h : ty = 3 ∨ ty = 49) : (24 : TypeId) ≠ ty := by rcases h with rfl | rfl <;> decide
theorem own_sl1 {W : World} {base e n : Nat} {v : Value} {xs : List Value} (h : W.ownsRow base e 1 v n xs) : ∃ ad cap, v = .slice ad n cap := own_slK h
theorem exec_allocD (W : World) (ρ : Operand → Value) (o : Oper) (ho : o.op = .alloc 27) : (execOp ρ o).run Try.prog W = .ok (.value (.pointer (some ⟨W.heap.size, 0, none⟩))) (W.alloc (.cells #[.slice none 0 0] 27)) := by
  unfold execOp
  simp only [ho, Sem.run_bind, Sem.run_pure, Result.andThen_ok]
  go_simp
theorem exec_storeD (W : World) (ρ : Operand → Value) (o : Oper) (x y : Operand) (ho : o.op = .store 27 x y) (b : Nat) (r0 : Value) (a3 : Option Addr) (n3 c3 : Nat) (hx : ρ x = .pointer (some ⟨b, 0, none⟩)) (hy : ρ y = .agg #[.slice a3 n3 c3])
    (h : W.heap[b]? = some (.cells #[r0] 27)) : (execOp ρ o).run Try.prog W = .ok .skip (W.setCell ⟨b, 0, none⟩ (.slice a3 n3 c3)) := by
  have c0' : W.cell? ⟨b, 0, none⟩ = some r0 := blkc h 0
  have f0 := blkf h 0
  clear h
  unfold execOp
  simp only [ho, hx, hy, Sem.run_bind, Sem.run_pure, Result.andThen_ok]
  go_simp
theorem exec_loadL (W : World) (ρ : Operand → Value) (o : Oper) (x : Operand) (ho : o.op = .load 24 x) (b : Nat) (a3 : Option Addr) (n3 c3 : Nat) (hx : ρ x = .pointer (some ⟨b, 0, none⟩))
    (h : W.heap[b]? = some (.cells #[.slice a3 n3 c3] 24)) : (execOp ρ o).run Try.prog W = .ok (.value (.agg #[.slice a3 n3 c3])) W := by
  have c0' : W.cell? ⟨b, 0, none⟩ = some (.slice a3 n3 c3) := blkc h 0
  clear h
  unfold execOp
  simp only [ho, hx, Sem.run_bind, Sem.run_pure, Result.andThen_ok]
  go_simp
theorem exec_loadD (W : World) (ρ : Operand → Value) (o : Oper) (x : Operand) (ho : o.op = .load 27 x) (b : Nat) (a3 : Option Addr) (n3 c3 : Nat) (hx : ρ x = .pointer (some ⟨b, 0, none⟩))
    (h : W.heap[b]? = some (.cells #[.slice a3 n3 c3] 27)) : (execOp ρ o).run Try.prog W = .ok (.value (.agg #[.slice a3 n3 c3])) W := by
  have c0' : W.cell? ⟨b, 0, none⟩ = some (.slice a3 n3 c3) := blkc h 0
  clear h
  unfold execOp
  simp only [ho, hx, Sem.run_bind, Sem.run_pure, Result.andThen_ok]
  go_simp
/-- A sketch in a box, with a row of its own. -/
structure Bx (W : World) (base B ty : Nat) (ad : Option Addr) (n cp : Nat) (xs : List Value) : Prop where
  box : W.heap[B]? = some (.cells #[.slice ad n cp] 27)
  row : W.ownsRow base ty 1 (.slice ad n cp) n xs
theorem Bx.below {W W' : World} {base B ty : Nat} {ad : Option Addr} {n cp : Nat} {xs : List Value} (h : Bx W base B ty ad n cp xs) (hb : Below W.heap.size W W') : Bx W' base B ty ad n cp xs := ⟨blko h.box hb, own_below h.row hb⟩
theorem Bx.grown {W W' : World} {base B ty g : Nat} {ad : Option Addr} {n cp : Nat} {xs : List Value} {cur : Array Value} (h : Bx W base B ty ad n cp xs) (hg : W.grownBy W' (some g)) (hgt : W.heap[g]? = some (.cells cur 3)) (hne : ∀ b, (Value.slice ad n cp).ownBlock = some b → b ≠ g) : Bx W' base B ty ad n cp xs :=
  ⟨(hg.block B (Array.getElem?_eq_some_iff.1 h.box).1 (fun e => blk_ne h.box hgt (by decide) (Option.some.inj e))).trans h.box, own_congr h.row (fun b hb => hg.block b (by
      obtain ⟨_, cur', h5⟩ := own_blk h.row hb
      exact (Array.getElem?_eq_some_iff.1 h5).1) (fun e => hne b hb (Option.some.inj e)))⟩
def CutJ (w2 : World) (jz : List Int) (code : Int) (v c : Value) (wy : World) : Prop :=
  ∃ (B ty : Nat) (ad : Option Addr) (cp : Nat), (ty = 3 ∨ ty = 49) ∧ v = .pointer (some ⟨B, 0, none⟩) ∧ c = .int .i64 code ∧ Bx wy w2.heap.size B ty ad jz.length cp (zI jz) ∧ Below w2.heap.size w2 wy
theorem eqD_n (t1 t2 b1 b2 : Nat) (v1 v2 : Value) (zs : List Int) (n : Nat) (w : World) (hn : zs.length = n) (hl : n ≤ 1048576)
    (h1 : w.ownsRow b1 t1 1 v1 n (zI zs)) (h2 : w.ownsRow b2 t2 1 v2 n (zI zs)) :
    Calls Try.prog 10 #[.agg #[v1], .agg #[v2]] w fun e w' => e = .returned (.bool true) ∧ Below w.heap.size w w' := by
  subst hn
  exact eqSketchE_same t1 t2 b1 b2 v1 v2 zs w hl h1 h2
set_option maxHeartbeats 16000000 in
theorem skJoinLaw_any (u1 u2 : Value) (z1 z2 : List Int) (w : World) (hl1 : z1.length ≤ 9223372036854775807) (hl2 : z2.length ≤ 9223372036854775807) (hv1 : HoldI w u1 z1) (hv2 : HoldI w u2 z2) :
    Calls Try.prog 4 #[.agg #[u1], .agg #[u2]] w fun e w' => e = .returned (.bool true) ∧ Below w.heap.size w w' := by
  have HV1 := hidd hv1
  have HV2 := hidd hv2
  obtain ⟨ad1, k1, rfl, -⟩ := hv1
  obtain ⟨ad2, k2, rfl, -⟩ := hv2
  obtain ⟨n1, hn1⟩ : ∃ n, z1.length = n := ⟨_, rfl⟩
  obtain ⟨n2, hn2⟩ : ∃ n, z2.length = n := ⟨_, rfl⟩
  rw [hn1] at HV1 hl1
  rw [hn2] at HV2 hl2
  rw [hn1, hn2]
  have HN1 := hidd hn1
  have HN2 := hidd hn2
  clear hn1 hn2
  have hk := box_two w (.cells #[.slice ad1 n1 k1] 24) (.cells #[.slice ad2 n2 k2] 24)
  obtain ⟨W0, hW0⟩ : ∃ W, (w.alloc (.cells #[.slice ad1 n1 k1] 24)).alloc (.cells #[.slice ad2 n2 k2] 24) = W := ⟨_, rfl⟩
  have HB0 : Hid (Below w.heap.size w W0) := by show Below _ _ _; rw [← hW0]; exact ((Below.refl _ _).alloc (Nat.le_refl _) _).alloc (by simp) _
  rw [hW0] at hk
  have HKa := hidd hk.1
  have HKb := hidd hk.2
  clear hk
  have HSz1 : Hid (∀ W, Calls Try.prog 6 #[.agg #[.slice ad1 n1 k1], .int .i64 1048576] W fun e w' => e = .returned (.int .i64 (szL 1048576 n1)) ∧ Below W.heap.size W w') := fun W => szSketchL_any ad1 n1 k1 1048576 W (by omega) (by omega) hl1
  obtain ⟨X, hX⟩ : ∃ X, szL 1048576 n1 = X := ⟨_, rfl⟩
  rw [hX] at HSz1
  have hXr : X ≤ 1048576 := by rw [← hX]; unfold szL; split <;> omega
  have HX := hidd hX
  clear hX
  have a0 : W0.cell? ⟨w.heap.size, 0, none⟩ = some (.slice ad1 n1 k1) := blkc HKa.out 0
  go_enter Try.func4, Try.ntmps4
  go_upto_region 1 with fail
  try rw [hW0]
  clear hW0
  go_wp2_with fail
  refine (HSz1.out _).mono ?_
  rintro e w1 ⟨rfl, hb1⟩
  have HB1 := hidd (HB0.out.trans (hb1.mono HB0.out.size))
  replace HKa := hidd (blko HKa.out hb1)
  replace HKb := hidd (blko HKb.out hb1)
  clear hb1 HSz1 HB0 a0
  by_cases hX0 : X < 0
  · go_wp2_with fail
    go_ret
    exact ⟨rfl, HB1.out⟩
  have hm1 : (n1 : Int) ≤ 1048576 := szL_ok (by rw [HX.out]; exact hX0)
  have HSz2 : Hid (∀ W, Calls Try.prog 6 #[.agg #[.slice ad2 n2 k2], .int .i64 X] W fun e w' => e = .returned (.int .i64 (szL X n2)) ∧ Below W.heap.size W w') := fun W => szSketchL_any ad2 n2 k2 X W (by omega) hXr hl2
  obtain ⟨Y, hY⟩ : ∃ Y, szL X n2 = Y := ⟨_, rfl⟩
  rw [hY] at HSz2
  have HY := hidd hY
  clear hY
  have b0 : w1.cell? ⟨w.heap.size + 1, 0, none⟩ = some (.slice ad2 n2 k2) := blkc HKb.out 0
  go_wp2_with fail
  refine (HSz2.out _).mono ?_
  rintro e w2 ⟨rfl, hb2⟩
  have HB2 := hidd (HB1.out.trans (hb2.mono HB1.out.size))
  replace HKa := hidd (blko HKa.out hb2)
  replace HKb := hidd (blko HKb.out hb2)
  clear hb2 HSz2 HB1 b0
  by_cases hY0 : Y < 0
  · go_wp2_with fail
    go_ret
    exact ⟨rfl, HB2.out⟩
  have hm2 : (n2 : Int) ≤ X := szL_ok (by rw [HY.out]; exact hY0)
  have hq1 : n1 ≤ 1048576 := by omega
  have hq2 : n2 ≤ 1048576 := by omega
  clear hm1 hm2 HX HY hl1 hl2
  have hwz : w.heap.size + 1 < w2.heap.size := (Array.getElem?_eq_some_iff.1 HKb.out).1
  have HT1 : Hid (∀ V, Below w.heap.size w V → Calls Try.prog 8 #[.agg #[.slice ad1 n1 k1]] V fun e w' => ∃ g, e = .returned (.agg #[.slice (some ⟨g, 0, none⟩) n1 n1]) ∧ V.heap.size ≤ g ∧ w'.ownsRow V.heap.size 3 1 (.slice (some ⟨g, 0, none⟩) n1 n1) n1 (zI z1) ∧ Below V.heap.size V w') := fun V hV => by
    have h := toSketch_any (.slice ad1 n1 k1) z1 V (by rw [HN1.out]; exact hq1) (HV1.out.below hV)
    rw [HN1.out] at h
    exact h
  have HT2 : Hid (∀ V, Below w.heap.size w V → Calls Try.prog 8 #[.agg #[.slice ad2 n2 k2]] V fun e w' => ∃ g, e = .returned (.agg #[.slice (some ⟨g, 0, none⟩) n2 n2]) ∧ V.heap.size ≤ g ∧ w'.ownsRow V.heap.size 3 1 (.slice (some ⟨g, 0, none⟩) n2 n2) n2 (zI z2) ∧ Below V.heap.size V w') := fun V hV => by
    have h := toSketch_any (.slice ad2 n2 k2) z2 V (by rw [HN2.out]; exact hq2) (HV2.out.below hV)
    rw [HN2.out] at h
    exact h
  have HSp : Hid (∀ V b1 b2 gq gp, V.ownsRow b1 3 1 (.slice (some ⟨gq, 0, none⟩) n1 n1) n1 (zI z1) → V.ownsRow b2 3 1 (.slice (some ⟨gp, 0, none⟩) n2 n2) n2 (zI z2) → Calls Try.prog 11 #[.agg #[.slice (some ⟨gq, 0, none⟩) n1 n1], .agg #[.slice (some ⟨gp, 0, none⟩) n2 n2]] V (SkR V (joS z1 z2))) := fun V b1 b2 gq gp h1 h2 =>
    specSkJoin_any _ _ z1 z2 V (by rw [HN1.out]; exact hq1) (by rw [HN2.out]; exact hq2) (by have h := h1; rw [← HN1.out] at h ⊢; exact HoldI.own h) (by have h := h2; rw [← HN2.out] at h ⊢; exact HoldI.own h)
  have HIm : Hid (∀ V b1 b2 gq gp, V.ownsRow b1 3 1 (.slice (some ⟨gq, 0, none⟩) n1 n1) n1 (zI z1) → V.ownsRow b2 3 1 (.slice (some ⟨gp, 0, none⟩) n2 n2) n2 (zI z2) → Calls Try.prog 12 #[.agg #[.slice (some ⟨gq, 0, none⟩) n1 n1], .agg #[.slice (some ⟨gp, 0, none⟩) n2 n2]] V (SkR V (joS z1 z2))) := fun V b1 b2 gq gp h1 h2 =>
    implSkJoin_any _ _ z1 z2 V (by rw [HN1.out]; exact hq1) (by rw [HN2.out]; exact hq2) (by have h := h1; rw [← HN1.out] at h ⊢; exact HoldI.own h) (by have h := h2; rw [← HN2.out] at h ⊢; exact HoldI.own h)
  have hJl := joS_len z1 z2
  generalize joS z1 z2 = J at *
  obtain ⟨jz, code⟩ := J
  dsimp only at hJl
  unfold SkR at HSp HIm
  dsimp only at HSp HIm
  have hcc : (code != code) = false := by simp
  go_upto_region 8 with fail
  go_cut [6, 7] (fun v c wy => CutJ w2 jz code v c wy)
  case first =>
    refine wp_region_held (S := fun u => u.heap[w.heap.size]? = some (.cells #[.slice ad1 n1 k1] 24) ∧ u.heap[w.heap.size + 1]? = some (.cells #[.slice ad2 n2 k2] 24)) (by kernel_rfl) ?_
    have hbd : Below w2.heap.size w2 ({ heap := w2.heap, tape := w2.tape, drawn := w2.drawn + 1, os := w2.os, output := w2.output } : World) := (Below.refl _ _).drew
    generalize ({ heap := w2.heap, tape := w2.tape, drawn := w2.drawn + 1, os := w2.os, output := w2.output } : World) = Wd at *
    have hSd : (fun u => u.heap[w.heap.size]? = some (.cells #[.slice ad1 n1 k1] 24) ∧ u.heap[w.heap.size + 1]? = some (.cells #[.slice ad2 n2 k2] 24)) Wd := ⟨blko HKa.out hbd, blko HKb.out hbd⟩
    try simp only [Act.put, List.getElem_toArray, List.getElem_cons_succ, List.getElem_cons_zero, List.setIfInBounds_toArray, List.set_cons_zero, List.set_cons_succ]
    refine wpAnyH_take (i := 0) (v := .agg #[.slice ad1 n1 k1]) rfl (by kernel_rfl) (by kernel_rfl) (by kernel_rfl) (fun _ _ _ h => h) (Or.inl ⟨by kernel_rfl, fun W hW => exec_loadL W _ _ _ rfl w.heap.size ad1 n1 k1 (by kernel_rfl) hW.1⟩) hSd ?_
    try simp only [Act.put, List.getElem_toArray, List.getElem_cons_succ, List.getElem_cons_zero, List.setIfInBounds_toArray, List.set_cons_zero, List.set_cons_succ]
    refine wpAnyH_take (i := 2) (v := .agg #[.slice ad2 n2 k2]) rfl (by kernel_rfl) (by kernel_rfl) (by kernel_rfl) (fun _ _ _ h => h) (Or.inl ⟨by kernel_rfl, fun W hW => exec_loadL W _ _ _ rfl (w.heap.size + 1) ad2 n2 k2 (by kernel_rfl) hW.2⟩) hSd ?_
    try simp only [Act.put, List.getElem_toArray, List.getElem_cons_succ, List.getElem_cons_zero, List.setIfInBounds_toArray, List.set_cons_zero, List.set_cons_succ]
    have hVd := HB2.out.trans (hbd.mono HB2.out.size)
    refine wpAnyH_two 1 8 (by kernel_rfl) ?_ ?_
    · refine wpOp_call 8 #[.agg #[.slice ad1 n1 k1]] rfl (by kernel_rfl) (rbx_call1 _ _ _ _ _ _ rfl _ (by kernel_rfl) (Try.call8 _ _)) ?_
      refine (HT1.out Wd hVd).mono ?_
      rintro e1 V1 ⟨g1, rfl, hg1, ho1, hb1⟩
      have hB1 : Below w2.heap.size w2 V1 := hbd.trans (hb1.mono hbd.size)
      have hV1 := HB2.out.trans (hB1.mono HB2.out.size)
      refine ⟨⟨blko HKa.out hB1, blko HKb.out hB1⟩, ?_⟩
      try dsimp only
      try simp only [Act.put, List.getElem_toArray, List.getElem_cons_succ, List.getElem_cons_zero, List.setIfInBounds_toArray, List.set_cons_zero, List.set_cons_succ]
      refine wpAnyH_two 3 8 (by kernel_rfl) ?_ ?_
      · refine wpOp_call 8 #[.agg #[.slice ad2 n2 k2]] rfl (by kernel_rfl) (rbx_call1 _ _ _ _ _ _ rfl _ (by kernel_rfl) (Try.call8 _ _)) ?_
        refine (HT2.out V1 hV1).mono ?_
        rintro e3 V3 ⟨g3, rfl, hg3, ho3, hb3⟩
        have hB3 : Below w2.heap.size w2 V3 := hB1.trans (hb3.mono hB1.size)
        have hV3 := HB2.out.trans (hB3.mono HB2.out.size)
        have hr3q := own_below ho1 hb3
        refine ⟨⟨blko HKa.out hB3, blko HKb.out hB3⟩, ?_⟩
        try dsimp only
        try simp only [Act.put, List.getElem_toArray, List.getElem_cons_succ, List.getElem_cons_zero, List.setIfInBounds_toArray, List.set_cons_zero, List.set_cons_succ]
        refine wpAnyH_two 4 8 (by kernel_rfl) ?_ ?_
        · refine wpOp_call 11 #[.agg #[.slice (some ⟨g1, 0, none⟩) n1 n1], .agg #[.slice (some ⟨g3, 0, none⟩) n2 n2]] rfl (by kernel_rfl) (rbx_call2 _ _ _ _ _ _ _ _ rfl _ _ (by kernel_rfl) (by kernel_rfl) (Try.call11 _ _)) ?_
          refine (HSp.out V3 _ _ g1 g3 hr3q ho3).mono ?_
          rintro e5 V5 ⟨ty5, v5, hty5, rfl, ho5, hb5⟩
          try dsimp only at ho5
          obtain ⟨ad5, cp5, rfl⟩ := own_sl1 ho5
          have hB5 : Below w2.heap.size w2 V5 := hB3.trans (hb5.mono hB3.size)
          have hV5 := HB2.out.trans (hB5.mono HB2.out.size)
          refine ⟨⟨blko HKa.out hB5, blko HKb.out hB5⟩, ?_⟩
          try dsimp only
          try simp only [Act.put, List.getElem_toArray, List.getElem_cons_succ, List.getElem_cons_zero, List.setIfInBounds_toArray, List.set_cons_zero, List.set_cons_succ]
          refine tkX 5 (hS := ⟨blko HKa.out hB5, blko HKb.out hB5⟩) (h := ?_)
          try simp only [Act.put, List.getElem_toArray, List.getElem_cons_succ, List.getElem_cons_zero, List.setIfInBounds_toArray, List.set_cons_zero, List.set_cons_succ]
          refine tkX 6 (v := .agg #[.slice ad5 jz.length cp5]) (hS := ⟨blko HKa.out hB5, blko HKb.out hB5⟩) (h := ?_)
          try simp only [Act.put, List.getElem_toArray, List.getElem_cons_succ, List.getElem_cons_zero, List.setIfInBounds_toArray, List.set_cons_zero, List.set_cons_succ]
          refine tkX 7 (v := .int .i64 code) (hS := ⟨blko HKa.out hB5, blko HKb.out hB5⟩) (h := ?_)
          try simp only [Act.put, List.getElem_toArray, List.getElem_cons_succ, List.getElem_cons_zero, List.setIfInBounds_toArray, List.set_cons_zero, List.set_cons_succ]
          have hrm7 := own_mono ho5 hB3.size
          refine wpAnyH_one 8 (by kernel_rfl) ?_
          refine wpOp_val _ _ rfl (by kernel_rfl) (exec_allocD _ _ _ rfl) ?_
          have hal8 : Below V5.heap.size V5 (V5.alloc (.cells #[.slice none 0 0] 27)) := (Below.refl _ _).alloc (Nat.le_refl _) _
          have hx8 := heap_alloc_new V5 (.cells #[.slice none 0 0] 27)
          have hB8 : Below w2.heap.size w2 (V5.alloc (.cells #[.slice none 0 0] 27)) := hB5.trans (hal8.mono hB5.size)
          have hV8 := HB2.out.trans (hB8.mono HB2.out.size)
          have hr8j := own_below hrm7 hal8
          obtain ⟨V8, hVe8⟩ : ∃ V, V5.alloc (.cells #[.slice none 0 0] 27) = V := ⟨_, rfl⟩
          rw [hVe8] at hal8 hx8 hB8 hV8 hr8j
          rw [hVe8]
          clear hVe8
          refine ⟨⟨blko HKa.out hB8, blko HKb.out hB8⟩, ?_⟩
          try simp only [Act.put, List.getElem_toArray, List.getElem_cons_succ, List.getElem_cons_zero, List.setIfInBounds_toArray, List.set_cons_zero, List.set_cons_succ]
          refine wpAnyH_one 9 (by kernel_rfl) ?_
          refine wpOp_skip _ rfl (by kernel_rfl) (exec_storeD V8 _ _ _ _ rfl (V5.heap.size) _ ad5 jz.length cp5 (by kernel_rfl) (by kernel_rfl) hx8) ?_
          have hlB9 : w2.heap.size ≤ V5.heap.size := hB5.size
          have hs9 := set1 hx8 (.slice ad5 jz.length cp5)
          have hqa9 := (heap_set_other V8 (V5.heap.size) 0 (.slice ad5 jz.length cp5) w.heap.size (by omega)).trans (blko HKa.out hB8)
          have hqb9 := (heap_set_other V8 (V5.heap.size) 0 (.slice ad5 jz.length cp5) (w.heap.size + 1) (by omega)).trans (blko HKb.out hB8)
          refine ⟨⟨hqa9, hqb9⟩, ?_⟩
          try simp only [Act.put, List.getElem_toArray, List.getElem_cons_succ, List.getElem_cons_zero, List.setIfInBounds_toArray, List.set_cons_zero, List.set_cons_succ]
          refine tkX 10 (hS := ⟨hqa9, hqb9⟩) (h := ?_)
          try simp only [Act.put, List.getElem_toArray, List.getElem_cons_succ, List.getElem_cons_zero, List.setIfInBounds_toArray, List.set_cons_zero, List.set_cons_succ]
          refine wpAnyH_done (by kernel_rfl) ?_ _
          have HF9 : Hid (CutJ w2 jz code (.pointer (some ⟨V5.heap.size, 0, none⟩)) (.int .i64 code) (V8.setCell ⟨V5.heap.size, 0, none⟩ (.slice ad5 jz.length cp5))) := by
            refine ⟨V5.heap.size, ty5, ad5, cp5, hty5, rfl, rfl, ⟨hs9, own_congr hr8j (fun b hb => heap_set_other _ _ _ _ _ (fun e => ?_))⟩, ?_⟩
            · subst e
              obtain ⟨_, cur, h5⟩ := own_blk hr8j hb
              exact blk_ne hx8 h5 (tyK hty5) rfl
            · exact hB8.setCell (p := ⟨V5.heap.size, 0, none⟩) hlB9 _
          go_wp2_with fail
          go_meet
          exact HF9.out
        · refine wpOp_val _ _ rfl (by kernel_rfl) (exec_allocD _ _ _ rfl) ?_
          have hal6 : Below V3.heap.size V3 (V3.alloc (.cells #[.slice none 0 0] 27)) := (Below.refl _ _).alloc (Nat.le_refl _) _
          have hx6 := heap_alloc_new V3 (.cells #[.slice none 0 0] 27)
          have hB6 : Below w2.heap.size w2 (V3.alloc (.cells #[.slice none 0 0] 27)) := hB3.trans (hal6.mono hB3.size)
          have hV6 := HB2.out.trans (hB6.mono HB2.out.size)
          have hr6q := own_below hr3q hal6
          have hr6p := own_below ho3 hal6
          obtain ⟨V6, hVe6⟩ : ∃ V, V3.alloc (.cells #[.slice none 0 0] 27) = V := ⟨_, rfl⟩
          rw [hVe6] at hal6 hx6 hB6 hV6 hr6q hr6p
          rw [hVe6]
          clear hVe6
          refine ⟨⟨blko HKa.out hB6, blko HKb.out hB6⟩, ?_⟩
          try simp only [Act.put, List.getElem_toArray, List.getElem_cons_succ, List.getElem_cons_zero, List.setIfInBounds_toArray, List.set_cons_zero, List.set_cons_succ]
          refine wpAnyH_one 4 (by kernel_rfl) ?_
          refine wpOp_call 11 #[.agg #[.slice (some ⟨g1, 0, none⟩) n1 n1], .agg #[.slice (some ⟨g3, 0, none⟩) n2 n2]] rfl (by kernel_rfl) (rbx_call2 _ _ _ _ _ _ _ _ rfl _ _ (by kernel_rfl) (by kernel_rfl) (Try.call11 _ _)) ?_
          refine (HSp.out V6 _ _ g1 g3 hr6q hr6p).mono ?_
          rintro e10 V10 ⟨ty10, v10, hty10, rfl, ho10, hb10⟩
          try dsimp only at ho10
          obtain ⟨ad10, cp10, rfl⟩ := own_sl1 ho10
          have hB10 : Below w2.heap.size w2 V10 := hB6.trans (hb10.mono hB6.size)
          have hV10 := HB2.out.trans (hB10.mono HB2.out.size)
          have hx10 := blko hx6 hb10
          refine ⟨⟨blko HKa.out hB10, blko HKb.out hB10⟩, ?_⟩
          try dsimp only
          try simp only [Act.put, List.getElem_toArray, List.getElem_cons_succ, List.getElem_cons_zero, List.setIfInBounds_toArray, List.set_cons_zero, List.set_cons_succ]
          refine tkX 5 (hS := ⟨blko HKa.out hB10, blko HKb.out hB10⟩) (h := ?_)
          try simp only [Act.put, List.getElem_toArray, List.getElem_cons_succ, List.getElem_cons_zero, List.setIfInBounds_toArray, List.set_cons_zero, List.set_cons_succ]
          refine tkX 6 (v := .agg #[.slice ad10 jz.length cp10]) (hS := ⟨blko HKa.out hB10, blko HKb.out hB10⟩) (h := ?_)
          try simp only [Act.put, List.getElem_toArray, List.getElem_cons_succ, List.getElem_cons_zero, List.setIfInBounds_toArray, List.set_cons_zero, List.set_cons_succ]
          refine tkX 7 (v := .int .i64 code) (hS := ⟨blko HKa.out hB10, blko HKb.out hB10⟩) (h := ?_)
          try simp only [Act.put, List.getElem_toArray, List.getElem_cons_succ, List.getElem_cons_zero, List.setIfInBounds_toArray, List.set_cons_zero, List.set_cons_succ]
          have hrm11 := own_mono ho10 hB6.size
          refine wpAnyH_one 9 (by kernel_rfl) ?_
          refine wpOp_skip _ rfl (by kernel_rfl) (exec_storeD V10 _ _ _ _ rfl (V3.heap.size) _ ad10 jz.length cp10 (by kernel_rfl) (by kernel_rfl) hx10) ?_
          have hlB12 : w2.heap.size ≤ V3.heap.size := hB3.size
          have hs12 := set1 hx10 (.slice ad10 jz.length cp10)
          have hqa12 := (heap_set_other V10 (V3.heap.size) 0 (.slice ad10 jz.length cp10) w.heap.size (by omega)).trans (blko HKa.out hB10)
          have hqb12 := (heap_set_other V10 (V3.heap.size) 0 (.slice ad10 jz.length cp10) (w.heap.size + 1) (by omega)).trans (blko HKb.out hB10)
          refine ⟨⟨hqa12, hqb12⟩, ?_⟩
          try simp only [Act.put, List.getElem_toArray, List.getElem_cons_succ, List.getElem_cons_zero, List.setIfInBounds_toArray, List.set_cons_zero, List.set_cons_succ]
          refine tkX 10 (hS := ⟨hqa12, hqb12⟩) (h := ?_)
          try simp only [Act.put, List.getElem_toArray, List.getElem_cons_succ, List.getElem_cons_zero, List.setIfInBounds_toArray, List.set_cons_zero, List.set_cons_succ]
          refine wpAnyH_done (by kernel_rfl) ?_ _
          have HF12 : Hid (CutJ w2 jz code (.pointer (some ⟨V3.heap.size, 0, none⟩)) (.int .i64 code) (V10.setCell ⟨V3.heap.size, 0, none⟩ (.slice ad10 jz.length cp10))) := by
            refine ⟨V3.heap.size, ty10, ad10, cp10, hty10, rfl, rfl, ⟨hs12, own_congr hrm11 (fun b hb => heap_set_other _ _ _ _ _ (fun e => ?_))⟩, ?_⟩
            · subst e
              obtain ⟨_, cur, h5⟩ := own_blk hrm11 hb
              exact blk_ne hx10 h5 (tyK hty10) rfl
            · exact hB10.setCell (p := ⟨V3.heap.size, 0, none⟩) hlB12 _
          go_wp2_with fail
          go_meet
          exact HF12.out
      · refine wpOp_val _ _ rfl (by kernel_rfl) (exec_allocD _ _ _ rfl) ?_
        have hal4 : Below V1.heap.size V1 (V1.alloc (.cells #[.slice none 0 0] 27)) := (Below.refl _ _).alloc (Nat.le_refl _) _
        have hx4 := heap_alloc_new V1 (.cells #[.slice none 0 0] 27)
        have hB4 : Below w2.heap.size w2 (V1.alloc (.cells #[.slice none 0 0] 27)) := hB1.trans (hal4.mono hB1.size)
        have hV4 := HB2.out.trans (hB4.mono HB2.out.size)
        have hr4q := own_below ho1 hal4
        obtain ⟨V4, hVe4⟩ : ∃ V, V1.alloc (.cells #[.slice none 0 0] 27) = V := ⟨_, rfl⟩
        rw [hVe4] at hal4 hx4 hB4 hV4 hr4q
        rw [hVe4]
        clear hVe4
        refine ⟨⟨blko HKa.out hB4, blko HKb.out hB4⟩, ?_⟩
        try simp only [Act.put, List.getElem_toArray, List.getElem_cons_succ, List.getElem_cons_zero, List.setIfInBounds_toArray, List.set_cons_zero, List.set_cons_succ]
        refine wpAnyH_one 3 (by kernel_rfl) ?_
        refine wpOp_call 8 #[.agg #[.slice ad2 n2 k2]] rfl (by kernel_rfl) (rbx_call1 _ _ _ _ _ _ rfl _ (by kernel_rfl) (Try.call8 _ _)) ?_
        refine (HT2.out V4 hV4).mono ?_
        rintro e13 V13 ⟨g13, rfl, hg13, ho13, hb13⟩
        have hB13 : Below w2.heap.size w2 V13 := hB4.trans (hb13.mono hB4.size)
        have hV13 := HB2.out.trans (hB13.mono HB2.out.size)
        have hr13q := own_below hr4q hb13
        have hx13 := blko hx4 hb13
        refine ⟨⟨blko HKa.out hB13, blko HKb.out hB13⟩, ?_⟩
        try dsimp only
        try simp only [Act.put, List.getElem_toArray, List.getElem_cons_succ, List.getElem_cons_zero, List.setIfInBounds_toArray, List.set_cons_zero, List.set_cons_succ]
        refine wpAnyH_one 4 (by kernel_rfl) ?_
        refine wpOp_call 11 #[.agg #[.slice (some ⟨g1, 0, none⟩) n1 n1], .agg #[.slice (some ⟨g13, 0, none⟩) n2 n2]] rfl (by kernel_rfl) (rbx_call2 _ _ _ _ _ _ _ _ rfl _ _ (by kernel_rfl) (by kernel_rfl) (Try.call11 _ _)) ?_
        refine (HSp.out V13 _ _ g1 g13 hr13q ho13).mono ?_
        rintro e14 V14 ⟨ty14, v14, hty14, rfl, ho14, hb14⟩
        try dsimp only at ho14
        obtain ⟨ad14, cp14, rfl⟩ := own_sl1 ho14
        have hB14 : Below w2.heap.size w2 V14 := hB13.trans (hb14.mono hB13.size)
        have hV14 := HB2.out.trans (hB14.mono HB2.out.size)
        have hx14 := blko hx13 hb14
        refine ⟨⟨blko HKa.out hB14, blko HKb.out hB14⟩, ?_⟩
        try dsimp only
        try simp only [Act.put, List.getElem_toArray, List.getElem_cons_succ, List.getElem_cons_zero, List.setIfInBounds_toArray, List.set_cons_zero, List.set_cons_succ]
        refine tkX 5 (hS := ⟨blko HKa.out hB14, blko HKb.out hB14⟩) (h := ?_)
        try simp only [Act.put, List.getElem_toArray, List.getElem_cons_succ, List.getElem_cons_zero, List.setIfInBounds_toArray, List.set_cons_zero, List.set_cons_succ]
        refine tkX 6 (v := .agg #[.slice ad14 jz.length cp14]) (hS := ⟨blko HKa.out hB14, blko HKb.out hB14⟩) (h := ?_)
        try simp only [Act.put, List.getElem_toArray, List.getElem_cons_succ, List.getElem_cons_zero, List.setIfInBounds_toArray, List.set_cons_zero, List.set_cons_succ]
        refine tkX 7 (v := .int .i64 code) (hS := ⟨blko HKa.out hB14, blko HKb.out hB14⟩) (h := ?_)
        try simp only [Act.put, List.getElem_toArray, List.getElem_cons_succ, List.getElem_cons_zero, List.setIfInBounds_toArray, List.set_cons_zero, List.set_cons_succ]
        have hrm15 := own_mono ho14 hB13.size
        refine wpAnyH_one 9 (by kernel_rfl) ?_
        refine wpOp_skip _ rfl (by kernel_rfl) (exec_storeD V14 _ _ _ _ rfl (V1.heap.size) _ ad14 jz.length cp14 (by kernel_rfl) (by kernel_rfl) hx14) ?_
        have hlB16 : w2.heap.size ≤ V1.heap.size := hB1.size
        have hs16 := set1 hx14 (.slice ad14 jz.length cp14)
        have hqa16 := (heap_set_other V14 (V1.heap.size) 0 (.slice ad14 jz.length cp14) w.heap.size (by omega)).trans (blko HKa.out hB14)
        have hqb16 := (heap_set_other V14 (V1.heap.size) 0 (.slice ad14 jz.length cp14) (w.heap.size + 1) (by omega)).trans (blko HKb.out hB14)
        refine ⟨⟨hqa16, hqb16⟩, ?_⟩
        try simp only [Act.put, List.getElem_toArray, List.getElem_cons_succ, List.getElem_cons_zero, List.setIfInBounds_toArray, List.set_cons_zero, List.set_cons_succ]
        refine tkX 10 (hS := ⟨hqa16, hqb16⟩) (h := ?_)
        try simp only [Act.put, List.getElem_toArray, List.getElem_cons_succ, List.getElem_cons_zero, List.setIfInBounds_toArray, List.set_cons_zero, List.set_cons_succ]
        refine wpAnyH_done (by kernel_rfl) ?_ _
        have HF16 : Hid (CutJ w2 jz code (.pointer (some ⟨V1.heap.size, 0, none⟩)) (.int .i64 code) (V14.setCell ⟨V1.heap.size, 0, none⟩ (.slice ad14 jz.length cp14))) := by
          refine ⟨V1.heap.size, ty14, ad14, cp14, hty14, rfl, rfl, ⟨hs16, own_congr hrm15 (fun b hb => heap_set_other _ _ _ _ _ (fun e => ?_))⟩, ?_⟩
          · subst e
            obtain ⟨_, cur, h5⟩ := own_blk hrm15 hb
            exact blk_ne hx14 h5 (tyK hty14) rfl
          · exact hB14.setCell (p := ⟨V1.heap.size, 0, none⟩) hlB16 _
        go_wp2_with fail
        go_meet
        exact HF16.out
    · refine wpOp_val _ _ rfl (by kernel_rfl) (exec_allocD _ _ _ rfl) ?_
      have hal2 : Below Wd.heap.size Wd (Wd.alloc (.cells #[.slice none 0 0] 27)) := (Below.refl _ _).alloc (Nat.le_refl _) _
      have hx2 := heap_alloc_new Wd (.cells #[.slice none 0 0] 27)
      have hB2 : Below w2.heap.size w2 (Wd.alloc (.cells #[.slice none 0 0] 27)) := hbd.trans (hal2.mono hbd.size)
      have hV2 := HB2.out.trans (hB2.mono HB2.out.size)
      obtain ⟨V2, hVe2⟩ : ∃ V, Wd.alloc (.cells #[.slice none 0 0] 27) = V := ⟨_, rfl⟩
      rw [hVe2] at hal2 hx2 hB2 hV2
      rw [hVe2]
      clear hVe2
      refine ⟨⟨blko HKa.out hB2, blko HKb.out hB2⟩, ?_⟩
      try simp only [Act.put, List.getElem_toArray, List.getElem_cons_succ, List.getElem_cons_zero, List.setIfInBounds_toArray, List.set_cons_zero, List.set_cons_succ]
      refine wpAnyH_one 1 (by kernel_rfl) ?_
      refine wpOp_call 8 #[.agg #[.slice ad1 n1 k1]] rfl (by kernel_rfl) (rbx_call1 _ _ _ _ _ _ rfl _ (by kernel_rfl) (Try.call8 _ _)) ?_
      refine (HT1.out V2 hV2).mono ?_
      rintro e17 V17 ⟨g17, rfl, hg17, ho17, hb17⟩
      have hB17 : Below w2.heap.size w2 V17 := hB2.trans (hb17.mono hB2.size)
      have hV17 := HB2.out.trans (hB17.mono HB2.out.size)
      have hx17 := blko hx2 hb17
      refine ⟨⟨blko HKa.out hB17, blko HKb.out hB17⟩, ?_⟩
      try dsimp only
      try simp only [Act.put, List.getElem_toArray, List.getElem_cons_succ, List.getElem_cons_zero, List.setIfInBounds_toArray, List.set_cons_zero, List.set_cons_succ]
      refine wpAnyH_one 3 (by kernel_rfl) ?_
      refine wpOp_call 8 #[.agg #[.slice ad2 n2 k2]] rfl (by kernel_rfl) (rbx_call1 _ _ _ _ _ _ rfl _ (by kernel_rfl) (Try.call8 _ _)) ?_
      refine (HT2.out V17 hV17).mono ?_
      rintro e18 V18 ⟨g18, rfl, hg18, ho18, hb18⟩
      have hB18 : Below w2.heap.size w2 V18 := hB17.trans (hb18.mono hB17.size)
      have hV18 := HB2.out.trans (hB18.mono HB2.out.size)
      have hr18q := own_below ho17 hb18
      have hx18 := blko hx17 hb18
      refine ⟨⟨blko HKa.out hB18, blko HKb.out hB18⟩, ?_⟩
      try dsimp only
      try simp only [Act.put, List.getElem_toArray, List.getElem_cons_succ, List.getElem_cons_zero, List.setIfInBounds_toArray, List.set_cons_zero, List.set_cons_succ]
      refine wpAnyH_one 4 (by kernel_rfl) ?_
      refine wpOp_call 11 #[.agg #[.slice (some ⟨g17, 0, none⟩) n1 n1], .agg #[.slice (some ⟨g18, 0, none⟩) n2 n2]] rfl (by kernel_rfl) (rbx_call2 _ _ _ _ _ _ _ _ rfl _ _ (by kernel_rfl) (by kernel_rfl) (Try.call11 _ _)) ?_
      refine (HSp.out V18 _ _ g17 g18 hr18q ho18).mono ?_
      rintro e19 V19 ⟨ty19, v19, hty19, rfl, ho19, hb19⟩
      try dsimp only at ho19
      obtain ⟨ad19, cp19, rfl⟩ := own_sl1 ho19
      have hB19 : Below w2.heap.size w2 V19 := hB18.trans (hb19.mono hB18.size)
      have hV19 := HB2.out.trans (hB19.mono HB2.out.size)
      have hx19 := blko hx18 hb19
      refine ⟨⟨blko HKa.out hB19, blko HKb.out hB19⟩, ?_⟩
      try dsimp only
      try simp only [Act.put, List.getElem_toArray, List.getElem_cons_succ, List.getElem_cons_zero, List.setIfInBounds_toArray, List.set_cons_zero, List.set_cons_succ]
      refine tkX 5 (hS := ⟨blko HKa.out hB19, blko HKb.out hB19⟩) (h := ?_)
      try simp only [Act.put, List.getElem_toArray, List.getElem_cons_succ, List.getElem_cons_zero, List.setIfInBounds_toArray, List.set_cons_zero, List.set_cons_succ]
      refine tkX 6 (v := .agg #[.slice ad19 jz.length cp19]) (hS := ⟨blko HKa.out hB19, blko HKb.out hB19⟩) (h := ?_)
      try simp only [Act.put, List.getElem_toArray, List.getElem_cons_succ, List.getElem_cons_zero, List.setIfInBounds_toArray, List.set_cons_zero, List.set_cons_succ]
      refine tkX 7 (v := .int .i64 code) (hS := ⟨blko HKa.out hB19, blko HKb.out hB19⟩) (h := ?_)
      try simp only [Act.put, List.getElem_toArray, List.getElem_cons_succ, List.getElem_cons_zero, List.setIfInBounds_toArray, List.set_cons_zero, List.set_cons_succ]
      have hrm20 := own_mono ho19 hB18.size
      refine wpAnyH_one 9 (by kernel_rfl) ?_
      refine wpOp_skip _ rfl (by kernel_rfl) (exec_storeD V19 _ _ _ _ rfl (Wd.heap.size) _ ad19 jz.length cp19 (by kernel_rfl) (by kernel_rfl) hx19) ?_
      have hlB21 : w2.heap.size ≤ Wd.heap.size := hbd.size
      have hs21 := set1 hx19 (.slice ad19 jz.length cp19)
      have hqa21 := (heap_set_other V19 (Wd.heap.size) 0 (.slice ad19 jz.length cp19) w.heap.size (by omega)).trans (blko HKa.out hB19)
      have hqb21 := (heap_set_other V19 (Wd.heap.size) 0 (.slice ad19 jz.length cp19) (w.heap.size + 1) (by omega)).trans (blko HKb.out hB19)
      refine ⟨⟨hqa21, hqb21⟩, ?_⟩
      try simp only [Act.put, List.getElem_toArray, List.getElem_cons_succ, List.getElem_cons_zero, List.setIfInBounds_toArray, List.set_cons_zero, List.set_cons_succ]
      refine tkX 10 (hS := ⟨hqa21, hqb21⟩) (h := ?_)
      try simp only [Act.put, List.getElem_toArray, List.getElem_cons_succ, List.getElem_cons_zero, List.setIfInBounds_toArray, List.set_cons_zero, List.set_cons_succ]
      refine wpAnyH_done (by kernel_rfl) ?_ _
      have HF21 : Hid (CutJ w2 jz code (.pointer (some ⟨Wd.heap.size, 0, none⟩)) (.int .i64 code) (V19.setCell ⟨Wd.heap.size, 0, none⟩ (.slice ad19 jz.length cp19))) := by
        refine ⟨Wd.heap.size, ty19, ad19, cp19, hty19, rfl, rfl, ⟨hs21, own_congr hrm20 (fun b hb => heap_set_other _ _ _ _ _ (fun e => ?_))⟩, ?_⟩
        · subst e
          obtain ⟨_, cur, h5⟩ := own_blk hrm20 hb
          exact blk_ne hx19 h5 (tyK hty19) rfl
        · exact hB19.setCell (p := ⟨Wd.heap.size, 0, none⟩) hlB21 _
      go_wp2_with fail
      go_meet
      exact HF21.out
  case rest =>
  obtain ⟨B6, ty6, ad6, cp6, hty6, rfl, rfl, hx6, hb3⟩ := hcut
  have HT6 := hidd hty6
  clear hty6
  have HX6 := hidd hx6
  have HB3 := hidd (HB2.out.trans (hb3.mono HB2.out.size))
  replace HKa := hidd (blko HKa.out hb3)
  replace HKb := hidd (blko HKb.out hb3)
  have HV6 : Hid (∀ b, (Value.slice ad6 jz.length cp6).ownBlock = some b → b < wc.heap.size) := fun b hb => by
    obtain ⟨_, cur, h5⟩ := own_blk hx6.row hb
    exact (Array.getElem?_eq_some_iff.1 h5).1
  obtain ⟨w3, hw3⟩ : ∃ w3, w3 = wc := ⟨_, rfl⟩
  rw [← hw3] at HX6 HB3 HKa HKb HV6
  rw [← hw3]
  clear hw3 hx6 hb3 HSp
  have a0 : w3.cell? ⟨w.heap.size, 0, none⟩ = some (.slice ad1 n1 k1) := blkc HKa.out 0
  go_wp2_with fail
  refine (HT1.out _ HB3.out).mono ?_
  rintro e w4 ⟨g4, rfl, hg4, ho4, hb4⟩
  have HB4 := hidd (HB3.out.trans (hb4.mono HB3.out.size))
  replace HKa := hidd (blko HKa.out hb4)
  replace HKb := hidd (blko HKb.out hb4)
  replace HX6 := hidd (HX6.out.below hb4)
  have HO4 := hidd ho4
  have hz34 := hb4.size
  have hg4l : g4 < w4.heap.size := own_lt ho4
  clear ho4 hb4 a0
  go_upto_region 10 with fail
  have HBn : Hid (Below w4.heap.size w4 (w4.alloc (.cells #[.slice (some ⟨g4, 0, none⟩) n1 n1] 27))) := (Below.refl _ _).alloc (Nat.le_refl _) _
  have HKn := hidd (heap_alloc_new w4 (.cells #[.slice (some ⟨g4, 0, none⟩) n1 n1] 27))
  obtain ⟨w5, hwn⟩ : ∃ V, w4.alloc (.cells #[.slice (some ⟨g4, 0, none⟩) n1 n1] 27) = V := ⟨_, rfl⟩
  rw [hwn] at HBn HKn
  try rw [hwn]
  clear hwn
  have HX8 : Hid (Bx w5 w3.heap.size w4.heap.size 3 (some ⟨g4, 0, none⟩) n1 n1 (zI z1)) := ⟨HKn.out, own_below HO4.out HBn.out⟩
  have HB5 := hidd (HB4.out.trans (HBn.out.mono HB4.out.size))
  replace HKa := hidd (blko HKa.out HBn.out)
  replace HKb := hidd (blko HKb.out HBn.out)
  replace HX6 := hidd (HX6.out.below HBn.out)
  have hz45 := HBn.out.size
  clear HKn HBn HO4 HB4
  have b0 : w5.cell? ⟨w.heap.size + 1, 0, none⟩ = some (.slice ad2 n2 k2) := blkc HKb.out 0
  go_wp2_with fail
  refine (HT2.out _ HB5.out).mono ?_
  rintro e w6 ⟨g6, rfl, hg6, ho6, hb6⟩
  have HB6 := hidd (HB5.out.trans (hb6.mono HB5.out.size))
  replace HKa := hidd (blko HKa.out hb6)
  replace HKb := hidd (blko HKb.out hb6)
  replace HX6 := hidd (HX6.out.below hb6)
  replace HX8 := hidd (HX8.out.below hb6)
  have HO6 := hidd ho6
  have hz56 := hb6.size
  have hg6l : g6 < w6.heap.size := own_lt ho6
  clear ho6 hb6 b0
  go_upto_region 11 with fail
  have HBn : Hid (Below w6.heap.size w6 (w6.alloc (.cells #[.slice (some ⟨g6, 0, none⟩) n2 n2] 27))) := (Below.refl _ _).alloc (Nat.le_refl _) _
  have HKn := hidd (heap_alloc_new w6 (.cells #[.slice (some ⟨g6, 0, none⟩) n2 n2] 27))
  obtain ⟨w7, hwn⟩ : ∃ V, w6.alloc (.cells #[.slice (some ⟨g6, 0, none⟩) n2 n2] 27) = V := ⟨_, rfl⟩
  rw [hwn] at HBn HKn
  try rw [hwn]
  clear hwn
  have HX9 : Hid (Bx w7 w5.heap.size w6.heap.size 3 (some ⟨g6, 0, none⟩) n2 n2 (zI z2)) := ⟨HKn.out, own_below HO6.out HBn.out⟩
  have HB7 := hidd (HB6.out.trans (HBn.out.mono HB6.out.size))
  replace HKa := hidd (blko HKa.out HBn.out)
  replace HKb := hidd (blko HKb.out HBn.out)
  replace HX6 := hidd (HX6.out.below HBn.out)
  replace HX8 := hidd (HX8.out.below HBn.out)
  have hz67 := HBn.out.size
  clear HKn HBn HO6 HB5 HB6
  have x0 : w7.cell? ⟨w4.heap.size, 0, none⟩ = some (.slice (some ⟨g4, 0, none⟩) n1 n1) := blkc HX8.out.box 0
  have y0 : w7.cell? ⟨w6.heap.size, 0, none⟩ = some (.slice (some ⟨g6, 0, none⟩) n2 n2) := blkc HX9.out.box 0
  go_wp2_with fail
  refine (HIm.out _ _ _ _ _ HX8.out.row HX9.out.row).mono ?_
  rintro e w8 ⟨ty1, v1, hty1, rfl, ho1, hb8⟩
  have HT9 := hidd hty1
  clear hty1
  obtain ⟨ad1', cp1', rfl⟩ := own_sl1 ho1
  have HO1 := hidd ho1
  have HB8 := hidd (HB7.out.trans (hb8.mono HB7.out.size))
  replace HKa := hidd (blko HKa.out hb8)
  replace HKb := hidd (blko HKb.out hb8)
  replace HX6 := hidd (HX6.out.below hb8)
  replace HX8 := hidd (HX8.out.below hb8)
  replace HX9 := hidd (HX9.out.below hb8)
  have HVJ : Hid (∀ b, (Value.slice ad1' jz.length cp1').ownBlock = some b → w7.heap.size ≤ b) := fun b hb => (own_blk ho1 hb).1
  have hz78 := hb8.size
  clear ho1 hb8 x0 y0
  go_upto_region 12 with fail
  have HBn : Hid (Below w8.heap.size w8 (w8.alloc (.cells #[.slice ad1' jz.length cp1'] 27))) := (Below.refl _ _).alloc (Nat.le_refl _) _
  have HKn := hidd (heap_alloc_new w8 (.cells #[.slice ad1' jz.length cp1'] 27))
  obtain ⟨w9, hwn⟩ : ∃ V, w8.alloc (.cells #[.slice ad1' jz.length cp1'] 27) = V := ⟨_, rfl⟩
  rw [hwn] at HBn HKn
  try rw [hwn]
  clear hwn
  have HXA : Hid (Bx w9 w7.heap.size w8.heap.size ty1 ad1' jz.length cp1' (zI jz)) := ⟨HKn.out, own_below HO1.out HBn.out⟩
  have HB9 := hidd (HB8.out.trans (HBn.out.mono HB8.out.size))
  replace HKa := hidd (blko HKa.out HBn.out)
  replace HKb := hidd (blko HKb.out HBn.out)
  replace HX6 := hidd (HX6.out.below HBn.out)
  replace HX8 := hidd (HX8.out.below HBn.out)
  replace HX9 := hidd (HX9.out.below HBn.out)
  have hz89 := HBn.out.size
  clear HKn HBn HO1 HB7 HB8
  have x0 : w9.cell? ⟨w8.heap.size, 0, none⟩ = some (.slice ad1' jz.length cp1') := blkc HXA.out.box 0
  have y0 : w9.cell? ⟨B6, 0, none⟩ = some (.slice ad6 jz.length cp6) := blkc HX6.out.box 0
  go_wp2_with fail
  refine (eqSketchE_same _ _ _ _ _ _ jz _ hJl HXA.out.row HX6.out.row).mono ?_
  rintro e w10 ⟨rfl, hb10⟩
  have HB10 := hidd (HB9.out.trans (hb10.mono HB9.out.size))
  replace HKa := hidd (blko HKa.out hb10)
  replace HKb := hidd (blko HKb.out hb10)
  replace HX6 := hidd (HX6.out.below hb10)
  replace HX8 := hidd (HX8.out.below hb10)
  replace HX9 := hidd (HX9.out.below hb10)
  replace HXA := hidd (HXA.out.below hb10)
  clear hb10 x0 y0
  go_wp2_with fail
  refine wp_region_held (S := fun u => u.heap[w4.heap.size]? = some (.cells #[.slice (some ⟨g4, 0, none⟩) n1 n1] 27) ∧ u.heap[w.heap.size]? = some (.cells #[.slice ad1 n1 k1] 24)) (by kernel_rfl) ?_
  have hbd : Below w10.heap.size w10 ({ heap := w10.heap, tape := w10.tape, drawn := w10.drawn + 1, os := w10.os, output := w10.output } : World) := (Below.refl _ _).drew
  generalize ({ heap := w10.heap, tape := w10.tape, drawn := w10.drawn + 1, os := w10.os, output := w10.output } : World) = Wd at *
  have hSd : (fun u => u.heap[w4.heap.size]? = some (.cells #[.slice (some ⟨g4, 0, none⟩) n1 n1] 27) ∧ u.heap[w.heap.size]? = some (.cells #[.slice ad1 n1 k1] 24)) Wd := ⟨blko HX8.out.box hbd, blko HKa.out hbd⟩
  try simp only [Act.put, List.getElem_toArray, List.getElem_cons_succ, List.getElem_cons_zero, List.setIfInBounds_toArray, List.set_cons_zero, List.set_cons_succ]
  refine wpAnyH_take (i := 0) (v := .agg #[.slice (some ⟨g4, 0, none⟩) n1 n1]) rfl (by kernel_rfl) (by kernel_rfl) (by kernel_rfl) (fun _ _ _ h => h) (Or.inl ⟨by kernel_rfl, fun W hW => exec_loadD W _ _ _ rfl (w4.heap.size) (some ⟨g4, 0, none⟩) n1 n1 (by kernel_rfl) hW.1⟩) hSd ?_
  try simp only [Act.put, List.getElem_toArray, List.getElem_cons_succ, List.getElem_cons_zero, List.setIfInBounds_toArray, List.set_cons_zero, List.set_cons_succ]
  refine wpAnyH_take (i := 1) (v := .agg #[.slice ad1 n1 k1]) rfl (by kernel_rfl) (by kernel_rfl) (by kernel_rfl) (fun _ _ _ h => h) (Or.inl ⟨by kernel_rfl, fun W hW => exec_loadL W _ _ _ rfl (w.heap.size) ad1 n1 k1 (by kernel_rfl) hW.2⟩) hSd ?_
  try simp only [Act.put, List.getElem_toArray, List.getElem_cons_succ, List.getElem_cons_zero, List.setIfInBounds_toArray, List.set_cons_zero, List.set_cons_succ]
  refine wpAnyH_one 2 (by kernel_rfl) ?_
  refine wpOp_call 8 #[.agg #[.slice ad1 n1 k1]] rfl (by kernel_rfl) (rbx_call1 _ _ _ _ _ _ rfl _ (by kernel_rfl) (Try.call8 _ _)) ?_
  refine (HT1.out Wd (HB10.out.trans (hbd.mono HB10.out.size))).mono ?_
  rintro e1 Wq ⟨gq, rfl, hgq, hoq, hbq⟩
  have hB1 := hbd.trans (hbq.mono hbd.size)
  refine ⟨⟨blko HX8.out.box hB1, blko HKa.out hB1⟩, ?_⟩
  try simp only [Act.put, List.getElem_toArray, List.getElem_cons_succ, List.getElem_cons_zero, List.setIfInBounds_toArray, List.set_cons_zero, List.set_cons_succ]
  refine wpAnyH_one 3 (by kernel_rfl) ?_
  refine wpOp_call 10 #[.agg #[.slice (some ⟨g4, 0, none⟩) n1 n1], .agg #[.slice (some ⟨gq, 0, none⟩) n1 n1]] rfl (by kernel_rfl) (rbx_call2 _ _ _ _ _ _ _ _ rfl _ _ (by kernel_rfl) (by kernel_rfl) (Try.call10 _ _)) ?_
  refine (eqD_n _ _ _ _ _ _ z1 n1 Wq HN1.out hq1 (HX8.out.below hB1).row hoq).mono ?_
  rintro e2 w11 ⟨rfl, hbp⟩
  have hB2' := hB1.trans (hbp.mono hB1.size)
  have hS9 : (fun u => u.heap[w4.heap.size]? = some (.cells #[.slice (some ⟨g4, 0, none⟩) n1 n1] 27) ∧ u.heap[w.heap.size]? = some (.cells #[.slice ad1 n1 k1] 24)) w11 := ⟨blko HX8.out.box hB2', blko HKa.out hB2'⟩
  refine ⟨hS9, ?_⟩
  try simp only [Act.put, List.getElem_toArray, List.getElem_cons_succ, List.getElem_cons_zero, List.setIfInBounds_toArray, List.set_cons_zero, List.set_cons_succ]
  refine tkX 4 (v := .bool false) (hS := hS9) (h := ?_)
  try simp only [Act.put, List.getElem_toArray, List.getElem_cons_succ, List.getElem_cons_zero, List.setIfInBounds_toArray, List.set_cons_zero, List.set_cons_succ]
  refine wpAnyH_done (by kernel_rfl) ?_ _
  have HB11 := hidd (HB10.out.trans (hB2'.mono HB10.out.size))
  replace HKa := hidd (blko HKa.out hB2')
  replace HKb := hidd (blko HKb.out hB2')
  replace HX6 := hidd (HX6.out.below hB2')
  replace HX8 := hidd (HX8.out.below hB2')
  replace HX9 := hidd (HX9.out.below hB2')
  replace HXA := hidd (HXA.out.below hB2')
  clear hSd hS9 hbd hbq hoq hgq hbp hB1 hB2'
  go_wp2_with fail
  refine wp_region_held (S := fun u => u.heap[w6.heap.size]? = some (.cells #[.slice (some ⟨g6, 0, none⟩) n2 n2] 27) ∧ u.heap[w.heap.size + 1]? = some (.cells #[.slice ad2 n2 k2] 24)) (by kernel_rfl) ?_
  have hbd : Below w11.heap.size w11 ({ heap := w11.heap, tape := w11.tape, drawn := w11.drawn + 1, os := w11.os, output := w11.output } : World) := (Below.refl _ _).drew
  generalize ({ heap := w11.heap, tape := w11.tape, drawn := w11.drawn + 1, os := w11.os, output := w11.output } : World) = Wd at *
  have hSd : (fun u => u.heap[w6.heap.size]? = some (.cells #[.slice (some ⟨g6, 0, none⟩) n2 n2] 27) ∧ u.heap[w.heap.size + 1]? = some (.cells #[.slice ad2 n2 k2] 24)) Wd := ⟨blko HX9.out.box hbd, blko HKb.out hbd⟩
  try simp only [Act.put, List.getElem_toArray, List.getElem_cons_succ, List.getElem_cons_zero, List.setIfInBounds_toArray, List.set_cons_zero, List.set_cons_succ]
  refine wpAnyH_take (i := 0) (v := .agg #[.slice (some ⟨g6, 0, none⟩) n2 n2]) rfl (by kernel_rfl) (by kernel_rfl) (by kernel_rfl) (fun _ _ _ h => h) (Or.inl ⟨by kernel_rfl, fun W hW => exec_loadD W _ _ _ rfl (w6.heap.size) (some ⟨g6, 0, none⟩) n2 n2 (by kernel_rfl) hW.1⟩) hSd ?_
  try simp only [Act.put, List.getElem_toArray, List.getElem_cons_succ, List.getElem_cons_zero, List.setIfInBounds_toArray, List.set_cons_zero, List.set_cons_succ]
  refine wpAnyH_take (i := 1) (v := .agg #[.slice ad2 n2 k2]) rfl (by kernel_rfl) (by kernel_rfl) (by kernel_rfl) (fun _ _ _ h => h) (Or.inl ⟨by kernel_rfl, fun W hW => exec_loadL W _ _ _ rfl (w.heap.size + 1) ad2 n2 k2 (by kernel_rfl) hW.2⟩) hSd ?_
  try simp only [Act.put, List.getElem_toArray, List.getElem_cons_succ, List.getElem_cons_zero, List.setIfInBounds_toArray, List.set_cons_zero, List.set_cons_succ]
  refine wpAnyH_one 2 (by kernel_rfl) ?_
  refine wpOp_call 8 #[.agg #[.slice ad2 n2 k2]] rfl (by kernel_rfl) (rbx_call1 _ _ _ _ _ _ rfl _ (by kernel_rfl) (Try.call8 _ _)) ?_
  refine (HT2.out Wd (HB11.out.trans (hbd.mono HB11.out.size))).mono ?_
  rintro e1 Wq ⟨gq, rfl, hgq, hoq, hbq⟩
  have hB1 := hbd.trans (hbq.mono hbd.size)
  refine ⟨⟨blko HX9.out.box hB1, blko HKb.out hB1⟩, ?_⟩
  try simp only [Act.put, List.getElem_toArray, List.getElem_cons_succ, List.getElem_cons_zero, List.setIfInBounds_toArray, List.set_cons_zero, List.set_cons_succ]
  refine wpAnyH_one 3 (by kernel_rfl) ?_
  refine wpOp_call 10 #[.agg #[.slice (some ⟨g6, 0, none⟩) n2 n2], .agg #[.slice (some ⟨gq, 0, none⟩) n2 n2]] rfl (by kernel_rfl) (rbx_call2 _ _ _ _ _ _ _ _ rfl _ _ (by kernel_rfl) (by kernel_rfl) (Try.call10 _ _)) ?_
  refine (eqD_n _ _ _ _ _ _ z2 n2 Wq HN2.out hq2 (HX9.out.below hB1).row hoq).mono ?_
  rintro e2 w12 ⟨rfl, hbp⟩
  have hB2' := hB1.trans (hbp.mono hB1.size)
  have hS9 : (fun u => u.heap[w6.heap.size]? = some (.cells #[.slice (some ⟨g6, 0, none⟩) n2 n2] 27) ∧ u.heap[w.heap.size + 1]? = some (.cells #[.slice ad2 n2 k2] 24)) w12 := ⟨blko HX9.out.box hB2', blko HKb.out hB2'⟩
  refine ⟨hS9, ?_⟩
  try simp only [Act.put, List.getElem_toArray, List.getElem_cons_succ, List.getElem_cons_zero, List.setIfInBounds_toArray, List.set_cons_zero, List.set_cons_succ]
  refine tkX 4 (v := .bool false) (hS := hS9) (h := ?_)
  try simp only [Act.put, List.getElem_toArray, List.getElem_cons_succ, List.getElem_cons_zero, List.setIfInBounds_toArray, List.set_cons_zero, List.set_cons_succ]
  refine wpAnyH_done (by kernel_rfl) ?_ _
  have HB12 := hidd (HB11.out.trans (hB2'.mono HB11.out.size))
  replace HKa := hidd (blko HKa.out hB2')
  replace HKb := hidd (blko HKb.out hB2')
  replace HX6 := hidd (HX6.out.below hB2')
  replace HX8 := hidd (HX8.out.below hB2')
  replace HX9 := hidd (HX9.out.below hB2')
  replace HXA := hidd (HXA.out.below hB2')
  clear hSd hS9 hbd hbq hoq hgq hbp hB1 hB2'
  have x0 : w12.cell? ⟨w4.heap.size, 0, none⟩ = some (.slice (some ⟨g4, 0, none⟩) n1 n1) := blkc HX8.out.box 0
  go_wp2_with fail
  refine (markSketchE_own _ _ n1 _ _ 1 _ hq1 (by omega) (by omega) HX8.out.row).mono ?_
  rintro e w13 ⟨rfl, ho13, hgr13⟩
  obtain ⟨cur8, hcur8⟩ : ∃ cur, w12.heap[g4]? = some (.cells cur 3) := (own_blk HX8.out.row rfl).2
  have HB13 : Hid (Below w.heap.size w w13) := HB12.out.grown hgr13 HB12.out.size (fun k hk => by have e : g4 = k := (by simpa [Value.ownBlock] using hk); have := HB3.out.size; omega)
  have hgr13' : w12.grownBy w13 (some g4) := hgr13
  replace HX6 := hidd (HX6.out.grown hgr13' hcur8 (fun b hb => by have := HV6.out b hb; omega))
  replace HX9 := hidd (HX9.out.grown hgr13' hcur8 (fun b hb => by have e : g6 = b := (by simpa [Value.ownBlock] using hb); omega))
  replace HXA := hidd (HXA.out.grown hgr13' hcur8 (fun b hb => by have := HVJ.out b hb; omega))
  have HKa13 := hidd ((hgr13'.block w.heap.size (Array.getElem?_eq_some_iff.1 HKa.out).1 (fun e => blk_ne HKa.out hcur8 (by decide) (Option.some.inj e))).trans HKa.out)
  have HKb13 := hidd ((hgr13'.block (w.heap.size + 1) (Array.getElem?_eq_some_iff.1 HKb.out).1 (fun e => blk_ne HKb.out hcur8 (by decide) (Option.some.inj e))).trans HKb.out)
  clear ho13 hgr13 hgr13' hcur8 x0 HX8 HB12 HKa HKb
  have y0 : w13.cell? ⟨w6.heap.size, 0, none⟩ = some (.slice (some ⟨g6, 0, none⟩) n2 n2) := blkc HX9.out.box 0
  go_wp2_with fail
  refine (markSketchE_own _ _ n2 _ _ (1 + (n1 : Int)) _ hq2 (by omega) (by omega) HX9.out.row).mono ?_
  rintro e w14 ⟨rfl, ho14, hgr14⟩
  obtain ⟨cur9, hcur9⟩ : ∃ cur, w13.heap[g6]? = some (.cells cur 3) := (own_blk HX9.out.row rfl).2
  have HB14 : Hid (Below w.heap.size w w14) := HB13.out.grown hgr14 HB13.out.size (fun k hk => by have e : g6 = k := (by simpa [Value.ownBlock] using hk); have := HB3.out.size; omega)
  have hgr14' : w13.grownBy w14 (some g6) := hgr14
  replace HX6 := hidd (HX6.out.grown hgr14' hcur9 (fun b hb => by have := HV6.out b hb; omega))
  replace HXA := hidd (HXA.out.grown hgr14' hcur9 (fun b hb => by have := HVJ.out b hb; omega))
  have HKa := hidd ((hgr14'.block w.heap.size (Array.getElem?_eq_some_iff.1 HKa13.out).1 (fun e => blk_ne HKa13.out hcur9 (by decide) (Option.some.inj e))).trans HKa13.out)
  have HKb := hidd ((hgr14'.block (w.heap.size + 1) (Array.getElem?_eq_some_iff.1 HKb13.out).1 (fun e => blk_ne HKb13.out hcur9 (by decide) (Option.some.inj e))).trans HKb13.out)
  clear ho14 hgr14 hgr14' hcur9 y0 HX9 HB13 HKa13 HKb13
  have hkn : ¬ (1 + (n1 : Int) + (n2 : Int)) < 0 := by omega
  have x0 : w14.cell? ⟨w8.heap.size, 0, none⟩ = some (.slice ad1' jz.length cp1') := blkc HXA.out.box 0
  have y0 : w14.cell? ⟨B6, 0, none⟩ = some (.slice ad6 jz.length cp6) := blkc HX6.out.box 0
  go_wp2_with fail
  refine (eqSketchE_same _ _ _ _ _ _ jz _ hJl HXA.out.row HX6.out.row).mono ?_
  rintro e w15 ⟨rfl, hb15⟩
  have HB15 := hidd (HB14.out.trans (hb15.mono HB14.out.size))
  replace HKa := hidd (blko HKa.out hb15)
  replace HKb := hidd (blko HKb.out hb15)
  replace HX6 := hidd (HX6.out.below hb15)
  replace HXA := hidd (HXA.out.below hb15)
  clear hb15 x0 y0 HB14
  have x0 : w15.cell? ⟨w8.heap.size, 0, none⟩ = some (.slice ad1' jz.length cp1') := blkc HXA.out.box 0
  go_wp2_with fail
  refine (markSketchE_own _ _ jz.length _ _ 1 _ hJl (by omega) (by omega) HXA.out.row).mono ?_
  rintro e w16 ⟨rfl, ho16, hgr16⟩
  have hzz : w.heap.size ≤ w7.heap.size := by have := HB3.out.size; omega
  have HB16 : Hid (Below w.heap.size w w16) := HB15.out.grown hgr16 HB15.out.size (fun k hk => by have := HVJ.out k hk; omega)
  have HM16 : Hid (Bx w16 w7.heap.size w8.heap.size ty1 ad1' jz.length cp1' (marks 1 jz.length)) := ⟨(hgr16.block w8.heap.size (Array.getElem?_eq_some_iff.1 HXA.out.box).1 (fun e => by
      obtain ⟨_, cur, h5⟩ := own_blk HXA.out.row e.symm
      exact blk_ne HXA.out.box h5 (tyK HT9.out) rfl)).trans HXA.out.box, ho16⟩
  have HX6' : Hid (Bx w16 w2.heap.size B6 ty6 ad6 jz.length cp6 (zI jz)) := ⟨(hgr16.block B6 (Array.getElem?_eq_some_iff.1 HX6.out.box).1 (fun e => by
      obtain ⟨_, cur, h5⟩ := own_blk HXA.out.row e.symm
      exact blk_ne HX6.out.box h5 (tyK HT9.out) rfl)).trans HX6.out.box, own_congr HX6.out.row (fun b hb => hgr16.block b (by
        obtain ⟨_, cur, h5⟩ := own_blk HX6.out.row hb
        exact (Array.getElem?_eq_some_iff.1 h5).1) (fun e => by have h1 := HV6.out b hb; have h2 := HVJ.out b e.symm; omega))⟩
  have HKa16 := hidd ((hgr16.block w.heap.size (Array.getElem?_eq_some_iff.1 HKa.out).1 (fun e => by
      obtain ⟨_, cur, h5⟩ := own_blk HXA.out.row e.symm
      exact blk_ne HKa.out h5 (tyL HT9.out) rfl)).trans HKa.out)
  have HKb16 := hidd ((hgr16.block (w.heap.size + 1) (Array.getElem?_eq_some_iff.1 HKb.out).1 (fun e => by
      obtain ⟨_, cur, h5⟩ := own_blk HXA.out.row e.symm
      exact blk_ne HKb.out h5 (tyL HT9.out) rfl)).trans HKb.out)
  clear ho16 hgr16 x0 HX6 HXA HB15 HKa HKb
  have hkm : ¬ (1 + (jz.length : Int)) < 0 := by omega
  have hmm : ((1 + (jz.length : Int)) != (1 + (jz.length : Int))) = false := by simp
  have x0 : w16.cell? ⟨w8.heap.size, 0, none⟩ = some (.slice ad1' jz.length cp1') := blkc HM16.out.box 0
  go_wp2_with fail
  refine (heldSketchE_own _ _ jz.length _ _ hJl HM16.out.row).mono ?_
  rintro e w17 ⟨rfl, hb17⟩
  have HB17 := hidd (HB16.out.trans (hb17.mono HB16.out.size))
  have HKa := hidd (blko HKa16.out hb17)
  have HKb := hidd (blko HKb16.out hb17)
  have HX6 := hidd (HX6'.out.below hb17)
  have HM17 := hidd (HM16.out.below hb17)
  have hw17 : w.heap.size + 1 < w17.heap.size := (Array.getElem?_eq_some_iff.1 HKb.out).1
  clear hb17 x0 HKa16 HKb16 HX6' HM16 HB16
  go_upto_region 31 with fail
  go_cut [15, 16] (fun v c wy => CutJ w17 jz code v c wy)
  case first =>
    refine wp_region_held (S := fun u => u.heap[w.heap.size]? = some (.cells #[.slice ad1 n1 k1] 24) ∧ u.heap[w.heap.size + 1]? = some (.cells #[.slice ad2 n2 k2] 24)) (by kernel_rfl) ?_
    have hbd : Below w17.heap.size w17 ({ heap := w17.heap, tape := w17.tape, drawn := w17.drawn + 1, os := w17.os, output := w17.output } : World) := (Below.refl _ _).drew
    generalize ({ heap := w17.heap, tape := w17.tape, drawn := w17.drawn + 1, os := w17.os, output := w17.output } : World) = Wd at *
    have hSd : (fun u => u.heap[w.heap.size]? = some (.cells #[.slice ad1 n1 k1] 24) ∧ u.heap[w.heap.size + 1]? = some (.cells #[.slice ad2 n2 k2] 24)) Wd := ⟨blko HKa.out hbd, blko HKb.out hbd⟩
    try simp only [Act.put, List.getElem_toArray, List.getElem_cons_succ, List.getElem_cons_zero, List.setIfInBounds_toArray, List.set_cons_zero, List.set_cons_succ]
    refine wpAnyH_take (i := 0) (v := .agg #[.slice ad1 n1 k1]) rfl (by kernel_rfl) (by kernel_rfl) (by kernel_rfl) (fun _ _ _ h => h) (Or.inl ⟨by kernel_rfl, fun W hW => exec_loadL W _ _ _ rfl w.heap.size ad1 n1 k1 (by kernel_rfl) hW.1⟩) hSd ?_
    try simp only [Act.put, List.getElem_toArray, List.getElem_cons_succ, List.getElem_cons_zero, List.setIfInBounds_toArray, List.set_cons_zero, List.set_cons_succ]
    refine wpAnyH_take (i := 2) (v := .agg #[.slice ad2 n2 k2]) rfl (by kernel_rfl) (by kernel_rfl) (by kernel_rfl) (fun _ _ _ h => h) (Or.inl ⟨by kernel_rfl, fun W hW => exec_loadL W _ _ _ rfl (w.heap.size + 1) ad2 n2 k2 (by kernel_rfl) hW.2⟩) hSd ?_
    try simp only [Act.put, List.getElem_toArray, List.getElem_cons_succ, List.getElem_cons_zero, List.setIfInBounds_toArray, List.set_cons_zero, List.set_cons_succ]
    have hVd := HB17.out.trans (hbd.mono HB17.out.size)
    refine wpAnyH_two 1 8 (by kernel_rfl) ?_ ?_
    · refine wpOp_call 8 #[.agg #[.slice ad1 n1 k1]] rfl (by kernel_rfl) (rbx_call1 _ _ _ _ _ _ rfl _ (by kernel_rfl) (Try.call8 _ _)) ?_
      refine (HT1.out Wd hVd).mono ?_
      rintro e22 V22 ⟨g22, rfl, hg22, ho22, hb22⟩
      have hB22 : Below w17.heap.size w17 V22 := hbd.trans (hb22.mono hbd.size)
      have hV22 := HB17.out.trans (hB22.mono HB17.out.size)
      refine ⟨⟨blko HKa.out hB22, blko HKb.out hB22⟩, ?_⟩
      try dsimp only
      try simp only [Act.put, List.getElem_toArray, List.getElem_cons_succ, List.getElem_cons_zero, List.setIfInBounds_toArray, List.set_cons_zero, List.set_cons_succ]
      refine wpAnyH_two 3 8 (by kernel_rfl) ?_ ?_
      · refine wpOp_call 8 #[.agg #[.slice ad2 n2 k2]] rfl (by kernel_rfl) (rbx_call1 _ _ _ _ _ _ rfl _ (by kernel_rfl) (Try.call8 _ _)) ?_
        refine (HT2.out V22 hV22).mono ?_
        rintro e24 V24 ⟨g24, rfl, hg24, ho24, hb24⟩
        have hB24 : Below w17.heap.size w17 V24 := hB22.trans (hb24.mono hB22.size)
        have hV24 := HB17.out.trans (hB24.mono HB17.out.size)
        have hr24q := own_below ho22 hb24
        refine ⟨⟨blko HKa.out hB24, blko HKb.out hB24⟩, ?_⟩
        try dsimp only
        try simp only [Act.put, List.getElem_toArray, List.getElem_cons_succ, List.getElem_cons_zero, List.setIfInBounds_toArray, List.set_cons_zero, List.set_cons_succ]
        refine wpAnyH_two 4 8 (by kernel_rfl) ?_ ?_
        · refine wpOp_call 12 #[.agg #[.slice (some ⟨g22, 0, none⟩) n1 n1], .agg #[.slice (some ⟨g24, 0, none⟩) n2 n2]] rfl (by kernel_rfl) (rbx_call2 _ _ _ _ _ _ _ _ rfl _ _ (by kernel_rfl) (by kernel_rfl) (Try.call12 _ _)) ?_
          refine (HIm.out V24 _ _ g22 g24 hr24q ho24).mono ?_
          rintro e26 V26 ⟨ty26, v26, hty26, rfl, ho26, hb26⟩
          try dsimp only at ho26
          obtain ⟨ad26, cp26, rfl⟩ := own_sl1 ho26
          have hB26 : Below w17.heap.size w17 V26 := hB24.trans (hb26.mono hB24.size)
          have hV26 := HB17.out.trans (hB26.mono HB17.out.size)
          refine ⟨⟨blko HKa.out hB26, blko HKb.out hB26⟩, ?_⟩
          try dsimp only
          try simp only [Act.put, List.getElem_toArray, List.getElem_cons_succ, List.getElem_cons_zero, List.setIfInBounds_toArray, List.set_cons_zero, List.set_cons_succ]
          refine tkX 5 (hS := ⟨blko HKa.out hB26, blko HKb.out hB26⟩) (h := ?_)
          try simp only [Act.put, List.getElem_toArray, List.getElem_cons_succ, List.getElem_cons_zero, List.setIfInBounds_toArray, List.set_cons_zero, List.set_cons_succ]
          refine tkX 6 (v := .agg #[.slice ad26 jz.length cp26]) (hS := ⟨blko HKa.out hB26, blko HKb.out hB26⟩) (h := ?_)
          try simp only [Act.put, List.getElem_toArray, List.getElem_cons_succ, List.getElem_cons_zero, List.setIfInBounds_toArray, List.set_cons_zero, List.set_cons_succ]
          refine tkX 7 (v := .int .i64 code) (hS := ⟨blko HKa.out hB26, blko HKb.out hB26⟩) (h := ?_)
          try simp only [Act.put, List.getElem_toArray, List.getElem_cons_succ, List.getElem_cons_zero, List.setIfInBounds_toArray, List.set_cons_zero, List.set_cons_succ]
          have hrm28 := own_mono ho26 hB24.size
          refine wpAnyH_one 8 (by kernel_rfl) ?_
          refine wpOp_val _ _ rfl (by kernel_rfl) (exec_allocD _ _ _ rfl) ?_
          have hal29 : Below V26.heap.size V26 (V26.alloc (.cells #[.slice none 0 0] 27)) := (Below.refl _ _).alloc (Nat.le_refl _) _
          have hx29 := heap_alloc_new V26 (.cells #[.slice none 0 0] 27)
          have hB29 : Below w17.heap.size w17 (V26.alloc (.cells #[.slice none 0 0] 27)) := hB26.trans (hal29.mono hB26.size)
          have hV29 := HB17.out.trans (hB29.mono HB17.out.size)
          have hr29j := own_below hrm28 hal29
          obtain ⟨V29, hVe29⟩ : ∃ V, V26.alloc (.cells #[.slice none 0 0] 27) = V := ⟨_, rfl⟩
          rw [hVe29] at hal29 hx29 hB29 hV29 hr29j
          rw [hVe29]
          clear hVe29
          refine ⟨⟨blko HKa.out hB29, blko HKb.out hB29⟩, ?_⟩
          try simp only [Act.put, List.getElem_toArray, List.getElem_cons_succ, List.getElem_cons_zero, List.setIfInBounds_toArray, List.set_cons_zero, List.set_cons_succ]
          refine wpAnyH_one 9 (by kernel_rfl) ?_
          refine wpOp_skip _ rfl (by kernel_rfl) (exec_storeD V29 _ _ _ _ rfl (V26.heap.size) _ ad26 jz.length cp26 (by kernel_rfl) (by kernel_rfl) hx29) ?_
          have hlB30 : w17.heap.size ≤ V26.heap.size := hB26.size
          have hs30 := set1 hx29 (.slice ad26 jz.length cp26)
          have hqa30 := (heap_set_other V29 (V26.heap.size) 0 (.slice ad26 jz.length cp26) w.heap.size (by omega)).trans (blko HKa.out hB29)
          have hqb30 := (heap_set_other V29 (V26.heap.size) 0 (.slice ad26 jz.length cp26) (w.heap.size + 1) (by omega)).trans (blko HKb.out hB29)
          refine ⟨⟨hqa30, hqb30⟩, ?_⟩
          try simp only [Act.put, List.getElem_toArray, List.getElem_cons_succ, List.getElem_cons_zero, List.setIfInBounds_toArray, List.set_cons_zero, List.set_cons_succ]
          refine tkX 10 (hS := ⟨hqa30, hqb30⟩) (h := ?_)
          try simp only [Act.put, List.getElem_toArray, List.getElem_cons_succ, List.getElem_cons_zero, List.setIfInBounds_toArray, List.set_cons_zero, List.set_cons_succ]
          refine wpAnyH_done (by kernel_rfl) ?_ _
          have HF30 : Hid (CutJ w17 jz code (.pointer (some ⟨V26.heap.size, 0, none⟩)) (.int .i64 code) (V29.setCell ⟨V26.heap.size, 0, none⟩ (.slice ad26 jz.length cp26))) := by
            refine ⟨V26.heap.size, ty26, ad26, cp26, hty26, rfl, rfl, ⟨hs30, own_congr hr29j (fun b hb => heap_set_other _ _ _ _ _ (fun e => ?_))⟩, ?_⟩
            · subst e
              obtain ⟨_, cur, h5⟩ := own_blk hr29j hb
              exact blk_ne hx29 h5 (tyK hty26) rfl
            · exact hB29.setCell (p := ⟨V26.heap.size, 0, none⟩) hlB30 _
          go_wp2_with fail
          go_meet
          exact HF30.out
        · refine wpOp_val _ _ rfl (by kernel_rfl) (exec_allocD _ _ _ rfl) ?_
          have hal27 : Below V24.heap.size V24 (V24.alloc (.cells #[.slice none 0 0] 27)) := (Below.refl _ _).alloc (Nat.le_refl _) _
          have hx27 := heap_alloc_new V24 (.cells #[.slice none 0 0] 27)
          have hB27 : Below w17.heap.size w17 (V24.alloc (.cells #[.slice none 0 0] 27)) := hB24.trans (hal27.mono hB24.size)
          have hV27 := HB17.out.trans (hB27.mono HB17.out.size)
          have hr27q := own_below hr24q hal27
          have hr27p := own_below ho24 hal27
          obtain ⟨V27, hVe27⟩ : ∃ V, V24.alloc (.cells #[.slice none 0 0] 27) = V := ⟨_, rfl⟩
          rw [hVe27] at hal27 hx27 hB27 hV27 hr27q hr27p
          rw [hVe27]
          clear hVe27
          refine ⟨⟨blko HKa.out hB27, blko HKb.out hB27⟩, ?_⟩
          try simp only [Act.put, List.getElem_toArray, List.getElem_cons_succ, List.getElem_cons_zero, List.setIfInBounds_toArray, List.set_cons_zero, List.set_cons_succ]
          refine wpAnyH_one 4 (by kernel_rfl) ?_
          refine wpOp_call 12 #[.agg #[.slice (some ⟨g22, 0, none⟩) n1 n1], .agg #[.slice (some ⟨g24, 0, none⟩) n2 n2]] rfl (by kernel_rfl) (rbx_call2 _ _ _ _ _ _ _ _ rfl _ _ (by kernel_rfl) (by kernel_rfl) (Try.call12 _ _)) ?_
          refine (HIm.out V27 _ _ g22 g24 hr27q hr27p).mono ?_
          rintro e31 V31 ⟨ty31, v31, hty31, rfl, ho31, hb31⟩
          try dsimp only at ho31
          obtain ⟨ad31, cp31, rfl⟩ := own_sl1 ho31
          have hB31 : Below w17.heap.size w17 V31 := hB27.trans (hb31.mono hB27.size)
          have hV31 := HB17.out.trans (hB31.mono HB17.out.size)
          have hx31 := blko hx27 hb31
          refine ⟨⟨blko HKa.out hB31, blko HKb.out hB31⟩, ?_⟩
          try dsimp only
          try simp only [Act.put, List.getElem_toArray, List.getElem_cons_succ, List.getElem_cons_zero, List.setIfInBounds_toArray, List.set_cons_zero, List.set_cons_succ]
          refine tkX 5 (hS := ⟨blko HKa.out hB31, blko HKb.out hB31⟩) (h := ?_)
          try simp only [Act.put, List.getElem_toArray, List.getElem_cons_succ, List.getElem_cons_zero, List.setIfInBounds_toArray, List.set_cons_zero, List.set_cons_succ]
          refine tkX 6 (v := .agg #[.slice ad31 jz.length cp31]) (hS := ⟨blko HKa.out hB31, blko HKb.out hB31⟩) (h := ?_)
          try simp only [Act.put, List.getElem_toArray, List.getElem_cons_succ, List.getElem_cons_zero, List.setIfInBounds_toArray, List.set_cons_zero, List.set_cons_succ]
          refine tkX 7 (v := .int .i64 code) (hS := ⟨blko HKa.out hB31, blko HKb.out hB31⟩) (h := ?_)
          try simp only [Act.put, List.getElem_toArray, List.getElem_cons_succ, List.getElem_cons_zero, List.setIfInBounds_toArray, List.set_cons_zero, List.set_cons_succ]
          have hrm32 := own_mono ho31 hB27.size
          refine wpAnyH_one 9 (by kernel_rfl) ?_
          refine wpOp_skip _ rfl (by kernel_rfl) (exec_storeD V31 _ _ _ _ rfl (V24.heap.size) _ ad31 jz.length cp31 (by kernel_rfl) (by kernel_rfl) hx31) ?_
          have hlB33 : w17.heap.size ≤ V24.heap.size := hB24.size
          have hs33 := set1 hx31 (.slice ad31 jz.length cp31)
          have hqa33 := (heap_set_other V31 (V24.heap.size) 0 (.slice ad31 jz.length cp31) w.heap.size (by omega)).trans (blko HKa.out hB31)
          have hqb33 := (heap_set_other V31 (V24.heap.size) 0 (.slice ad31 jz.length cp31) (w.heap.size + 1) (by omega)).trans (blko HKb.out hB31)
          refine ⟨⟨hqa33, hqb33⟩, ?_⟩
          try simp only [Act.put, List.getElem_toArray, List.getElem_cons_succ, List.getElem_cons_zero, List.setIfInBounds_toArray, List.set_cons_zero, List.set_cons_succ]
          refine tkX 10 (hS := ⟨hqa33, hqb33⟩) (h := ?_)
          try simp only [Act.put, List.getElem_toArray, List.getElem_cons_succ, List.getElem_cons_zero, List.setIfInBounds_toArray, List.set_cons_zero, List.set_cons_succ]
          refine wpAnyH_done (by kernel_rfl) ?_ _
          have HF33 : Hid (CutJ w17 jz code (.pointer (some ⟨V24.heap.size, 0, none⟩)) (.int .i64 code) (V31.setCell ⟨V24.heap.size, 0, none⟩ (.slice ad31 jz.length cp31))) := by
            refine ⟨V24.heap.size, ty31, ad31, cp31, hty31, rfl, rfl, ⟨hs33, own_congr hrm32 (fun b hb => heap_set_other _ _ _ _ _ (fun e => ?_))⟩, ?_⟩
            · subst e
              obtain ⟨_, cur, h5⟩ := own_blk hrm32 hb
              exact blk_ne hx31 h5 (tyK hty31) rfl
            · exact hB31.setCell (p := ⟨V24.heap.size, 0, none⟩) hlB33 _
          go_wp2_with fail
          go_meet
          exact HF33.out
      · refine wpOp_val _ _ rfl (by kernel_rfl) (exec_allocD _ _ _ rfl) ?_
        have hal25 : Below V22.heap.size V22 (V22.alloc (.cells #[.slice none 0 0] 27)) := (Below.refl _ _).alloc (Nat.le_refl _) _
        have hx25 := heap_alloc_new V22 (.cells #[.slice none 0 0] 27)
        have hB25 : Below w17.heap.size w17 (V22.alloc (.cells #[.slice none 0 0] 27)) := hB22.trans (hal25.mono hB22.size)
        have hV25 := HB17.out.trans (hB25.mono HB17.out.size)
        have hr25q := own_below ho22 hal25
        obtain ⟨V25, hVe25⟩ : ∃ V, V22.alloc (.cells #[.slice none 0 0] 27) = V := ⟨_, rfl⟩
        rw [hVe25] at hal25 hx25 hB25 hV25 hr25q
        rw [hVe25]
        clear hVe25
        refine ⟨⟨blko HKa.out hB25, blko HKb.out hB25⟩, ?_⟩
        try simp only [Act.put, List.getElem_toArray, List.getElem_cons_succ, List.getElem_cons_zero, List.setIfInBounds_toArray, List.set_cons_zero, List.set_cons_succ]
        refine wpAnyH_one 3 (by kernel_rfl) ?_
        refine wpOp_call 8 #[.agg #[.slice ad2 n2 k2]] rfl (by kernel_rfl) (rbx_call1 _ _ _ _ _ _ rfl _ (by kernel_rfl) (Try.call8 _ _)) ?_
        refine (HT2.out V25 hV25).mono ?_
        rintro e34 V34 ⟨g34, rfl, hg34, ho34, hb34⟩
        have hB34 : Below w17.heap.size w17 V34 := hB25.trans (hb34.mono hB25.size)
        have hV34 := HB17.out.trans (hB34.mono HB17.out.size)
        have hr34q := own_below hr25q hb34
        have hx34 := blko hx25 hb34
        refine ⟨⟨blko HKa.out hB34, blko HKb.out hB34⟩, ?_⟩
        try dsimp only
        try simp only [Act.put, List.getElem_toArray, List.getElem_cons_succ, List.getElem_cons_zero, List.setIfInBounds_toArray, List.set_cons_zero, List.set_cons_succ]
        refine wpAnyH_one 4 (by kernel_rfl) ?_
        refine wpOp_call 12 #[.agg #[.slice (some ⟨g22, 0, none⟩) n1 n1], .agg #[.slice (some ⟨g34, 0, none⟩) n2 n2]] rfl (by kernel_rfl) (rbx_call2 _ _ _ _ _ _ _ _ rfl _ _ (by kernel_rfl) (by kernel_rfl) (Try.call12 _ _)) ?_
        refine (HIm.out V34 _ _ g22 g34 hr34q ho34).mono ?_
        rintro e35 V35 ⟨ty35, v35, hty35, rfl, ho35, hb35⟩
        try dsimp only at ho35
        obtain ⟨ad35, cp35, rfl⟩ := own_sl1 ho35
        have hB35 : Below w17.heap.size w17 V35 := hB34.trans (hb35.mono hB34.size)
        have hV35 := HB17.out.trans (hB35.mono HB17.out.size)
        have hx35 := blko hx34 hb35
        refine ⟨⟨blko HKa.out hB35, blko HKb.out hB35⟩, ?_⟩
        try dsimp only
        try simp only [Act.put, List.getElem_toArray, List.getElem_cons_succ, List.getElem_cons_zero, List.setIfInBounds_toArray, List.set_cons_zero, List.set_cons_succ]
        refine tkX 5 (hS := ⟨blko HKa.out hB35, blko HKb.out hB35⟩) (h := ?_)
        try simp only [Act.put, List.getElem_toArray, List.getElem_cons_succ, List.getElem_cons_zero, List.setIfInBounds_toArray, List.set_cons_zero, List.set_cons_succ]
        refine tkX 6 (v := .agg #[.slice ad35 jz.length cp35]) (hS := ⟨blko HKa.out hB35, blko HKb.out hB35⟩) (h := ?_)
        try simp only [Act.put, List.getElem_toArray, List.getElem_cons_succ, List.getElem_cons_zero, List.setIfInBounds_toArray, List.set_cons_zero, List.set_cons_succ]
        refine tkX 7 (v := .int .i64 code) (hS := ⟨blko HKa.out hB35, blko HKb.out hB35⟩) (h := ?_)
        try simp only [Act.put, List.getElem_toArray, List.getElem_cons_succ, List.getElem_cons_zero, List.setIfInBounds_toArray, List.set_cons_zero, List.set_cons_succ]
        have hrm36 := own_mono ho35 hB34.size
        refine wpAnyH_one 9 (by kernel_rfl) ?_
        refine wpOp_skip _ rfl (by kernel_rfl) (exec_storeD V35 _ _ _ _ rfl (V22.heap.size) _ ad35 jz.length cp35 (by kernel_rfl) (by kernel_rfl) hx35) ?_
        have hlB37 : w17.heap.size ≤ V22.heap.size := hB22.size
        have hs37 := set1 hx35 (.slice ad35 jz.length cp35)
        have hqa37 := (heap_set_other V35 (V22.heap.size) 0 (.slice ad35 jz.length cp35) w.heap.size (by omega)).trans (blko HKa.out hB35)
        have hqb37 := (heap_set_other V35 (V22.heap.size) 0 (.slice ad35 jz.length cp35) (w.heap.size + 1) (by omega)).trans (blko HKb.out hB35)
        refine ⟨⟨hqa37, hqb37⟩, ?_⟩
        try simp only [Act.put, List.getElem_toArray, List.getElem_cons_succ, List.getElem_cons_zero, List.setIfInBounds_toArray, List.set_cons_zero, List.set_cons_succ]
        refine tkX 10 (hS := ⟨hqa37, hqb37⟩) (h := ?_)
        try simp only [Act.put, List.getElem_toArray, List.getElem_cons_succ, List.getElem_cons_zero, List.setIfInBounds_toArray, List.set_cons_zero, List.set_cons_succ]
        refine wpAnyH_done (by kernel_rfl) ?_ _
        have HF37 : Hid (CutJ w17 jz code (.pointer (some ⟨V22.heap.size, 0, none⟩)) (.int .i64 code) (V35.setCell ⟨V22.heap.size, 0, none⟩ (.slice ad35 jz.length cp35))) := by
          refine ⟨V22.heap.size, ty35, ad35, cp35, hty35, rfl, rfl, ⟨hs37, own_congr hrm36 (fun b hb => heap_set_other _ _ _ _ _ (fun e => ?_))⟩, ?_⟩
          · subst e
            obtain ⟨_, cur, h5⟩ := own_blk hrm36 hb
            exact blk_ne hx35 h5 (tyK hty35) rfl
          · exact hB35.setCell (p := ⟨V22.heap.size, 0, none⟩) hlB37 _
        go_wp2_with fail
        go_meet
        exact HF37.out
    · refine wpOp_val _ _ rfl (by kernel_rfl) (exec_allocD _ _ _ rfl) ?_
      have hal23 : Below Wd.heap.size Wd (Wd.alloc (.cells #[.slice none 0 0] 27)) := (Below.refl _ _).alloc (Nat.le_refl _) _
      have hx23 := heap_alloc_new Wd (.cells #[.slice none 0 0] 27)
      have hB23 : Below w17.heap.size w17 (Wd.alloc (.cells #[.slice none 0 0] 27)) := hbd.trans (hal23.mono hbd.size)
      have hV23 := HB17.out.trans (hB23.mono HB17.out.size)
      obtain ⟨V23, hVe23⟩ : ∃ V, Wd.alloc (.cells #[.slice none 0 0] 27) = V := ⟨_, rfl⟩
      rw [hVe23] at hal23 hx23 hB23 hV23
      rw [hVe23]
      clear hVe23
      refine ⟨⟨blko HKa.out hB23, blko HKb.out hB23⟩, ?_⟩
      try simp only [Act.put, List.getElem_toArray, List.getElem_cons_succ, List.getElem_cons_zero, List.setIfInBounds_toArray, List.set_cons_zero, List.set_cons_succ]
      refine wpAnyH_one 1 (by kernel_rfl) ?_
      refine wpOp_call 8 #[.agg #[.slice ad1 n1 k1]] rfl (by kernel_rfl) (rbx_call1 _ _ _ _ _ _ rfl _ (by kernel_rfl) (Try.call8 _ _)) ?_
      refine (HT1.out V23 hV23).mono ?_
      rintro e38 V38 ⟨g38, rfl, hg38, ho38, hb38⟩
      have hB38 : Below w17.heap.size w17 V38 := hB23.trans (hb38.mono hB23.size)
      have hV38 := HB17.out.trans (hB38.mono HB17.out.size)
      have hx38 := blko hx23 hb38
      refine ⟨⟨blko HKa.out hB38, blko HKb.out hB38⟩, ?_⟩
      try dsimp only
      try simp only [Act.put, List.getElem_toArray, List.getElem_cons_succ, List.getElem_cons_zero, List.setIfInBounds_toArray, List.set_cons_zero, List.set_cons_succ]
      refine wpAnyH_one 3 (by kernel_rfl) ?_
      refine wpOp_call 8 #[.agg #[.slice ad2 n2 k2]] rfl (by kernel_rfl) (rbx_call1 _ _ _ _ _ _ rfl _ (by kernel_rfl) (Try.call8 _ _)) ?_
      refine (HT2.out V38 hV38).mono ?_
      rintro e39 V39 ⟨g39, rfl, hg39, ho39, hb39⟩
      have hB39 : Below w17.heap.size w17 V39 := hB38.trans (hb39.mono hB38.size)
      have hV39 := HB17.out.trans (hB39.mono HB17.out.size)
      have hr39q := own_below ho38 hb39
      have hx39 := blko hx38 hb39
      refine ⟨⟨blko HKa.out hB39, blko HKb.out hB39⟩, ?_⟩
      try dsimp only
      try simp only [Act.put, List.getElem_toArray, List.getElem_cons_succ, List.getElem_cons_zero, List.setIfInBounds_toArray, List.set_cons_zero, List.set_cons_succ]
      refine wpAnyH_one 4 (by kernel_rfl) ?_
      refine wpOp_call 12 #[.agg #[.slice (some ⟨g38, 0, none⟩) n1 n1], .agg #[.slice (some ⟨g39, 0, none⟩) n2 n2]] rfl (by kernel_rfl) (rbx_call2 _ _ _ _ _ _ _ _ rfl _ _ (by kernel_rfl) (by kernel_rfl) (Try.call12 _ _)) ?_
      refine (HIm.out V39 _ _ g38 g39 hr39q ho39).mono ?_
      rintro e40 V40 ⟨ty40, v40, hty40, rfl, ho40, hb40⟩
      try dsimp only at ho40
      obtain ⟨ad40, cp40, rfl⟩ := own_sl1 ho40
      have hB40 : Below w17.heap.size w17 V40 := hB39.trans (hb40.mono hB39.size)
      have hV40 := HB17.out.trans (hB40.mono HB17.out.size)
      have hx40 := blko hx39 hb40
      refine ⟨⟨blko HKa.out hB40, blko HKb.out hB40⟩, ?_⟩
      try dsimp only
      try simp only [Act.put, List.getElem_toArray, List.getElem_cons_succ, List.getElem_cons_zero, List.setIfInBounds_toArray, List.set_cons_zero, List.set_cons_succ]
      refine tkX 5 (hS := ⟨blko HKa.out hB40, blko HKb.out hB40⟩) (h := ?_)
      try simp only [Act.put, List.getElem_toArray, List.getElem_cons_succ, List.getElem_cons_zero, List.setIfInBounds_toArray, List.set_cons_zero, List.set_cons_succ]
      refine tkX 6 (v := .agg #[.slice ad40 jz.length cp40]) (hS := ⟨blko HKa.out hB40, blko HKb.out hB40⟩) (h := ?_)
      try simp only [Act.put, List.getElem_toArray, List.getElem_cons_succ, List.getElem_cons_zero, List.setIfInBounds_toArray, List.set_cons_zero, List.set_cons_succ]
      refine tkX 7 (v := .int .i64 code) (hS := ⟨blko HKa.out hB40, blko HKb.out hB40⟩) (h := ?_)
      try simp only [Act.put, List.getElem_toArray, List.getElem_cons_succ, List.getElem_cons_zero, List.setIfInBounds_toArray, List.set_cons_zero, List.set_cons_succ]
      have hrm41 := own_mono ho40 hB39.size
      refine wpAnyH_one 9 (by kernel_rfl) ?_
      refine wpOp_skip _ rfl (by kernel_rfl) (exec_storeD V40 _ _ _ _ rfl (Wd.heap.size) _ ad40 jz.length cp40 (by kernel_rfl) (by kernel_rfl) hx40) ?_
      have hlB42 : w17.heap.size ≤ Wd.heap.size := hbd.size
      have hs42 := set1 hx40 (.slice ad40 jz.length cp40)
      have hqa42 := (heap_set_other V40 (Wd.heap.size) 0 (.slice ad40 jz.length cp40) w.heap.size (by omega)).trans (blko HKa.out hB40)
      have hqb42 := (heap_set_other V40 (Wd.heap.size) 0 (.slice ad40 jz.length cp40) (w.heap.size + 1) (by omega)).trans (blko HKb.out hB40)
      refine ⟨⟨hqa42, hqb42⟩, ?_⟩
      try simp only [Act.put, List.getElem_toArray, List.getElem_cons_succ, List.getElem_cons_zero, List.setIfInBounds_toArray, List.set_cons_zero, List.set_cons_succ]
      refine tkX 10 (hS := ⟨hqa42, hqb42⟩) (h := ?_)
      try simp only [Act.put, List.getElem_toArray, List.getElem_cons_succ, List.getElem_cons_zero, List.setIfInBounds_toArray, List.set_cons_zero, List.set_cons_succ]
      refine wpAnyH_done (by kernel_rfl) ?_ _
      have HF42 : Hid (CutJ w17 jz code (.pointer (some ⟨Wd.heap.size, 0, none⟩)) (.int .i64 code) (V40.setCell ⟨Wd.heap.size, 0, none⟩ (.slice ad40 jz.length cp40))) := by
        refine ⟨Wd.heap.size, ty40, ad40, cp40, hty40, rfl, rfl, ⟨hs42, own_congr hrm41 (fun b hb => heap_set_other _ _ _ _ _ (fun e => ?_))⟩, ?_⟩
        · subst e
          obtain ⟨_, cur, h5⟩ := own_blk hrm41 hb
          exact blk_ne hx40 h5 (tyK hty40) rfl
        · exact hB40.setCell (p := ⟨Wd.heap.size, 0, none⟩) hlB42 _
      go_wp2_with fail
      go_meet
      exact HF42.out
  case rest =>
  obtain ⟨BF, tyF, adF, cpF, htyF, rfl, rfl, hxF, hb18⟩ := hcut
  clear htyF
  have HXF := hidd hxF
  have HB18 := hidd (HB17.out.trans (hb18.mono HB17.out.size))
  replace HX6 := hidd (HX6.out.below hb18)
  replace HM17 := hidd (HM17.out.below hb18)
  obtain ⟨w18, hw18⟩ : ∃ w3, w3 = wc := ⟨_, rfl⟩
  rw [← hw18] at HXF HB18 HX6 HM17
  rw [← hw18]
  clear hw18 hxF hb18 HIm HKa HKb
  have x0 : w18.cell? ⟨BF, 0, none⟩ = some (.slice adF jz.length cpF) := blkc HXF.out.box 0
  have y0 : w18.cell? ⟨B6, 0, none⟩ = some (.slice ad6 jz.length cp6) := blkc HX6.out.box 0
  go_wp2_with fail
  refine (eqSketchE_same _ _ _ _ _ _ jz _ hJl HXF.out.row HX6.out.row).mono ?_
  rintro e w19 ⟨rfl, hb19⟩
  have HB19 := hidd (HB18.out.trans (hb19.mono HB18.out.size))
  replace HM17 := hidd (HM17.out.below hb19)
  clear hb19 x0 y0
  have x0 : w19.cell? ⟨w8.heap.size, 0, none⟩ = some (.slice ad1' jz.length cp1') := blkc HM17.out.box 0
  go_wp2_with fail
  refine (heldSketchE_own _ _ jz.length _ _ hJl HM17.out.row).mono ?_
  rintro e w20 ⟨rfl, hb20⟩
  have HB20 := hidd (HB19.out.trans (hb20.mono HB19.out.size))
  clear hb20 x0
  go_wp2_with fail
  go_ret
  exact ⟨rfl, HB20.out⟩
end Go.Proofs.Ytkgmghncpjhodab
