import Derived.Test.YtmnfioghhdgciaaDoorWildJ16
import Derived.WalkMore
import Derived.ScopeJumps
import Derived.Test.YtmnfioghhdgciaaDoorWildJ14
namespace Go.Proofs.YtmnfioghhdgciaaDoor
open Go Go.RowKit
set_option linter.unusedVariables false
set_option linter.unusedSimpArgs false
set_option maxRecDepth 100000

/-! impl.walk.tableOf at sets of places. -/
abbrev folW (wv : Value) : Value := .func (.func 22) #[wv] #[]
abbrev finW (wv : Value) : Value := .func (.func 23) #[wv] #[]
abbrev wkA (s : Nat) (fo fi : Value) : Array Value := #[.int .u64 (s : Int), fo, fi, .int .i64 257]
theorem jmp_retW {l : Nat} {J : Act → World → Prop} {Q : Exit → Act → World → Prop} {a : Act} {w : World} (h : Q .ret a w) : Exit.jump l J Q .ret a w := h
theorem tb_start (w : World) (cw : Array Value) (a0 a1 a2 a3 : Value) :
    (((w.alloc (.cells cw 56)).alloc (.cells #[a0, a1, a2, a3] 59)).alloc (.cells #[nilS, nilS, nilS, nilS, nilS, nilS, nilS, nilS] 72)).heap[w.heap.size + 1]? = some (.cells #[a0, a1, a2, a3] 59) ∧
    Tb w (((((w.alloc (.cells cw 56)).alloc (.cells #[a0, a1, a2, a3] 59)).alloc (.cells #[nilS, nilS, nilS, nilS, nilS, nilS, nilS, nilS] 72)).alloc (.cells #[a0, a1, a2, a3, nilS, nilS, nilS, nilS] 72)).alloc (.cells #[.map none, nilS] 102)) cw #[a0, a1, a2, a3] a0 a1 a2 a3 nilS nilS (.map none) nilS [] [] := by
  generalize hA : Obj.cells cw 56 = A
  generalize hB : Obj.cells #[a0, a1, a2, a3] 59 = B
  generalize hC : Obj.cells #[nilS, nilS, nilS, nilS, nilS, nilS, nilS, nilS] 72 = C
  generalize hD : Obj.cells #[a0, a1, a2, a3, nilS, nilS, nilS, nilS] 72 = D
  have z1 : (w.alloc A).heap.size = w.heap.size + 1 := by simp
  have z2 : ((w.alloc A).alloc B).heap.size = w.heap.size + 2 := by rw [World.size_alloc, z1]
  have z3 : (((w.alloc A).alloc B).alloc C).heap.size = w.heap.size + 3 := by rw [World.size_alloc, z2]
  have z4 : ((((w.alloc A).alloc B).alloc C).alloc D).heap.size = w.heap.size + 4 := by rw [World.size_alloc, z3]
  refine ⟨?_, ?_, ?_, ?_, ?_, ?_, World.ownsRow_nil _ _ _ _, ?_⟩
  · rw [Below.heap_alloc _ _ _ (by rw [z2]; omega), ← z1]; exact heap_alloc_new _ _
  · rw [Below.heap_alloc _ _ _ (by rw [z4]; omega), Below.heap_alloc _ _ _ (by rw [z3]; omega), Below.heap_alloc _ _ _ (by rw [z2]; omega), Below.heap_alloc _ _ _ (by rw [z1]; omega), hA]; exact heap_alloc_new _ _
  · rw [Below.heap_alloc _ _ _ (by rw [z4]; omega), Below.heap_alloc _ _ _ (by rw [z3]; omega), Below.heap_alloc _ _ _ (by rw [z2]; omega), ← z1, hB]; exact heap_alloc_new _ _
  · rw [Below.heap_alloc _ _ _ (by rw [z4]; omega), Below.heap_alloc _ _ _ (by rw [z3]; omega), ← z2, hC]; exact heap_alloc_new _ _
  · rw [Below.heap_alloc _ _ _ (by rw [z4]; omega), ← z3, hD]; exact heap_alloc_new _ _
  · have := setAt_new (K := keyW) ((((w.alloc A).alloc B).alloc C).alloc D) w.heap.size
    rw [z4] at this
    exact this
  · exact (((((Below.refl _ _).alloc (Nat.le_refl _) _).alloc (by rw [z1]; omega) _).alloc (by rw [z2]; omega) _).alloc (by rw [z3]; omega) _).alloc (by rw [z4]; omega) _
theorem Tryd.infoStrS : (Tryd.prog.info? 104).map (fun i => (i.zero, i.size, i.bytes)) = some (some (.slice none 0 0), 1, 24) := by kernel_rfl
theorem Tryd.infoBoolN : (Tryd.prog.info? 4).map (fun i => (i.zero, i.size, i.bytes)) = some (some (.bool false), 1, 1) := by kernel_rfl
theorem wpOp_pushB {W : World} {ops : Array Oper} {i : Nat} {o : Oper} {a : Act} {K : Act → World → Prop} {Q : Exit → Act → World → Prop} (hio : ops[i]? = some o) (hw : Region.wanted o (yielded ops a.tmps) = true) (hgd : o.guard = none) (s x : Operand)
    (ho : o.op = .call { callee := .builtin .append, args := #[s, x], argTypes := #[36, 36] }) (i0 : TypeInfo) (hi : Tryd.prog.info? 4 = some i0) (hz : i0.zero = some (.bool false)) (hsize : i0.size = 1) (hby : i0.bytes = 1)
    (base : Nat) (v : Value) (n : Nat) (xs : List Value) (hs : a.eval s = v) (hown : W.ownsRow base 4 1 v n xs) (b : Bool) (ad : Nat) (had : ad = W.heap.size) (hx : a.eval x = .slice (some ⟨ad, 0, none⟩) 1 1) (hb : (n + 1) * 1 ≤ 140737488355328) (hbase : base ≤ W.heap.size)
    (h : ∀ g cap w', w'.ownsRow base 4 1 (.slice (some ⟨g, 0, none⟩) (n + 1) cap) (n + 1) (xs ++ [.bool b]) → But (fun b => v.ownBlock = some b) W w' → (∀ b, (Value.slice (some ⟨g, 0, none⟩) (n + 1) cap).ownBlock = some b → v.ownBlock = some b ∨ W.heap.size ≤ b) → K (a.put o.dst (.slice (some ⟨g, 0, none⟩) (n + 1) cap)) w') :
    wpOp Tryd.prog ops Q i K a (W.alloc (.cells #[.bool b] 4)) := by
  refine wpOp_wp hio hw ?_
  have := step_pushk (ops := ops) (E := True) (Q := Q) hgd s x 36 4 ho i0 (.bool false) 1 1 Tryd.underlying36 hi hz hsize hby rfl (by decide) base v n xs hs hown #[.bool b] rfl (by intro y hy; simp at hy; subst hy; rfl) ad had hx hb (by decide) hbase h
  rwa [if_pos hw] at this
theorem Tryd.infoStr : (Tryd.prog.info? 106).map (fun i => (i.zero, i.size, i.bytes)) = some (some (.agg #[.int .i64 0, .int .i64 0]), 2, 16) := by kernel_rfl
theorem eight_set {W : World} {b : Nat} {x0 x1 x2 x3 x4 x5 x6 x7 : Value} {t : TypeId} (h : W.heap[b]? = some (.cells #[x0, x1, x2, x3, x4, x5, x6, x7] t)) (y0 y1 y2 y3 y4 y5 y6 y7 : Value) : ((((((((W.setCell ⟨b, 0, none⟩ y0).setCell ⟨b, 1, none⟩ y1).setCell ⟨b, 2, none⟩ y2).setCell ⟨b, 3, none⟩ y3).setCell ⟨b, 4, none⟩ y4).setCell ⟨b, 5, none⟩ y5).setCell ⟨b, 6, none⟩ y6).setCell ⟨b, 7, none⟩ y7).heap[b]? = some (.cells #[y0, y1, y2, y3, y4, y5, y6, y7] t) := by
  have h1 := blk_setk (blk_setk (blk_setk (blk_setk (blk_setk (blk_setk (blk_setk (blk_setk h 0 y0) 1 y1) 2 y2) 3 y3) 4 y4) 5 y5) 6 y6) 7 y7
  simpa using h1
/-- Too many were met, all of them reached. -/
def Many (ok : Nat → Prop) : Prop := ∃ Z : List Nat, Z.Nodup ∧ 257 < Z.length ∧ ∀ z ∈ Z, ok z
def TbPost (K : Kaut Nat) (ls : List Int) (x0 : Nat) (ok : Nat → Prop) (a0 a1 a2 a3 : Value) (w : World) (e : Ending) (w' : World) : Prop :=
  (∃ vrows vfin Z nxt bs l, e = .returned (.tuple #[.agg #[a0, a1, a2, a3, vrows, vfin, nilS, nilS], .int .i64 0]) ∧ FgN K (ls.length + 1) x0 Z.length Z nxt bs ∧ l.map (·.2) = nxt.map runs ∧ RowsS w' w.heap.size vrows l ∧ w'.ownsRow w.heap.size 4 1 vfin bs.length (bs.map Value.bool) ∧ Below w.heap.size w w' ∧ Z.length ≤ 257) ∨
  (e = .returned (.tuple #[.agg #[nilS, nilS, nilS, nilS, nilS, nilS, nilS, nilS], .int .i64 11]) ∧ Many ok ∧ Below w.heap.size w w')
def Few (ok : Nat → Prop) (Z : List Nat) : Prop := (∀ z ∈ Z, ok z) ∧ Z.length ≤ 257
def FrameW (p : Value) (a' : Act) : Prop := ∃ (j0 j1 j2 j3 j5 j6 j7 j8 j9 j10 j11 j12 j13 j14 j15 j16 j17 j18 j19 j20 j21 j22 j23 j24 j25 j26 j27 j28 j29 j30 j31 j32 j33 j34 j35 j36 j37 j38 j39 j40 j41 j42 j43 j44 j45 j46 j47 j48 j49 j50 j51 j52 j53 j54 j55 j56 j57 j58 j59 j60 j61 j62 j63 j64 j65 j66 j67 j68 j69 j70 j71 j72 j73 j74 j75 j76 j77 j78 j79 j80 j81 j82 j83 j84 j85 j86 j87 j88 j89 j90 j91 : Value), a' = { tmps := #[j0, j1, j2, j3, p, j5, j6, j7, j8, j9, j10, j11, j12, j13, j14, j15, j16, j17, j18, j19, j20, j21, j22, j23, j24, j25, j26, j27, j28, j29, j30, j31, j32, j33, j34, j35, j36, j37, j38, j39, j40, j41, j42, j43, j44, j45, j46, j47, j48, j49, j50, j51, j52, j53, j54, j55, j56, j57, j58, j59, j60, j61, j62, j63, j64, j65, j66, j67, j68, j69, j70, j71, j72, j73, j74, j75, j76, j77, j78, j79, j80, j81, j82, j83, j84, j85, j86, j87, j88, j89, j90, j91], defers := [] }
set_option maxHeartbeats 8000000 in
theorem tableOf_any (wv a0 a1 a2 a3 : Value) (K : Kaut Nat) (ok : Nat → Prop) (x0 : Nat) (ls : List Int) (w : World) (hll : ls.length ≤ 30) (hok0 : ok x0) (hokS : ∀ x j, ok x → j < ls.length + 1 → ok (K.step x j)) (hokL : ∀ x, ok x → x < 2147483648)
    (hfo : ∀ (s j : Nat) (W : World), Below w.heap.size w W → ok s → j < ls.length + 1 → Calls Tryd.prog 22 #[wv, .agg (plV s), .int .i64 (letN ls j)] W fun e w' => e = .returned (.agg (plV (K.step s j))) ∧ Below W.heap.size W w')
    (hfi : ∀ (s : Nat) (W : World), Below w.heap.size w W → ok s → Calls Tryd.prog 23 #[wv, .agg (plV s)] W fun e w' => e = .returned (.bool (K.fin s)) ∧ Below W.heap.size W w')
    (h2 : HoldI w a2 (ls ++ [-1])) (h0 : ∃ ad n c, a0 = .slice ad n c) (h1 : ∃ ad n c, a1 = .slice ad n c) (h3 : ∃ ad n c, a3 = .slice ad n c) :
    Calls Tryd.prog 35 #[.agg (wkA x0 (folW wv) (finW wv)), .agg #[a0, a1, a2, a3]] w (TbPost K ls x0 ok a0 a1 a2 a3 w) := by
  have HFO := hidd hfo
  have HFI := hidd hfi
  have HOS := hidd hokS
  have HOL := hidd hokL
  have HX0 := hidd hok0
  clear hfo hfi hokS hokL hok0
  obtain ⟨is, his, hs0, hs1, hs2⟩ := info_parts Tryd.infoStr
  obtain ⟨ir, hir, hr0, hr1, hr2⟩ := info_parts Tryd.infoStrS
  obtain ⟨ib, hib, hb0, hb1, hb2⟩ := info_parts Tryd.infoBoolN
  have H2 := hidd h2
  obtain ⟨ad0, n0, c0, rfl⟩ := h0
  obtain ⟨ad1, n1, c1, rfl⟩ := h1
  obtain ⟨ad3, n3, c3, rfl⟩ := h3
  obtain ⟨ad2, c2, rfl⟩ : ∃ ad c, a2 = .slice ad (ls.length + 1) c := by
    obtain ⟨ad, c, h, _⟩ := h2
    exact ⟨ad, c, by rw [h]; simp⟩
  clear h2
  have hS := tb_start w (wkA (x0) (folW wv) (finW wv)) (.slice ad0 n0 c0) (.slice ad1 n1 c1) (.slice ad2 (ls.length + 1) c2) (.slice ad3 n3 c3)
  have HS := hidd hS.2
  have b0 := blkc hS.1 0
  have b1 := blkc hS.1 1
  have b2 := blkc hS.1 2
  have b3 := blkc hS.1 3
  clear hS
  go_enter Tryd.func35, Tryd.ntmps35
  go_wp2_with fail
  obtain ⟨J, HJ⟩ : ∃ J : Act → World → Prop, Hid (J = fun a' w' => Many ok ∧ w'.heap[w.heap.size + 2]? = some (.cells #[nilS, nilS, nilS, nilS, nilS, nilS, nilS, nilS] 72) ∧ Below w.heap.size w w' ∧ FrameW (.pointer (some ⟨w.heap.size + 2, 0, none⟩)) a') := ⟨_, rfl⟩
  refine wp_scope_jumps 0 J (fun _ _ => 0) rfl ?_ ?pass
  case' pass =>
    clear HS HFO HFI HOS HOL b0 b1 b2 b3
    intro a' w' hJ
    rw [HJ.out] at hJ
    obtain ⟨hMany, hrb, hbl, j0, j1, j2, j3, j5, j6, j7, j8, j9, j10, j11, j12, j13, j14, j15, j16, j17, j18, j19, j20, j21, j22, j23, j24, j25, j26, j27, j28, j29, j30, j31, j32, j33, j34, j35, j36, j37, j38, j39, j40, j41, j42, j43, j44, j45, j46, j47, j48, j49, j50, j51, j52, j53, j54, j55, j56, j57, j58, j59, j60, j61, j62, j63, j64, j65, j66, j67, j68, j69, j70, j71, j72, j73, j74, j75, j76, j77, j78, j79, j80, j81, j82, j83, j84, j85, j86, j87, j88, j89, j90, j91, rfl⟩ := hJ
    clear HJ
    have r0 := blkc hrb 0
    have r1 := blkc hrb 1
    have r2 := blkc hrb 2
    have r3 := blkc hrb 3
    have r4 := blkc hrb 4
    have r5 := blkc hrb 5
    have r6 := blkc hrb 6
    have r7 := blkc hrb 7
    have fzr := fun j => frozen_of_row _ _ j _ _ hrb
    have Hfs := hidd (eight_set hrb nilS nilS nilS nilS nilS nilS nilS nilS)
    have HFin : Hid (TbPost K ls x0 ok (.slice ad0 n0 c0) (.slice ad1 n1 c1) (.slice ad2 (ls.length + 1) c2) (.slice ad3 n3 c3) w (.returned (.tuple #[.agg #[nilS, nilS, nilS, nilS, nilS, nilS, nilS, nilS], .int .i64 11])) ((((((((w'.setCell ⟨w.heap.size + 2, 0, none⟩ nilS).setCell ⟨w.heap.size + 2, 1, none⟩ nilS).setCell ⟨w.heap.size + 2, 2, none⟩ nilS).setCell ⟨w.heap.size + 2, 3, none⟩ nilS).setCell ⟨w.heap.size + 2, 4, none⟩ nilS).setCell ⟨w.heap.size + 2, 5, none⟩ nilS).setCell ⟨w.heap.size + 2, 6, none⟩ nilS).setCell ⟨w.heap.size + 2, 7, none⟩ nilS)) := by
      refine Or.inr ⟨rfl, hMany, ?_⟩
      have g : ∀ (W : World) (i : Nat) (u : Value), Below w.heap.size w W → Below w.heap.size w (W.setCell ⟨w.heap.size + 2, i, none⟩ u) := fun W i u h => h.setCell (by show w.heap.size ≤ w.heap.size + 2; omega) _
      exact g _ _ _ (g _ _ _ (g _ _ _ (g _ _ _ (g _ _ _ (g _ _ _ (g _ _ _ (g _ _ _ hbl)))))))
    clear hMany hrb hbl
    go_wp2_with fail
    have q0 := blkc Hfs.out 0
    have q1 := blkc Hfs.out 1
    have q2 := blkc Hfs.out 2
    have q3 := blkc Hfs.out 3
    have q4 := blkc Hfs.out 4
    have q5 := blkc Hfs.out 5
    have q6 := blkc Hfs.out 6
    have q7 := blkc Hfs.out 7
    clear Hfs fzr r0 r1 r2 r3 r4 r5 r6 r7
    generalize ((((((((w'.setCell ⟨w.heap.size + 2, 0, none⟩ nilS).setCell ⟨w.heap.size + 2, 1, none⟩ nilS).setCell ⟨w.heap.size + 2, 2, none⟩ nilS).setCell ⟨w.heap.size + 2, 3, none⟩ nilS).setCell ⟨w.heap.size + 2, 4, none⟩ nilS).setCell ⟨w.heap.size + 2, 5, none⟩ nilS).setCell ⟨w.heap.size + 2, 6, none⟩ nilS).setCell ⟨w.heap.size + 2, 7, none⟩ nilS) = WF at *
    refine jmp_retW ?_
    refine bodyPost_ret (v := .tuple #[.agg #[nilS, nilS, nilS, nilS, nilS, nilS, nilS, nilS], .int .i64 11]) (by simp [results, Tryd.results35, go_sem, *]) rfl ?_
    exact HFin.out
  go_upto_region 3 with fail
  clear b0 b1 b2 b3
  obtain ⟨W2, hW2⟩ : ∃ W2, W2 = (((((w.alloc (.cells (wkA (x0) (folW wv) (finW wv)) 56)).alloc (.cells #[.slice ad0 n0 c0, .slice ad1 n1 c1, .slice ad2 (ls.length + 1) c2, .slice ad3 n3 c3] 59)).alloc (.cells #[nilS, nilS, nilS, nilS, nilS, nilS, nilS, nilS] 72)).alloc (.cells #[.slice ad0 n0 c0, .slice ad1 n1 c1, .slice ad2 (ls.length + 1) c2, .slice ad3 n3 c3, nilS, nilS, nilS, nilS] 72)).alloc (.cells #[.map none, nilS] 102)) := ⟨_, rfl⟩
  rw [← hW2] at HS ⊢
  clear hW2
  have e0 := blkc HS.out.wb 0
  go_wp2_with fail
  refine (placeW_any w.heap.size (w.heap.size + 4) (.map none) nilS [] x0 _ (Nat.lt_trans (HOL.out _ HX0.out) (by omega)) (by simp) HS.out.bel.size HS.out.set).mono ?_
  rintro e w1 ⟨rfl, vm1, vmem1, hs1, hbut1, hat1, hat1'⟩
  rw [show meet ([] : List Nat) x0 = [x0] from rfl] at hs1
  have HT := hidd (HS.out.placed hs1 hbut1)
  have HR : Hid (RowsS w1 w.heap.size nilS []) := RowsS.nil _ _
  clear hs1 hbut1 hat1 hat1' e0 HS
  have HG : Hid (FgN K (ls.length + 1) x0 0 [x0] [] []) := FgN.zero _ _ _
  have HNr : Hid (Few ok [x0]) := ⟨fun z hz' => by rw [List.mem_singleton.1 hz']; exact HX0.out, by simp⟩
  go_wp2_with fail
  go_loopw [8] (fun iv wx => ∃ (i : Nat) (Z : List Nat) (nxt : List (List Nat)) (bs : List Bool) (l : List SRow) (vrows vfin vm vmem : Value), iv = .int .i64 (i : Int) ∧ Tb w wx (wkA x0 (folW wv) (finW wv)) #[.slice ad0 n0 c0, .slice ad1 n1 c1, .slice ad2 (ls.length + 1) c2, .slice ad3 n3 c3] (.slice ad0 n0 c0) (.slice ad1 n1 c1) (.slice ad2 (ls.length + 1) c2) (.slice ad3 n3 c3) vrows vfin vm vmem Z bs ∧ RowsS wx w.heap.size vrows l ∧ FgN K (ls.length + 1) x0 i Z nxt bs ∧ l.map (·.2) = nxt.map runs ∧ Few ok Z) (fun iv _ => 258 - (intOf iv).toNat)
  case atStart => exact ⟨0, [x0], [], [], [], _, _, _, _, rfl, HT.out, HR.out, HG.out, rfl, HNr.out⟩
  case round =>
    clear HT HR HG HNr
    obtain ⟨i, Z, nxt, bs, l, vrows, vfin, vm, vmem, rfl, hT, hR, hG, hL, hN⟩ := hrel
    have HT := hidd hT
    have HR := hidd hR
    have HG := hidd hG
    have HL := hidd hL
    have HN := hidd hN
    have hZ : Z.length ≤ 257 := hN.2
    have hiZ := hG.le
    obtain ⟨adm, cpm, rfl⟩ := own_slk hT.set.row
    have s1 := blkc hT.set.box 1
    clear hL hN hR
    by_cases hlt : i < Z.length
    · have hltz : (i : Int) < (Z.length : Int) := by omega
      obtain ⟨x, hx⟩ : ∃ x, Z[i]? = some x := ⟨_, List.getElem?_eq_getElem hlt⟩
      have HXg : Hid (Z.getD i x0 = x) := by show _ = _; rw [List.getD_eq_getElem?_getD, hx]; rfl
      have HXk := hidd (HN.out.1 x (List.mem_of_getElem? hx))
      obtain ⟨gm, cm, hvm, m0⟩ := set_read hT.set hx
      simp only [Value.slice.injEq, true_and] at hvm
      obtain ⟨rfl, rfl⟩ := hvm
      have HI0 : Hid (InS w (wr.alloc (.cells (plV x) 51)) (wkA x0 (folW wv) (finW wv)) #[.slice ad0 n0 c0, .slice ad1 n1 c1, .slice ad2 (ls.length + 1) c2, .slice ad3 n3 c3] (.slice ad0 n0 c0) (.slice ad1 n1 c1) (.slice ad2 (ls.length + 1) c2) (.slice ad3 n3 c3) vrows vfin vm (.slice (some ⟨gm, 0, none⟩) Z.length cpm) Z bs l wr.heap.size x nilS []) := by
        have hb : Below wr.heap.size wr (wr.alloc (.cells (plV x) 51)) := (Below.refl _ _).alloc (Nat.le_refl _) _
        exact ⟨hT.below hb, (HR.out.congr fun b cs t _ _ hh => blko hh hb).start, heap_alloc_new _ _, fun b hB => by have := (hT.set.blk hB).1; omega, hT.bel.size⟩
      have HIZ : Hid (Z[i]? = some x) := hx
      clear hT hG hx
      go_upto_region 8 with fail
      generalize hW3 : wr.alloc (.cells (plV x) 51) = W3 at *
      generalize wr.heap.size = fb at *
      clear hW3 m0 s1
      have q2 := blkc HI0.out.t.ab 2
      have HN0 : Hid (Few ok (metN K Z x 0)) := HN.out
      go_wp2_with fail
      go_loopw [34, 10] (fun jv rv wx => ∃ (j : Nat) (vr vm' vmem' : Value), j ≤ ls.length + 1 ∧ jv = .int .i64 (j : Int) ∧ rv = vr ∧ InS w wx (wkA x0 (folW wv) (finW wv)) #[.slice ad0 n0 c0, .slice ad1 n1 c1, .slice ad2 (ls.length + 1) c2, .slice ad3 n3 c3] (.slice ad0 n0 c0) (.slice ad1 n1 c1) (.slice ad2 (ls.length + 1) c2) (.slice ad3 n3 c3) vrows vfin vm' vmem' (metN K Z x j) bs l fb x vr (rowN K Z x j) ∧ Few ok (metN K Z x j)) (fun jv _ _ => ls.length + 1 - (intOf jv).toNat)
      case atStart => exact ⟨0, _, _, _, by omega, rfl, rfl, HI0.out, HN0.out⟩
      case round =>
        clear HI0 HN0 q2
        obtain ⟨j, vr, vm', vmem', hj, rfl, rfl, hI, hNj⟩ := hrel
        have HI := hidd hI
        have HNj := hidd hNj
        have hZj : (metN K Z x j).length ≤ 257 := hNj.2
        by_cases hjl : j < ls.length + 1
        · have hjz : (j : Int) < (ls.length : Int) + 1 := by omega
          obtain ⟨g2, o2, rfl, hg2, hc2⟩ : ∃ g o, ad2 = some ⟨g, o, none⟩ ∧ g < w.heap.size ∧ w.cell? ⟨g, o + j, none⟩ = some (.int .i64 (letN ls j)) := by
            obtain ⟨g, o, e, h1, h2⟩ := H2.out.cells (i := j) (by simp; omega)
            refine ⟨g, o, e, h1, ?_⟩
            rw [h2]
            congr 2
            unfold letN
            by_cases hjj : j < ls.length
            · rw [if_pos hjj]; simp [List.getElem?_append_left hjj]
            · obtain rfl : j = ls.length := by omega
              rw [if_neg hjj]; simp
          have r0 := (hI.t.bel.cell (p := ⟨g2, o2 + j, none⟩) hg2).trans hc2
          have w4 := blkc hI.t.wb 1
          have f0 := blkc hI.f 0
          have HYk := hidd (HOS.out x j HXk.out hjl)
          have HFj : Hid (∀ W, Below w.heap.size w W → Calls Tryd.prog 22 #[wv, .agg (plV x), .int .i64 (letN ls j)] W fun e w' => e = .returned (.agg (plV (K.step x j))) ∧ Below W.heap.size W w') := fun W hW => HFO.out x j W hW HXk.out hjl
          obtain ⟨y, hy⟩ : ∃ y, K.step x j = y := ⟨_, rfl⟩
          have HST := hidd hy
          rw [hy] at HYk HFj
          clear hy
          clear hI hNj hc2
          generalize letN ls j = r at *
          go_wp2_with fail
          refine (HFj.out _ HI.out.t.bel).mono ?_
          rintro e w1 ⟨rfl, hb1⟩
          have HI2 := hidd ((HI.out.below hb1).below ((Below.refl w1.heap.size w1).alloc (Nat.le_refl _) (.cells (plV y) 51)))
          have HNB : Hid ((w1.alloc (.cells (plV y) 51)).heap[w1.heap.size]? = some (.cells (plV y) 51)) := heap_alloc_new _ _
          have HNS : Hid (∀ b, SetB (w.heap.size + 4) vm' vmem' b → b < w1.heap.size) := fun b hB => ((HI.out.below hb1).t.set.blk hB).1
          clear hb1 HI r0 w4 f0
          go_upto_region 13 with fail
          generalize hW4 : w1.alloc (.cells (plV y) 51) = W4 at *
          generalize w1.heap.size = nb at *
          clear hW4
          obtain ⟨B, hB⟩ : ∃ B : Bool, (B = true ↔ ∃ i', j = i' + 1 ∧ K.step x (i' + 1) = K.step x i') := ⟨@decide (∃ i', j = i' + 1 ∧ K.step x (i' + 1) = K.step x i') (Classical.propDecidable _), by simp⟩
          have HB := hidd hB
          clear hB
          go_cut [60] (fun bv wx => bv = .bool B ∧ ∃ q, wx = W4.drewN q)
          case first =>
            by_cases hj0 : j = 0
            · have hjn : ¬ (j : Int) > 0 := by omega
              have HBf : Hid (B = false) := by
                show _ = _
                rw [Bool.eq_false_iff]
                intro e
                obtain ⟨i', h1, _⟩ := HB.out.1 e
                omega
              have hjd : decide (0 < j) = false := by simp [hj0]
              clear hj0 hjn
              go_quiet (fail)
              go_wp2_with fail
              go_meet
              case rel => exact ⟨by rw [HBf.out], _, rfl⟩
            · obtain ⟨i', rfl⟩ : ∃ i', j = i' + 1 := ⟨j - 1, by omega⟩
              obtain ⟨sx, hs1, hs2⟩ := rowN_last K Z x i'
              obtain ⟨p, hp, hps⟩ : ∃ p, (rowN K Z x (i' + 1)).length = p + 1 ∧ (rowN K Z x (i' + 1))[p]? = some sx := by
                rw [List.getLast?_eq_getElem?] at hs1
                have hlt := (List.getElem?_eq_some_iff.1 hs1).1
                exact ⟨(rowN K Z x (i' + 1)).length - 1, by omega, hs1⟩
              have hcur := HI2.out.c.cur
              rw [hp] at hcur
              obtain ⟨gr, cr, rfl⟩ := own_posk hcur (by omega)
              have u1 := own_cellk hcur (str_at _ p sx hps).2
              obtain ⟨gm, cm, rfl, v0⟩ := set_read HI2.out.t.set hs2
              have y0 := blkc HNB.out 0
              have z1 := blkc HI2.out.t.set.box 1
              have hss : sx.2 < (metN K Z x (i' + 1)).length := (List.getElem?_eq_some_iff.1 hs2).1
              have hssz : (sx.2 : Int) < ((metN K Z x (i' + 1)).length : Int) := by omega
              have HBv : Hid (B = decide (y = K.step x i')) := by
                show _ = _
                rw [Bool.eq_iff_iff, HB.out, ← HST.out, decide_eq_true_iff]
                refine ⟨?_, fun h => ⟨i', rfl, h⟩⟩
                rintro ⟨i'', h1, h2⟩
                obtain rfl : i' = i'' := by omega
                exact h2
              have hjd : decide (0 < i' + 1) = true := by simp
              have heq := fun W => eqPlace W y (K.step x i')
              have hp62 : p < 31 := by have := rowN_len K Z x (i' + 1); omega
              have hwp : IntKind.i64.wrap (p : Int) = (p : Int) := by rw [IntKind.wrap_i64]; omega
              have hpp : ((p + 1 : Nat) : Int) - 1 = (p : Int) := by omega
              have hp1 : (p : Int) < ((p + 1 : Nat) : Int) := by omega
              clear hs1 hs2 hps hp hcur
              generalize K.step x i' = yp at *
              generalize (metN K Z x (i' + 1)).length = nz at *
              refine wp_region_held (S := fun u => u.cell? ⟨nb, 0, none⟩ = some (.int .u64 (y : Int)) ∧ u.cell? ⟨w.heap.size + 4, 1, none⟩ = some (.slice (some ⟨gm, 0, none⟩) nz cm) ∧ u.cell? ⟨gr, p * 2 + 1, none⟩ = some (.int .i64 (sx.2 : Int)) ∧ u.cell? ⟨gm, sx.2, none⟩ = some (.int .u64 (yp : Int))) (by kernel_rfl) ?_
              have hSS : (fun u => u.cell? ⟨nb, 0, none⟩ = some (.int .u64 (y : Int)) ∧ u.cell? ⟨w.heap.size + 4, 1, none⟩ = some (.slice (some ⟨gm, 0, none⟩) nz cm) ∧ u.cell? ⟨gr, p * 2 + 1, none⟩ = some (.int .i64 (sx.2 : Int)) ∧ u.cell? ⟨gm, sx.2, none⟩ = some (.int .u64 (yp : Int))) ({ heap := W4.heap, tape := W4.tape, drawn := W4.drawn + 1, os := W4.os, output := W4.output } : World) := ⟨y0, z1, u1, v0⟩
              try simp only [Act.put, List.getElem_toArray, List.getElem_cons_succ, List.getElem_cons_zero, List.setIfInBounds_toArray, List.set_cons_zero, List.set_cons_succ]
              refine tkX 0 (hS := hSS) (h := ?_)
              try simp only [Act.put, List.getElem_toArray, List.getElem_cons_succ, List.getElem_cons_zero, List.setIfInBounds_toArray, List.set_cons_zero, List.set_cons_succ]
              refine tkX 1 (v := .bool true) (hS := hSS) (h := ?_)
              try simp only [Act.put, List.getElem_toArray, List.getElem_cons_succ, List.getElem_cons_zero, List.setIfInBounds_toArray, List.set_cons_zero, List.set_cons_succ]
              refine tkX 2 (hS := hSS) (h := ?_)
              try simp only [Act.put, List.getElem_toArray, List.getElem_cons_succ, List.getElem_cons_zero, List.setIfInBounds_toArray, List.set_cons_zero, List.set_cons_succ]
              refine tkX 3 (v := .agg (plV y)) (hS := hSS) (h := ?_)
              try simp only [Act.put, List.getElem_toArray, List.getElem_cons_succ, List.getElem_cons_zero, List.setIfInBounds_toArray, List.set_cons_zero, List.set_cons_succ]
              refine tkX 4 (hS := hSS) (h := ?_)
              try simp only [Act.put, List.getElem_toArray, List.getElem_cons_succ, List.getElem_cons_zero, List.setIfInBounds_toArray, List.set_cons_zero, List.set_cons_succ]
              refine tkX 5 (hS := hSS) (h := ?_)
              try simp only [Act.put, List.getElem_toArray, List.getElem_cons_succ, List.getElem_cons_zero, List.setIfInBounds_toArray, List.set_cons_zero, List.set_cons_succ]
              refine tkX 6 (hS := hSS) (h := ?_)
              try simp only [Act.put, List.getElem_toArray, List.getElem_cons_succ, List.getElem_cons_zero, List.setIfInBounds_toArray, List.set_cons_zero, List.set_cons_succ]
              refine tkX 7 (hS := hSS) (h := ?_)
              try simp only [Act.put, List.getElem_toArray, List.getElem_cons_succ, List.getElem_cons_zero, List.setIfInBounds_toArray, List.set_cons_zero, List.set_cons_succ]
              refine tkX 8 (hS := hSS) (h := ?_)
              try simp only [Act.put, List.getElem_toArray, List.getElem_cons_succ, List.getElem_cons_zero, List.setIfInBounds_toArray, List.set_cons_zero, List.set_cons_succ]
              refine tkX 9 (v := .int .i64 (p : Int)) (hS := hSS) (h := ?_)
              try simp only [Act.put, List.getElem_toArray, List.getElem_cons_succ, List.getElem_cons_zero, List.setIfInBounds_toArray, List.set_cons_zero, List.set_cons_succ]
              refine wpAnyH_take (i := 10) (v := .pointer (some ⟨gr, p * 2, none⟩)) rfl (by kernel_rfl) (by kernel_rfl) (by kernel_rfl) (fun _ _ _ h => h) (Or.inl ⟨by kernel_rfl, fun W hW => exec_idx2 W _ _ _ _ rfl gr p (p + 1) cr (by kernel_rfl) (by kernel_rfl) (Nat.lt_succ_self p)⟩) hSS ?_
              try simp only [Act.put, List.getElem_toArray, List.getElem_cons_succ, List.getElem_cons_zero, List.setIfInBounds_toArray, List.set_cons_zero, List.set_cons_succ]
              refine tkX 11 (v := .pointer (some ⟨gr, p * 2 + 1, none⟩)) (hS := hSS) (h := ?_)
              try simp only [Act.put, List.getElem_toArray, List.getElem_cons_succ, List.getElem_cons_zero, List.setIfInBounds_toArray, List.set_cons_zero, List.set_cons_succ]
              refine tkX 12 (v := .int .i64 (sx.2 : Int)) (hS := hSS) (h := ?_)
              try simp only [Act.put, List.getElem_toArray, List.getElem_cons_succ, List.getElem_cons_zero, List.setIfInBounds_toArray, List.set_cons_zero, List.set_cons_succ]
              refine wpAnyH_take (i := 13) (v := .pointer (some ⟨gm, sx.2, none⟩)) rfl (by kernel_rfl) (by kernel_rfl) (by kernel_rfl) (fun _ _ _ h => h) (Or.inl ⟨by kernel_rfl, fun W hW => exec_idxPl W _ _ _ _ rfl gm sx.2 nz cm (by kernel_rfl) (by kernel_rfl) hss⟩) hSS ?_
              try simp only [Act.put, List.getElem_toArray, List.getElem_cons_succ, List.getElem_cons_zero, List.setIfInBounds_toArray, List.set_cons_zero, List.set_cons_succ]
              refine tkX 14 (v := .agg (plV yp)) (hS := hSS) (h := ?_)
              try simp only [Act.put, List.getElem_toArray, List.getElem_cons_succ, List.getElem_cons_zero, List.setIfInBounds_toArray, List.set_cons_zero, List.set_cons_succ]
              refine tkX 15 (v := .bool (decide (y = yp))) (hS := hSS) (h := ?_)
              try simp only [Act.put, List.getElem_toArray, List.getElem_cons_succ, List.getElem_cons_zero, List.setIfInBounds_toArray, List.set_cons_zero, List.set_cons_succ]
              refine tkX 16 (v := .bool (decide (y = yp))) (hS := hSS) (h := ?_)
              try simp only [Act.put, List.getElem_toArray, List.getElem_cons_succ, List.getElem_cons_zero, List.setIfInBounds_toArray, List.set_cons_zero, List.set_cons_succ]
              refine wpAnyH_done (by kernel_rfl) ?_ _
              clear hSS y0 z1 u1 v0 heq
              go_wp2_with fail
              go_meet
              case rel => exact ⟨by rw [HBv.out], 1, rfl⟩
          case rest =>
            obtain ⟨rfl, q, hq⟩ := hcut
            subst hq
            have hbq : Below W4.heap.size W4 (W4.drewN q) := ⟨rfl, rfl, rfl, Nat.le_refl _, fun _ _ => rfl⟩
            have HI5 := hidd (HI2.out.below hbq)
            have HNB5 := hidd (blko HNB.out hbq)
            clear hbq HI2 HNB
            generalize W4.drewN q = W5 at *
            cases B with
            | true =>
              have HSm : Hid (metN K Z x (j + 1) = metN K Z x j ∧ rowN K Z x (j + 1) = rowN K Z x j) := by
                obtain ⟨i', rfl, h2⟩ := HB.out.1 rfl
                exact rowN_same h2
              go_wp2_with fail
              go_roundw
              case rel => exact ⟨j + 1, _, _, _, by omega, by go_num, rfl, by rw [HSm.out.1, HSm.out.2]; exact HI5.out, by rw [HSm.out.1]; exact HNj.out⟩
              case measure => simp [intOf]; omega
            | false =>
              have HNw : Hid (rowN K Z x (j + 1) = rowN K Z x j ++ [(j, ix (metN K Z x (j + 1)) y)]) := by
                have h1 := rowN_new (K := K) (x := x) (j := j) HG.out.nodup (fun i' h1 h2 => by
                  have := HB.out.2 ⟨i', h1, h2⟩
                  cases this)
                rw [HST.out] at h1
                exact h1
              have HMt : Hid (meet (metN K Z x j) y = metN K Z x (j + 1)) := by
                show _ = _
                rw [metN_succ, HST.out]
              have HNj' : Hid (∀ z ∈ metN K Z x (j + 1), ok z) := fun z hz' => by
                rw [← HMt.out] at hz'
                rcases meet_mem.1 hz' with h1 | h1
                · exact HNj.out.1 z h1
                · rw [h1]; exact HYk.out
              have hZj' : (metN K Z x (j + 1)).length ≤ 258 := by
                rw [← HMt.out]
                unfold meet
                split
                · omega
                · rw [List.length_append, List.length_singleton]; omega
              have HNd : Hid ((metN K Z x (j + 1)).Nodup) := meets_nodup HG.out.nodup
              have y0 := blkc HNB5.out 0
              go_wp2_with fail
              refine (placeW_any w.heap.size (w.heap.size + 4) vm' vmem' (metN K Z x j) y _ (Nat.lt_trans (HOL.out _ HYk.out) (by omega)) (by omega) HI5.out.t.bel.size HI5.out.t.set).mono ?_
              rintro e w6 ⟨rfl, vm6, vmem6, hs6, hbut6, hat6, hat6'⟩
              rw [HMt.out] at hs6
              rw [HMt.out]
              have hI6 := HI5.out.placed hs6 hbut6 hat6 hat6'
              have HI6 := hidd hI6
              have HO6 := hidd hI6.c.cur
              have hsz6 := hI6.t.bel.size
              have hrl := rowN_len K Z x j
              have HIX : Hid (ix (metN K Z x (j + 1)) y = ix (metN K Z x (j + 1)) y) := rfl
              generalize ix (metN K Z x (j + 1)) y = t at *
              clear hs6 hbut6 hat6 hat6' hI6 HI5 HNB5 y0
              go_wp2_with (at_builtin; refine wp_pushk rfl _ _ 104 106 rfl is (.agg #[.int .i64 0, .int .i64 0]) 2 16 Tryd.underlying104 his hs0 hs1 hs2 rfl (by decide) w.heap.size _ _ _ rfl HO6.out #[.int .i64 (j : Int), .int .i64 (t : Int)] rfl (by intro y' hy'; simp at hy'; rcases hy' with rfl | rfl <;> rfl) rfl (by omega) (by decide) hsz6 ?_)
              intro v7 w7 ho7 hbt7 hat7 hnn7
              obtain ⟨g7, c7, rfl⟩ : ∃ g c, v7 = .slice (some ⟨g, 0, none⟩) ((rowN K Z x j).length + 1) c := own_posk ho7 (by omega)
              have hI7 := HI6.out.push (p := (j, t)) hbt7 ho7 hat7
              rw [← HNw.out] at hI7
              have HI7 := hidd hI7
              obtain ⟨adz, cpz, rfl⟩ := own_slk hI7.t.set.row
              have z1 := blkc hI7.t.set.box 1
              have z7 := blkc hI7.t.wb 3
              clear ho7 hbt7 hat7 hnn7 hI7 HI6 HO6
              generalize hnz : (metN K Z x (j + 1)).length = nz at *
              by_cases hmany : nz > 257
              · have hnm : (nz : Int) > 257 := by omega
                have HFin : Hid (Many ok ∧ w7.heap[w.heap.size + 2]? = some (.cells #[nilS, nilS, nilS, nilS, nilS, nilS, nilS, nilS] 72) ∧ Below w.heap.size w w7) := ⟨⟨_, HNd.out, by rw [hnz]; exact hmany, HNj'.out⟩, HI7.out.t.rb, HI7.out.t.bel⟩
                go_wp2_with (go_step3; refine (⟨rfl, ?_⟩ : 0 = 0 ∧ J _ _); rw [HJ.out]; exact ⟨HFin.out.1, HFin.out.2.1, HFin.out.2.2, _, _, _, _, _, _, _, _, _, _, _, _, _, _, _, _, _, _, _, _, _, _, _, _, _, _, _, _, _, _, _, _, _, _, _, _, _, _, _, _, _, _, _, _, _, _, _, _, _, _, _, _, _, _, _, _, _, _, _, _, _, _, _, _, _, _, _, _, _, _, _, _, _, _, _, _, _, _, _, _, _, _, _, _, _, _, _, _, _, _, _, rfl⟩)
              · have hnm : ¬ (nz : Int) > 257 := by omega
                have HFw : Hid (Few ok (metN K Z x (j + 1))) := ⟨HNj'.out, by rw [hnz]; omega⟩
                go_wp2_with fail
                go_roundw
                case rel => exact ⟨j + 1, _, _, _, by omega, by go_num, rfl, HI7.out, HFw.out⟩
                case measure => simp [intOf]; omega
        · have hjz : ¬ (j : Int) < (ls.length : Int) + 1 := by omega
          obtain rfl : j = ls.length + 1 := by omega
          obtain ⟨adr, cpr, hvr⟩ := own_slk hI.c.cur
          obtain ⟨adl, cpl, hvl⟩ := own_slk hI.c.rows.row
          obtain ⟨adf, cpf, hvf⟩ := own_slk hI.t.fin
          subst hvr
          subst hvl
          subst hvf
          have hlen : l.length = i := by
            have h1 := congrArg List.length HL.out
            rw [List.length_map, List.length_map, HG.out.nlen] at h1
            exact h1
          have hbl : bs.length = i := HG.out.flen
          have t4 := blkc hI.t.tb 4
          have fz4 := fun j => frozen_of_row _ _ j _ _ hI.t.tb
          have HO7 := hidd hI.c.rows.row
          have hsz7 := hI.t.bel.size
          have hrl := rowN_len K Z x (ls.length + 1)
          have hl24 : (l.length + 1) * 24 ≤ 140737488355328 := by rw [hlen]; omega
          have HBl := hidd hbl
          clear hI hNj hlen hbl
          go_upto_region 17 with fail
          go_wp2_with (at_builtin; refine wp_push rfl _ _ 70 104 rfl ir (.slice none 0 0) 24 Tryd.underlying70 hir hr0 hr1 hr2 rfl w.heap.size _ _ _ rfl HO7.out _ rfl rfl hl24 (by decide) hsz7 ?_)
          intro v8 w8 ho8 hbt8 hat8 hnn8
          obtain ⟨g8, c8, rfl⟩ := own_lit ho8 hnn8
          have hRd := HI.out.c.done hbt8 ho8
          have hT8 := HI.out.t.keep hbt8 (fun b hx => by
            obtain ⟨h1, cur, h2⟩ := own_blk HO7.out hx
            refine ⟨h1, fun cs t hh => ?_, fun hB => ?_⟩
            · rw [h2] at hh
              simp only [Option.some.injEq, Obj.cells.injEq] at hh
              rw [← hh.2.1]
              decide
            · rcases set_types HI.out.t.set hB h2 with e | e <;> exact absurd e (by decide))
          have hf8 : w8.heap[fb]? = some (.cells (plV x) 51) := by
            rw [hbt8.block fb (Array.getElem?_eq_some_iff.1 HI.out.f).1 (fun hx => by
              obtain ⟨_, cur, h2⟩ := own_blk HO7.out hx
              exact blk_ne HI.out.f h2 (by decide) rfl)]
            exact HI.out.f
          have t8 := blkc hT8.tb 4
          have fz8 := frozen_of_row _ _ 4 _ _ hT8.tb
          have HT8 := hidd (hT8.set4 (.slice (some ⟨g8, 0, none⟩) (l.length + 1) c8))
          have HRd : Hid (RowsS (w8.setCell ⟨w.heap.size + 3, 4, none⟩ (.slice (some ⟨g8, 0, none⟩) (l.length + 1) c8)) w.heap.size (.slice (some ⟨g8, 0, none⟩) (l.length + 1) c8) (l ++ [(.slice adr (rowN K Z x (ls.length + 1)).length cpr, rowN K Z x (ls.length + 1))])) := hRd.congr fun b cs t ht _ hh => by
            rw [heap_set_other _ _ _ _ _ (blk_ne hh hT8.tb (by rcases ht with e | e <;> (rw [e]; decide)))]; exact hh
          have Hf8 : Hid ((w8.setCell ⟨w.heap.size + 3, 4, none⟩ (.slice (some ⟨g8, 0, none⟩) (l.length + 1) c8)).heap[fb]? = some (.cells (plV x) 51)) := by
            show _ = _
            rw [heap_set_other _ _ _ _ _ (blk_ne hf8 hT8.tb (by decide))]; exact hf8
          clear ho8 hbt8 hat8 hnn8 hRd hT8 hf8 t4 fz4 HO7 HI
          go_upto_region 18 with fail
          clear t8 fz8
          generalize w8.setCell ⟨w.heap.size + 3, 4, none⟩ (.slice (some ⟨g8, 0, none⟩) (l.length + 1) c8) = W8 at *
          refine wp_region_held (S := fun u => u.cell? ⟨w.heap.size, 2, none⟩ = some (finW wv) ∧ u.cell? ⟨fb, 0, none⟩ = some (.int .u64 (x : Int))) (by kernel_rfl) ?_
          have hbd : Below W8.heap.size W8 ({ heap := W8.heap, tape := W8.tape, drawn := W8.drawn + 1, os := W8.os, output := W8.output } : World) := (Below.refl _ _).drew
          generalize ({ heap := W8.heap, tape := W8.tape, drawn := W8.drawn + 1, os := W8.os, output := W8.output } : World) = Wd at *
          have hTd := HT8.out.below hbd
          have hfd := blko Hf8.out hbd
          have hSd : (fun u => u.cell? ⟨w.heap.size, 2, none⟩ = some (finW wv) ∧ u.cell? ⟨fb, 0, none⟩ = some (.int .u64 (x : Int))) Wd := ⟨blkc hTd.wb 2, blkc hfd 0⟩
          try simp only [Act.put, List.getElem_toArray, List.getElem_cons_succ, List.getElem_cons_zero, List.setIfInBounds_toArray, List.set_cons_zero, List.set_cons_succ]
          refine tkX 0 (hS := hSd) (h := ?_)
          try simp only [Act.put, List.getElem_toArray, List.getElem_cons_succ, List.getElem_cons_zero, List.setIfInBounds_toArray, List.set_cons_zero, List.set_cons_succ]
          refine tkX 2 (hS := hSd) (h := ?_)
          try simp only [Act.put, List.getElem_toArray, List.getElem_cons_succ, List.getElem_cons_zero, List.setIfInBounds_toArray, List.set_cons_zero, List.set_cons_succ]
          refine tkX 3 (hS := hSd) (h := ?_)
          try simp only [Act.put, List.getElem_toArray, List.getElem_cons_succ, List.getElem_cons_zero, List.setIfInBounds_toArray, List.set_cons_zero, List.set_cons_succ]
          refine tkX 4 (v := .agg (plV x)) (hS := hSd) (h := ?_)
          try simp only [Act.put, List.getElem_toArray, List.getElem_cons_succ, List.getElem_cons_zero, List.setIfInBounds_toArray, List.set_cons_zero, List.set_cons_succ]
          refine wpAnyH_two 1 5 (by kernel_rfl) ?ga ?gb
          case' ga =>
            refine wpOp_val _ _ rfl (by kernel_rfl) (exec_loadS _ _ _ _ rfl (w.heap.size + 3) 5 bs.length cpf adf (by kernel_rfl) (blkc hTd.tb 5)) ?_
            refine ⟨hSd, ?_⟩
            try simp only [Act.put, List.getElem_toArray, List.getElem_cons_succ, List.getElem_cons_zero, List.setIfInBounds_toArray, List.set_cons_zero, List.set_cons_succ]
            refine wpAnyH_one 5 (by kernel_rfl) ?_
            refine wpOp_call 23 #[wv, .agg (plV x)] rfl (by kernel_rfl) (exec_callB _ _ _ _ _ _ _ rfl _ _ (by kernel_rfl) (by kernel_rfl) (Tryd.call23 _ _)) ?_
            refine (HFI.out x _ hTd.bel HXk.out).mono ?_
            rintro e' we ⟨rfl, hbe⟩
            have hTe := hTd.below hbe
            have hfe := blko hfd hbe
            refine ⟨⟨blkc hTe.wb 2, blkc hfe 0⟩, ?_⟩
            try simp only [Act.put, List.getElem_toArray, List.getElem_cons_succ, List.getElem_cons_zero, List.setIfInBounds_toArray, List.set_cons_zero, List.set_cons_succ]
            refine wpAnyH_one 6 (by kernel_rfl) ?_
            refine wpOp_val _ _ rfl (by kernel_rfl) (exec_build1 _ _ _ _ rfl (K.fin x) (by kernel_rfl)) ?_
            have hbA : Below we.heap.size we (we.alloc (.cells #[.bool (K.fin x)] 4)) := (Below.refl _ _).alloc (Nat.le_refl _) _
            have hTA := hTe.below hbA
            have hfA := blko hfe hbA
            refine ⟨⟨blkc hTA.wb 2, blkc hfA 0⟩, ?_⟩
            try simp only [Act.put, List.getElem_toArray, List.getElem_cons_succ, List.getElem_cons_zero, List.setIfInBounds_toArray, List.set_cons_zero, List.set_cons_succ]
          case' gb =>
            refine wpOp_call 23 #[wv, .agg (plV x)] rfl (by kernel_rfl) (exec_callB _ _ _ _ _ _ _ rfl _ _ (by kernel_rfl) (by kernel_rfl) (Tryd.call23 _ _)) ?_
            refine (HFI.out x _ hTd.bel HXk.out).mono ?_
            rintro e' we ⟨rfl, hbe⟩
            have hTe := hTd.below hbe
            have hfe := blko hfd hbe
            refine ⟨⟨blkc hTe.wb 2, blkc hfe 0⟩, ?_⟩
            try simp only [Act.put, List.getElem_toArray, List.getElem_cons_succ, List.getElem_cons_zero, List.setIfInBounds_toArray, List.set_cons_zero, List.set_cons_succ]
            refine wpAnyH_two 1 6 (by kernel_rfl) ?gc ?gd
          case' gc =>
            refine wpOp_val _ _ rfl (by kernel_rfl) (exec_loadS _ _ _ _ rfl (w.heap.size + 3) 5 bs.length cpf adf (by kernel_rfl) (blkc hTe.tb 5)) ?_
            refine ⟨⟨blkc hTe.wb 2, blkc hfe 0⟩, ?_⟩
            try simp only [Act.put, List.getElem_toArray, List.getElem_cons_succ, List.getElem_cons_zero, List.setIfInBounds_toArray, List.set_cons_zero, List.set_cons_succ]
            refine wpAnyH_one 6 (by kernel_rfl) ?_
            refine wpOp_val _ _ rfl (by kernel_rfl) (exec_build1 _ _ _ _ rfl (K.fin x) (by kernel_rfl)) ?_
            have hbA : Below we.heap.size we (we.alloc (.cells #[.bool (K.fin x)] 4)) := (Below.refl _ _).alloc (Nat.le_refl _) _
            have hTA := hTe.below hbA
            have hfA := blko hfe hbA
            refine ⟨⟨blkc hTA.wb 2, blkc hfA 0⟩, ?_⟩
            try simp only [Act.put, List.getElem_toArray, List.getElem_cons_succ, List.getElem_cons_zero, List.setIfInBounds_toArray, List.set_cons_zero, List.set_cons_succ]
          case' gd =>
            refine wpOp_val _ _ rfl (by kernel_rfl) (exec_build1 _ _ _ _ rfl (K.fin x) (by kernel_rfl)) ?_
            have hbA : Below we.heap.size we (we.alloc (.cells #[.bool (K.fin x)] 4)) := (Below.refl _ _).alloc (Nat.le_refl _) _
            have hTA := hTe.below hbA
            have hfA := blko hfe hbA
            refine ⟨⟨blkc hTA.wb 2, blkc hfA 0⟩, ?_⟩
            try simp only [Act.put, List.getElem_toArray, List.getElem_cons_succ, List.getElem_cons_zero, List.setIfInBounds_toArray, List.set_cons_zero, List.set_cons_succ]
            refine wpAnyH_one 1 (by kernel_rfl) ?_
            refine wpOp_val _ _ rfl (by kernel_rfl) (exec_loadS _ _ _ _ rfl (w.heap.size + 3) 5 bs.length cpf adf (by kernel_rfl) (blkc hTA.tb 5)) ?_
            refine ⟨⟨blkc hTA.wb 2, blkc hfA 0⟩, ?_⟩
            try simp only [Act.put, List.getElem_toArray, List.getElem_cons_succ, List.getElem_cons_zero, List.setIfInBounds_toArray, List.set_cons_zero, List.set_cons_succ]
          all_goals
            refine wpAnyH_one 7 (by kernel_rfl) ?_
            refine wpOp_pushB rfl (by kernel_rfl) rfl _ _ rfl ib hib hb0 hb1 hb2 w.heap.size _ bs.length (bs.map Value.bool) (by kernel_rfl) hTe.fin (K.fin x) we.heap.size rfl (by kernel_rfl) (by rw [HBl.out]; omega) hTe.bel.size ?_
            intro g9 c9 W9 ho9 hbt9 hat9
            have hPF := hTe.pushFin hbt9 ho9
            have hf9 : W9.heap[fb]? = some (.cells (plV x) 51) := by
              rw [hbt9.block fb (Array.getElem?_eq_some_iff.1 hfe).1 (fun hx => by
                obtain ⟨_, cur, h2⟩ := own_blk hTe.fin hx
                exact blk_ne hfe h2 (by decide) rfl)]
              exact hfe
            have hw9 : W9.heap[w.heap.size]? = some (.cells (wkA x0 (folW wv) (finW wv)) 56) := by
              have h1 := hPF.1.wb
              rw [heap_set_other _ _ _ _ _ (by omega)] at h1
              exact h1
            refine ⟨⟨blkc hw9 2, blkc hf9 0⟩, ?_⟩
            try simp only [Act.put, List.getElem_toArray, List.getElem_cons_succ, List.getElem_cons_zero, List.setIfInBounds_toArray, List.set_cons_zero, List.set_cons_succ]
            refine tkX 8 (hS := ⟨blkc hw9 2, blkc hf9 0⟩) (h := ?_)
            try simp only [Act.put, List.getElem_toArray, List.getElem_cons_succ, List.getElem_cons_zero, List.setIfInBounds_toArray, List.set_cons_zero, List.set_cons_succ]
            refine wpAnyH_one 9 (by kernel_rfl) ?_
            refine wpOp_skip _ rfl (by kernel_rfl) (exec_storeS _ _ _ _ _ rfl (w.heap.size + 3) 5 g9 (bs.length + 1) c9 _ (by kernel_rfl) (by kernel_rfl) (blkc hPF.2 5) (frozen_of_row _ _ 5 _ _ hPF.2)) ?_
            have hf10 : (W9.setCell ⟨w.heap.size + 3, 5, none⟩ (.slice (some ⟨g9, 0, none⟩) (bs.length + 1) c9)).heap[fb]? = some (.cells (plV x) 51) := by
              rw [heap_set_other _ _ _ _ _ (blk_ne hf9 hPF.2 (by decide))]; exact hf9
            refine ⟨⟨blkc hPF.1.wb 2, blkc hf10 0⟩, ?_⟩
            try simp only [Act.put, List.getElem_toArray, List.getElem_cons_succ, List.getElem_cons_zero, List.setIfInBounds_toArray, List.set_cons_zero, List.set_cons_succ]
            refine wpAnyH_done (by kernel_rfl) ?_ _
            have HTn := hidd hPF.1
            have HRn : Hid (RowsS (W9.setCell ⟨w.heap.size + 3, 5, none⟩ (.slice (some ⟨g9, 0, none⟩) (bs.length + 1) c9)) w.heap.size (.slice (some ⟨g8, 0, none⟩) (l.length + 1) c8) (l ++ [(.slice adr (rowN K Z x (ls.length + 1)).length cpr, rowN K Z x (ls.length + 1))])) := HRd.out.congr fun b cs t ht _ hh => by
              have h1 : we.heap[b]? = some (.cells cs t) := blko (blko hh hbd) hbe
              have h2 : W9.heap[b]? = some (.cells cs t) := by
                rw [hbt9.block b (Array.getElem?_eq_some_iff.1 h1).1 (fun hx => by
                  obtain ⟨_, cur, h2⟩ := own_blk hTe.fin hx
                  exact blk_ne h1 h2 (by rcases ht with e | e <;> (rw [e]; decide)) rfl)]
                exact h1
              rw [heap_set_other _ _ _ _ _ (blk_ne h2 hPF.2 (by rcases ht with e | e <;> (rw [e]; decide)))]; exact h2
            have HGn : Hid (FgN K (ls.length + 1) x0 (i + 1) (metN K Z x (ls.length + 1)) (nxt ++ [toN K (metN K Z x (ls.length + 1)) x (ls.length + 1)]) (bs ++ [K.fin x])) := by
              have := HG.out.step hlt
              rw [HXg.out] at this
              exact this
            have HLn : Hid ((l ++ [((.slice adr (rowN K Z x (ls.length + 1)).length cpr : Value), rowN K Z x (ls.length + 1))]).map (·.2) = (nxt ++ [toN K (metN K Z x (ls.length + 1)) x (ls.length + 1)]).map runs) := by
              show _ = _
              rw [List.map_append, List.map_append, HL.out]
              rfl
            clear ho9 hbt9 hat9 hPF hf9 hf10 hw9 hTe hfe hbe hTd hfd hSd hbd HRd HT8 Hf8
            go_wp2_with fail
            go_roundw
            case rel => exact ⟨i + 1, _, _, _, _, _, _, _, _, by go_num, HTn.out, HRn.out, HGn.out, HLn.out, HNj.out⟩
            case measure => simp [intOf]; omega
    · have hltz : ¬ (i : Int) < (Z.length : Int) := by omega
      obtain rfl : i = Z.length := by omega
      obtain ⟨adl, cpl, hvl⟩ := own_slk HR.out.row
      obtain ⟨adf, cpf, hvf⟩ := own_slk hT.fin
      subst hvl
      subst hvf
      have m0 := blkc hT.tb 0
      have m1 := blkc hT.tb 1
      have m2 := blkc hT.tb 2
      have m3 := blkc hT.tb 3
      have m4 := blkc hT.tb 4
      have m5 := blkc hT.tb 5
      have m6 := blkc hT.tb 6
      have m7 := blkc hT.tb 7
      have r0 := blkc hT.rb 0
      have r1 := blkc hT.rb 1
      have r2 := blkc hT.rb 2
      have r3 := blkc hT.rb 3
      have r4 := blkc hT.rb 4
      have r5 := blkc hT.rb 5
      have r6 := blkc hT.rb 6
      have r7 := blkc hT.rb 7
      have fzr := fun j => frozen_of_row _ _ j _ _ hT.rb
      have Hfs := hidd (eight_set hT.rb (.slice ad0 n0 c0) (.slice ad1 n1 c1) (.slice ad2 (ls.length + 1) c2) (.slice ad3 n3 c3) (.slice adl l.length cpl) (.slice adf bs.length cpf) (nilS) (nilS))
      have hbf : Below w.heap.size w ((((((((wr.setCell ⟨w.heap.size + 2, 0, none⟩ (.slice ad0 n0 c0)).setCell ⟨w.heap.size + 2, 1, none⟩ (.slice ad1 n1 c1)).setCell ⟨w.heap.size + 2, 2, none⟩ (.slice ad2 (ls.length + 1) c2)).setCell ⟨w.heap.size + 2, 3, none⟩ (.slice ad3 n3 c3)).setCell ⟨w.heap.size + 2, 4, none⟩ (.slice adl l.length cpl)).setCell ⟨w.heap.size + 2, 5, none⟩ (.slice adf bs.length cpf)).setCell ⟨w.heap.size + 2, 6, none⟩ (nilS)).setCell ⟨w.heap.size + 2, 7, none⟩ (nilS)) := ((((((((hT.bel.setCell (p := ⟨w.heap.size + 2, 0, none⟩) (by show _ ≤ _; simp) (.slice ad0 n0 c0)).setCell (p := ⟨w.heap.size + 2, 1, none⟩) (by show _ ≤ _; simp) (.slice ad1 n1 c1)).setCell (p := ⟨w.heap.size + 2, 2, none⟩) (by show _ ≤ _; simp) (.slice ad2 (ls.length + 1) c2)).setCell (p := ⟨w.heap.size + 2, 3, none⟩) (by show _ ≤ _; simp) (.slice ad3 n3 c3)).setCell (p := ⟨w.heap.size + 2, 4, none⟩) (by show _ ≤ _; simp) (.slice adl l.length cpl)).setCell (p := ⟨w.heap.size + 2, 5, none⟩) (by show _ ≤ _; simp) (.slice adf bs.length cpf)).setCell (p := ⟨w.heap.size + 2, 6, none⟩) (by show _ ≤ _; simp) (nilS)).setCell (p := ⟨w.heap.size + 2, 7, none⟩) (by show _ ≤ _; simp) (nilS))
      have hoth : ∀ b, b ≠ w.heap.size + 2 → ((((((((wr.setCell ⟨w.heap.size + 2, 0, none⟩ (.slice ad0 n0 c0)).setCell ⟨w.heap.size + 2, 1, none⟩ (.slice ad1 n1 c1)).setCell ⟨w.heap.size + 2, 2, none⟩ (.slice ad2 (ls.length + 1) c2)).setCell ⟨w.heap.size + 2, 3, none⟩ (.slice ad3 n3 c3)).setCell ⟨w.heap.size + 2, 4, none⟩ (.slice adl l.length cpl)).setCell ⟨w.heap.size + 2, 5, none⟩ (.slice adf bs.length cpf)).setCell ⟨w.heap.size + 2, 6, none⟩ (nilS)).setCell ⟨w.heap.size + 2, 7, none⟩ (nilS)).heap[b]? = wr.heap[b]? := fun b hb' => by
        rw [heap_set_other _ _ _ _ _ hb', heap_set_other _ _ _ _ _ hb', heap_set_other _ _ _ _ _ hb', heap_set_other _ _ _ _ _ hb', heap_set_other _ _ _ _ _ hb', heap_set_other _ _ _ _ _ hb', heap_set_other _ _ _ _ _ hb', heap_set_other _ _ _ _ _ hb']
      have HFin : Hid (TbPost K ls x0 ok (.slice ad0 n0 c0) (.slice ad1 n1 c1) (.slice ad2 (ls.length + 1) c2) (.slice ad3 n3 c3) w (.returned (.tuple #[.agg #[.slice ad0 n0 c0, .slice ad1 n1 c1, .slice ad2 (ls.length + 1) c2, .slice ad3 n3 c3, .slice adl l.length cpl, .slice adf bs.length cpf, nilS, nilS], .int .i64 0])) ((((((((wr.setCell ⟨w.heap.size + 2, 0, none⟩ (.slice ad0 n0 c0)).setCell ⟨w.heap.size + 2, 1, none⟩ (.slice ad1 n1 c1)).setCell ⟨w.heap.size + 2, 2, none⟩ (.slice ad2 (ls.length + 1) c2)).setCell ⟨w.heap.size + 2, 3, none⟩ (.slice ad3 n3 c3)).setCell ⟨w.heap.size + 2, 4, none⟩ (.slice adl l.length cpl)).setCell ⟨w.heap.size + 2, 5, none⟩ (.slice adf bs.length cpf)).setCell ⟨w.heap.size + 2, 6, none⟩ (nilS)).setCell ⟨w.heap.size + 2, 7, none⟩ (nilS))) := by
        refine Or.inl ⟨_, _, Z, nxt, bs, l, rfl, ?_, HL.out, HR.out.congr fun b cs t ht _ hh => ?_, own_congr hT.fin (fun b hk => ?_), hbf, hZ⟩
        · exact HG.out
        · rw [hoth b (blk_ne hh hT.rb (by rcases ht with e | e <;> (rw [e]; decide)))]; exact hh
        · obtain ⟨_, cur, h2⟩ := own_blk hT.fin hk
          exact hoth b (blk_ne h2 hT.rb (by decide))
      clear hoth hbf hT hG HT HR
      go_wp2_with fail
      have q0 := blkc Hfs.out 0
      have q1 := blkc Hfs.out 1
      have q2 := blkc Hfs.out 2
      have q3 := blkc Hfs.out 3
      have q4 := blkc Hfs.out 4
      have q5 := blkc Hfs.out 5
      have q6 := blkc Hfs.out 6
      have q7 := blkc Hfs.out 7
      clear Hfs fzr m0 r0 m1 r1 m2 r2 m3 r3 m4 r4 m5 r5 m6 r6 m7 r7
      generalize ((((((((wr.setCell ⟨w.heap.size + 2, 0, none⟩ (.slice ad0 n0 c0)).setCell ⟨w.heap.size + 2, 1, none⟩ (.slice ad1 n1 c1)).setCell ⟨w.heap.size + 2, 2, none⟩ (.slice ad2 (ls.length + 1) c2)).setCell ⟨w.heap.size + 2, 3, none⟩ (.slice ad3 n3 c3)).setCell ⟨w.heap.size + 2, 4, none⟩ (.slice adl l.length cpl)).setCell ⟨w.heap.size + 2, 5, none⟩ (.slice adf bs.length cpf)).setCell ⟨w.heap.size + 2, 6, none⟩ (nilS)).setCell ⟨w.heap.size + 2, 7, none⟩ (nilS)) = Wf at *
      refine jmp_retW ?_
      refine bodyPost_ret (v := .tuple #[.agg #[.slice ad0 n0 c0, .slice ad1 n1 c1, .slice ad2 (ls.length + 1) c2, .slice ad3 n3 c3, .slice adl l.length cpl, .slice adf bs.length cpf, nilS, nilS], .int .i64 0]) (by simp [results, Tryd.results35, go_sem, *]) rfl ?_
      exact HFin.out
end Go.Proofs.YtmnfioghhdgciaaDoor
