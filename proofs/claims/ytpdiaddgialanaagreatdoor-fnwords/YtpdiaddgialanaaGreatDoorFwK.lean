import Derived.Test.YtpdiaddgialanaaGreatDoorFwJ
namespace Go.Proofs.YtpdiaddgialanaaGreatDoor
open Go Go.RowKit
set_option linter.unusedVariables false
set_option linter.unusedSimpArgs false
set_option maxRecDepth 100000

/-! A whole query of two twigs. -/
theorem own3_drewN {w : World} {base e n : Nat} {v : Value} {xs : List Value} (h : w.ownsRow base e 3 v n xs) (m : Nat) : (w.drewN m).ownsRow base e 3 v n xs := own_congr h fun _ _ => rfl
theorem own_lower {w : World} {base base' e size n : Nat} {v : Value} {xs : List Value} (h : w.ownsRow base e size v n xs) (hb : base' ≤ base) : w.ownsRow base' e size v n xs := by
  refine ⟨h.1, ?_⟩
  rcases h.2 with h1 | ⟨g, cap, cur, h1, hg, hr⟩
  · exact Or.inl h1
  · exact Or.inr ⟨g, cap, cur, h1, Nat.le_trans hb hg, hr⟩
theorem set3_other {V : World} {g : Nat} (y0 y1 y2 : Value) {x : Nat} (hx : x ≠ g) : (((V.setCell ⟨g, 0, none⟩ y0).setCell ⟨g, 1, none⟩ y1).setCell ⟨g, 2, none⟩ y2).heap[x]? = V.heap[x]? := by
  rw [heap_set_other _ _ _ _ _ hx, heap_set_other _ _ _ _ _ hx, heap_set_other _ _ _ _ _ hx]
theorem set3_at {V : World} {g : Nat} {x0 x1 x2 : Value} {t : TypeId} (h : V.heap[g]? = some (.cells #[x0, x1, x2] t)) (y0 y1 y2 : Value) : (((V.setCell ⟨g, 0, none⟩ y0).setCell ⟨g, 1, none⟩ y1).setCell ⟨g, 2, none⟩ y2).heap[g]? = some (.cells #[y0, y1, y2] t) := by
  have h1 := blk_setk (blk_setk (blk_setk h 0 y0) 1 y1) 2 y2
  simpa using h1
set_option maxHeartbeats 8000000 in
theorem query_two (W : World) (b : Nat) (T : ByteArray) (p : Nat) (xs : List Value) (h : PsAt W b T p) (hsz : T.size ≤ 65536)
    (t : ∀ V, W.grownBy V (some b) → PsAt V b T p → Calls Tryz.prog 54 #[.pointer (some ⟨b, 0, none⟩)] V fun e W' => ∃ v, e = .returned (.tuple #[v, .nilIface]) ∧ PsAt W' b T T.size ∧ V.grownBy W' (some b) ∧ W'.ownsRow V.heap.size 71 3 v 2 xs) :
    Calls Tryz.prog 26 #[.pointer (some ⟨b, 0, none⟩)] W fun e W' => ∃ v, e = .returned (.tuple #[.agg #[.int .i64 0, .int .i64 1, .iface 106 (.agg #[v, .int .i64 0])], .nilIface]) ∧ PsAt W' b T T.size ∧ W.grownBy W' (some b) ∧ W'.ownsRow W.heap.size 71 3 v 2 xs := by
  have TT := hidd t
  have H := hidd h
  have hlt := h.lt
  clear t h
  go_enter Tryz.func26, Tryz.ntmps26
  go_upto_region 1 with fail
  have hb0 : Below W.heap.size W (W.alloc (.cells #[.int .i64 0, .int .i64 0, .nilIface] 71)) := (Below.refl _ _).alloc (Nat.le_refl _) _
  have HN0 := hidd (heap_alloc_new W (.cells #[.int .i64 0, .int .i64 0, .nilIface] 71))
  have H1 := hidd (H.out.below hb0)
  have HG1 := hidd (grown_belowP hb0 (some b))
  have Hsz : Hid (W.heap.size < (W.alloc (.cells #[.int .i64 0, .int .i64 0, .nilIface] 71)).heap.size) := hidd (by simp)
  clear H hb0
  generalize W.alloc (.cells #[.int .i64 0, .int .i64 0, .nilIface] 71) = W1 at *
  go_wp2_with fail
  refine (TT.out _ HG1.out H1.out).mono ?_
  rintro e W2 ⟨v, rfl, h2, hg2, ho2⟩
  have H2 := hidd h2
  have HG2 := hidd (grown_trans HG1.out hg2)
  have HN2 := hidd ((hg2.block W.heap.size Hsz.out (fun e => by injection e with e; omega)).trans HN0.out)
  have HO2 := hidd ho2
  clear h2 hg2 H1 HG1 HN0 ho2
  obtain ⟨g, cp, rfl, hbg, hgl⟩ : ∃ g cap, v = .slice (some ⟨g, 0, none⟩) 2 cap ∧ W1.heap.size ≤ g ∧ g < W2.heap.size := by
    rcases own_cases3 HO2.out with ⟨_, h0⟩ | h
    · exact absurd h0 (by omega)
    · exact h
  obtain ⟨c0, c1, f1⟩ := H2.out.cell
  go_wp2_with fail
  go_quiet (fail)
  have H3 := hidd (show PsAt (W2.drewN nq) b T T.size from H2.out)
  have HG3 := hidd (grown_trans HG2.out (grown_drewP W2 nq (some b)))
  have HN3 := hidd (show (W2.drewN nq).heap[W.heap.size]? = _ from HN2.out)
  have HO3 := hidd (own3_drewN HO2.out nq)
  clear H2 HG2 HN2 HO2 c0 c1 f1 hgl
  generalize W2.drewN nq = W3 at *
  have z0 := blkc HN3.out 0
  have z1 := blkc HN3.out 1
  have z2 := blkc HN3.out 2
  simp only [List.getElem?_toArray, List.getElem?_cons_zero, List.getElem?_cons_succ] at z0 z1 z2
  have y0 := blkf HN3.out 0
  have y1 := blkf HN3.out 1
  have y2 := blkf HN3.out 2
  go_wp2
  have hX := set3_at HN3.out (.int .i64 0) (.int .i64 1) (.iface 106 (.agg #[.slice (some ⟨g, 0, none⟩) 2 cp, .int .i64 0]))
  have hO : ∀ x, x ≠ W.heap.size → _ := fun x hx => set3_other (V := W3) (.int .i64 0) (.int .i64 1) (.iface 106 (.agg #[.slice (some ⟨g, 0, none⟩) 2 cp, .int .i64 0])) hx
  have hz : (((W3.setCell ⟨W.heap.size, 0, none⟩ (.int .i64 0)).setCell ⟨W.heap.size, 1, none⟩ (.int .i64 1)).setCell ⟨W.heap.size, 2, none⟩ (.iface 106 (.agg #[.slice (some ⟨g, 0, none⟩) 2 cp, .int .i64 0]))).heap.size = W3.heap.size := by simp
  have hP : PsAt (((W3.setCell ⟨W.heap.size, 0, none⟩ (.int .i64 0)).setCell ⟨W.heap.size, 1, none⟩ (.int .i64 1)).setCell ⟨W.heap.size, 2, none⟩ (.iface 106 (.agg #[.slice (some ⟨g, 0, none⟩) 2 cp, .int .i64 0]))) b T T.size := (hO b (by omega)).trans H3.out
  have hG : W.grownBy (((W3.setCell ⟨W.heap.size, 0, none⟩ (.int .i64 0)).setCell ⟨W.heap.size, 1, none⟩ (.int .i64 1)).setCell ⟨W.heap.size, 2, none⟩ (.iface 106 (.agg #[.slice (some ⟨g, 0, none⟩) 2 cp, .int .i64 0]))) (some b) := ⟨HG3.out.os, HG3.out.tape, HG3.out.output, by rw [hz]; exact HG3.out.size, fun x hx hne => (hO x (by omega)).trans (HG3.out.block x hx hne)⟩
  have hW : (((W3.setCell ⟨W.heap.size, 0, none⟩ (.int .i64 0)).setCell ⟨W.heap.size, 1, none⟩ (.int .i64 1)).setCell ⟨W.heap.size, 2, none⟩ (.iface 106 (.agg #[.slice (some ⟨g, 0, none⟩) 2 cp, .int .i64 0]))).ownsRow W.heap.size 71 3 (.slice (some ⟨g, 0, none⟩) 2 cp) 2 xs := own_lower (own_congr HO3.out (fun x hx => hO x (by have := (own_blk HO3.out hx).1; have := Hsz.out; omega))) (Nat.le_of_lt Hsz.out)
  clear hO hz z0 z1 z2 y0 y1 y2
  generalize ((W3.setCell ⟨W.heap.size, 0, none⟩ (.int .i64 0)).setCell ⟨W.heap.size, 1, none⟩ (.int .i64 1)).setCell ⟨W.heap.size, 2, none⟩ (.iface 106 (.agg #[.slice (some ⟨g, 0, none⟩) 2 cp, .int .i64 0])) = WC at *
  refine bodyPost_ret (v := .tuple #[.agg #[.int .i64 0, .int .i64 1, .iface 106 (.agg #[.slice (some ⟨g, 0, none⟩) 2 cp, .int .i64 0])], .nilIface]) ?_ rfl ⟨_, rfl, hP, hG, hW⟩
  rw [results_cell_tmp rfl]
  have z0 := blkc hX 0
  have z1 := blkc hX 1
  have z2 := blkc hX 2
  simp only [List.getElem?_toArray, List.getElem?_cons_zero, List.getElem?_cons_succ] at z0 z1 z2
  have hld : (loadVar 71 ⟨W.heap.size, 0, none⟩).run Tryz.prog WC = .ok (.agg #[.int .i64 0, .int .i64 1, .iface 106 (.agg #[.slice (some ⟨g, 0, none⟩) 2 cp, .int .i64 0])]) WC := by
    go_simp
  simp [asAddr, Result.andThen, hld]
end Go.Proofs.YtpdiaddgialanaaGreatDoor
