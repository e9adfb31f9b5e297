import Derived.Test.YtpdiaddgialanaaGreatDoorFwU
namespace Go.Proofs.YtpdiaddgialanaaGreatDoor
open Go Go.RowKit
set_option linter.unusedVariables false
set_option linter.unusedSimpArgs false
set_option maxRecDepth 100000

/-! The query of a twig of two terms. -/
/-- Three nodes: the whole, and two terms. -/
def threeN (R O m : Int) (ks : Value) (r o : Int) (f tx : ByteArray) (r' o' : Int) (f' tx' : ByteArray) : List Value := (ndL 8 R O m ⟨#[]⟩ ⟨#[]⟩ ks ++ ndL 1 r o 0 f tx (.slice none 0 0)) ++ ndL 1 r' o' 0 f' tx' (.slice none 0 0)
theorem own_lowerN {w : World} {base base' e size n : Nat} {v : Value} {xs : List Value} (h : w.ownsRow base e size v n xs) (hb : base' ≤ base) : w.ownsRow base' e size v n xs := by
  refine ⟨h.1, ?_⟩
  rcases h.2 with h1 | ⟨g, cap, cur, h1, hg, hr⟩
  · exact Or.inl h1
  · exact Or.inr ⟨g, cap, cur, h1, Nat.le_trans hb hg, hr⟩
set_option maxHeartbeats 8000000 in
theorem tquery_two (R O m : Int) (g cp : Nat) (r o : Int) (f tx : ByteArray) (r' o' : Int) (f' tx' : ByteArray) (w : World) (h : TwoAt w g r o f tx r' o' f' tx') (hg : g < w.heap.size) :
    Calls Tryz.prog 28 #[.agg #[.int .i64 R, .int .i64 O, .iface 106 (.agg #[.slice (some ⟨g, 0, none⟩) 2 cp, .int .i64 m])]] w fun e w' => ∃ gq cq ks, e = .returned (.tuple #[.agg #[.slice (some ⟨gq, 0, none⟩) 3 cq], .int .i64 0]) ∧ w'.ownsRow w.heap.size 45 10 (.slice (some ⟨gq, 0, none⟩) 3 cq) 3 (threeN R O m ks r o f tx r' o' f' tx') ∧ Below w.heap.size w w' := by
  have H := hidd h
  clear h
  go_enter Tryz.func28, Tryz.ntmps28
  go_upto_region 1 with fail
  have hbA : Below w.heap.size w ((w.alloc (.cells #[.int .i64 R, .int .i64 O, .iface 106 (.agg #[.slice (some ⟨g, 0, none⟩) 2 cp, .int .i64 m])] 71)).alloc (.cells #[.slice none 0 0] 40)) := ((Below.refl _ _).alloc (Nat.le_refl _) _).alloc (by simp) _
  have hX1 : ((w.alloc (.cells #[.int .i64 R, .int .i64 O, .iface 106 (.agg #[.slice (some ⟨g, 0, none⟩) 2 cp, .int .i64 m])] 71)).alloc (.cells #[.slice none 0 0] 40)).heap[w.heap.size]? = some (.cells #[.int .i64 R, .int .i64 O, .iface 106 (.agg #[.slice (some ⟨g, 0, none⟩) 2 cp, .int .i64 m])] 71) := (Below.heap_alloc _ _ _ (by simp)).trans (heap_alloc_new w _)
  have hX2 : ((w.alloc (.cells #[.int .i64 R, .int .i64 O, .iface 106 (.agg #[.slice (some ⟨g, 0, none⟩) 2 cp, .int .i64 m])] 71)).alloc (.cells #[.slice none 0 0] 40)).heap[w.heap.size + 1]? = some (.cells #[.slice none 0 0] 40) := by
    have := heap_alloc_new (w.alloc (.cells #[.int .i64 R, .int .i64 O, .iface 106 (.agg #[.slice (some ⟨g, 0, none⟩) 2 cp, .int .i64 m])] 71)) (.cells #[.slice none 0 0] 40)
    simpa using this
  have HB1 := hidd hbA
  have HX1 := hidd hX1
  have HX2 := hidd hX2
  clear hbA hX1 hX2
  obtain ⟨g1, hg1⟩ : ∃ g, w.heap.size = g := ⟨_, rfl⟩
  obtain ⟨g2, hg2⟩ : ∃ g, w.heap.size + 1 = g := ⟨_, rfl⟩
  have HG : Hid (w.heap.size ≤ g1 ∧ w.heap.size ≤ g2 ∧ g1 ≠ g2) := ⟨by omega, by omega, by omega⟩
  rw [hg2] at HX2
  simp only [hg2]
  rw [hg1] at HX1
  simp only [hg1]
  clear hg1 hg2
  generalize (w.alloc (.cells #[.int .i64 R, .int .i64 O, .iface 106 (.agg #[.slice (some ⟨g, 0, none⟩) 2 cp, .int .i64 m])] 71)).alloc (.cells #[.slice none 0 0] 40) = w1 at *
  have z0 := blkc HX1.out 0
  have z1 := blkc HX1.out 1
  have z2 := blkc HX1.out 2
  simp only [List.getElem?_toArray, List.getElem?_cons_zero, List.getElem?_cons_succ] at z0 z1 z2
  go_wp2_with fail
  refine (depth_two R O m g cp r o f tx r' o' f' tx' _ (H.out.below HB1.out)).mono ?_
  rintro e w2 ⟨rfl, hb2⟩
  have HB2 := hidd (HB1.out.trans (hb2.mono HB1.out.size))
  have HY1 := hidd (blko HX1.out hb2)
  have HY2 := hidd (blko HX2.out hb2)
  clear z0 z1 z2 hb2 HB1 HX1 HX2
  have z0 := blkc HY1.out 0
  have z1 := blkc HY1.out 1
  have z2 := blkc HY1.out 2
  simp only [List.getElem?_toArray, List.getElem?_cons_zero, List.getElem?_cons_succ] at z0 z1 z2
  go_wp2_with fail
  refine (nodes_two R O m g cp r o f tx r' o' f' tx' _ (H.out.below HB2.out) (Nat.lt_of_lt_of_le hg HB2.out.size)).mono ?_
  rintro e w3 ⟨v, ks, rfl, ho, hb3⟩
  have HB3 := hidd (HB2.out.trans (hb3.mono HB2.out.size))
  have HZ2 := hidd (blko HY2.out hb3)
  have HO3 := hidd (own_lowerN ho HB2.out.size)
  have HOg : Hid (∀ x, v.ownBlock = some x → g2 ≠ x) := fun x hx => by have := (own_blk ho hx).1; have := (Array.getElem?_eq_some_iff.1 HY2.out).1; omega
  clear z0 z1 z2 hb3 HB2 HY1 HY2 ho
  obtain ⟨gq, cq, hv, _, _⟩ := own_caseN HO3.out (by omega)
  subst hv
  have y0 := blkc HZ2.out 0
  have y1 := blkf HZ2.out 0
  simp only [List.getElem?_toArray, List.getElem?_cons_zero, List.getElem?_cons_succ] at y0
  go_wp2
  have hfin := hidd (blk_setk HZ2.out 0 (.slice (some ⟨gq, 0, none⟩) 3 cq))
  have hbf : Hid (Below w.heap.size w (w3.setCell ⟨g2, 0, none⟩ (.slice (some ⟨gq, 0, none⟩) 3 cq))) := HB3.out.setCell (p := ⟨g2, 0, none⟩) HG.out.2.1 _
  have hof := hidd (own_setO (b := g2) (j := 0) (u := .slice (some ⟨gq, 0, none⟩) 3 cq) HO3.out (fun e => HOg.out _ rfl (by injection e with e; exact e.symm)))
  clear y0 y1 HZ2 HB3 HO3 HOg
  generalize w3.setCell ⟨g2, 0, none⟩ (.slice (some ⟨gq, 0, none⟩) 3 cq) = wf at *
  refine bodyPost_ret (v := .tuple #[.agg #[.slice (some ⟨gq, 0, none⟩) 3 cq], .int .i64 0]) ?_ rfl ⟨gq, cq, ks, rfl, hof.out, hbf.out⟩
  rw [results_cell_tmp rfl]
  have q0 := blkc hfin.out 0
  simp at q0
  have hld : (loadVar 40 ⟨g2, 0, none⟩).run Tryz.prog wf = .ok (.agg #[.slice (some ⟨gq, 0, none⟩) 3 cq]) wf := by
    go_simp
  simp [asAddr, Result.andThen, hld]
end Go.Proofs.YtpdiaddgialanaaGreatDoor
