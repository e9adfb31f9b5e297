import Derived.Test.YtpdiaddgialanaaGreatDoorFwT
import Derived.Laws.OwnMore
namespace Go.Proofs.YtpdiaddgialanaaGreatDoor
open Go Go.RowKit
set_option linter.unusedVariables false
set_option linter.unusedSimpArgs false
set_option maxRecDepth 100000

/-! The nodes of a twig of two terms. -/
theorem Tryz.infoIntN : (Tryz.prog.info? 3).map (fun i => (i.zero, i.size, i.bytes)) = some (some (.int .i64 0), 1, 8) := by kernel_rfl
theorem own_apartN {w : World} {base base' e e' sz sz' n n' : Nat} {v v' : Value} {xs xs' : List Value} (h : w.ownsRow base e sz v n xs) (h' : w.ownsRow base' e' sz' v' n' xs') (hne : e ≠ e') {x : Nat} (hx : v.ownBlock = some x) : v'.ownBlock ≠ some x := fun e1 => by
  obtain ⟨_, c1, h1⟩ := own_blk h hx
  obtain ⟨_, c2, h2⟩ := own_blk h' e1
  rw [h1] at h2
  injection h2 with h2
  injection h2 with _ h2
  exact hne h2
theorem own_grown {w w' : World} {base e sz n : Nat} {v : Value} {xs : List Value} {row : Option Nat} (h : w.ownsRow base e sz v n xs) (hg : w.grownBy w' row) (hne : ∀ x, v.ownBlock = some x → row ≠ some x) : w'.ownsRow base e sz v n xs :=
  own_congr h fun x hx => hg.block x (own_ltN h hx) fun e => hne x hx e.symm
theorem below_grown {B e sz n : Nat} {a w w' : World} {v : Value} {xs : List Value} (h : Below B a w) (hB : B ≤ w.heap.size) (ho : w.ownsRow B e sz v n xs) (hg : w.grownBy w' v.ownBlock) : Below B a w' := h.grown hg hB fun k hk => (own_blk ho hk).1
theorem own_setO {w : World} {base e sz n b j : Nat} {v u : Value} {xs : List Value} (h : w.ownsRow base e sz v n xs) (hne : v.ownBlock ≠ some b) : (w.setCell ⟨b, j, none⟩ u).ownsRow base e sz v n xs :=
  own_congr h fun x hx => heap_set_other w b j u x fun e => hne (by rw [hx, e])
set_option maxHeartbeats 8000000 in
theorem nodes_two (R O m : Int) (g cp : Nat) (r o : Int) (f tx : ByteArray) (r' o' : Int) (f' tx' : ByteArray) (w : World) (h : TwoAt w g r o f tx r' o' f' tx') (hg : g < w.heap.size) :
    Calls Tryz.prog 58 #[.agg #[.int .i64 R, .int .i64 O, .iface 106 (.agg #[.slice (some ⟨g, 0, none⟩) 2 cp, .int .i64 m])], .slice none 0 0] w fun e w' => ∃ v ks, e = .returned v ∧ w'.ownsRow w.heap.size 45 10 v 3 ((ndL 8 R O m ⟨#[]⟩ ⟨#[]⟩ ks ++ ndL 1 r o 0 f tx (.slice none 0 0)) ++ ndL 1 r' o' 0 f' tx' (.slice none 0 0)) ∧ Below w.heap.size w w' := by
  obtain ⟨i0, hi0, hz0, hz1, hz2⟩ := info_parts Tryz.infoNod
  obtain ⟨i1, hi1, hy0, hy1, hy2⟩ := info_parts Tryz.infoIntN
  have H := hidd h
  clear h
  go_enter Tryz.func58, Tryz.ntmps58
  go_wp2_with fail
  have hbA : Below w.heap.size w (w.alloc (.cells #[.int .i64 R, .int .i64 O, .iface 106 (.agg #[.slice (some ⟨g, 0, none⟩) 2 cp, .int .i64 m])] 71)) := (Below.refl _ _).alloc (Nat.le_refl _) _
  have hX := heap_alloc_new w (.cells #[.int .i64 R, .int .i64 O, .iface 106 (.agg #[.slice (some ⟨g, 0, none⟩) 2 cp, .int .i64 m])] 71)
  refine (twigNode_bool R O (some ⟨g, 0, none⟩) 2 cp m _).mono ?_
  rintro e w1 ⟨rfl, hb1⟩
  have HB1 := hidd (hbA.trans (hb1.mono hbA.size))
  have HX1 := hidd (blko hX hb1)
  clear hbA hX hb1
  obtain ⟨gb, hgb⟩ : ∃ g, w.heap.size = g := ⟨_, rfl⟩
  rw [hgb] at HX1
  simp only [hgb]
  clear hgb
  go_wp2_with (at_builtin; refine wpList_append_own _ rfl _ _ 38 rfl w.heap.size 45 i0 (.agg #[.int .i64 0, .int .i64 0, .int .i64 0, .int .i64 0, .int .i64 0, .int .i64 0, .int .i64 0, .string ⟨#[]⟩, .string ⟨#[]⟩, .slice none 0 0]) 10 112 Tryz.underlying38 hi0 hz0 hz1 hz2 rfl (by decide) _ 0 [] rfl (World.ownsRow_nil _ _ _ _) ⟨w1.heap.size, 0, none⟩ 1 1 (ndL 8 R O m ⟨#[]⟩ ⟨#[]⟩ (.slice none 0 0)) rfl rfl ?c1 ?c2 ?c3 ?c4 ?c5 ?_)
  case c1 => exact new_cellsN w1 _ _
  case c2 => intro u hu; simp only [ndL, List.mem_cons, List.not_mem_nil, or_false] at hu; rcases hu with rfl | rfl | rfl | rfl | rfl | rfl | rfl | rfl | rfl | rfl <;> rfl
  case c3 => unfold maxLen; omega
  case c4 => omega
  case c5 => have := HB1.out.size; simp; omega
  intro v2 w2 hown2 hgrow2 hne2
  have hbB : Below w1.heap.size w1 (w1.alloc (.cells #[.int .i64 8, .int .i64 R, .int .i64 O, .int .i64 0, .int .i64 m, .int .i64 0, .int .i64 0, .string ⟨#[]⟩, .string ⟨#[]⟩, .slice none 0 0] 45)) := (Below.refl _ _).alloc (Nat.le_refl _) _
  have HB2 := hidd ((HB1.out.trans (hbB.mono HB1.out.size)).grown hgrow2 (Nat.le_trans HB1.out.size hbB.size) (fun k hk => by cases hk))
  have HX2 := hidd ((hgrow2.block gb (by have := (Array.getElem?_eq_some_iff.1 HX1.out).1; have := hbB.size; omega) (fun e => by cases e)).trans (blko HX1.out hbB))
  have HO2 := hidd hown2
  clear hown2 hgrow2 hne2 hbB HX1 HB1
  have z0 := blkc HX2.out 0
  have z1 := blkc HX2.out 1
  have z2 := blkc HX2.out 2
  simp only [List.getElem?_toArray, List.getElem?_cons_zero, List.getElem?_cons_succ] at z0 z1 z2
  obtain ⟨g2, c2, hv2, _, _⟩ := own_caseN HO2.out (by omega)
  subst hv2
  go_wp2_with fail
  refine (kids_bool R O m (some ⟨g, 0, none⟩) 2 cp _).mono ?_
  rintro e w3 ⟨rfl, hb3⟩
  have HB3 := hidd (HB2.out.trans (hb3.mono HB2.out.size))
  have HO3 := hidd (own_belowN HO2.out hb3)
  clear z0 z1 z2 hb3 HX2 HB2 HO2
  go_wp2_with fail
  refine wp_loop_rounds 3 ?_
  rw [rounds_succ]
  obtain ⟨⟨a0, a1, a2⟩, a3, a4, a5⟩ := H.out.below HB3.out
  have k9 : w3.cell? ⟨g2, 9, none⟩ = some (.slice none 0 0) := HO3.out.cellAt 9 (by omega)
  go_upto_region 6 with fail
  have hbK : Below w3.heap.size w3 (w3.alloc (.cells #[.int .i64 r, .int .i64 o, .iface 192 (.agg #[.string f, .string tx])] 71)) := (Below.refl _ _).alloc (Nat.le_refl _) _
  have HXK := hidd (heap_alloc_new w3 (.cells #[.int .i64 r, .int .i64 o, .iface 192 (.agg #[.string f, .string tx])] 71))
  have HB3a := hidd (HB3.out.trans (hbK.mono HB3.out.size))
  have HO3a := hidd (own_belowN HO3.out hbK)
  have k9a := (hbK.cell (p := ⟨g2, 9, none⟩) (own_ltN HO3.out rfl)).trans k9
  clear a0 a1 a2 a3 a4 a5 k9 HB3 HO3 hbK
  obtain ⟨gk, hgk⟩ : ∃ g, w3.heap.size = g := ⟨_, rfl⟩
  rw [hgk] at HXK
  simp only [hgk]
  have HGk : Hid (w3.heap.size = gk) := hgk
  clear hgk
  generalize w3.alloc (.cells #[.int .i64 r, .int .i64 o, .iface 192 (.agg #[.string f, .string tx])] 71) = w3a at *
  have hws := HB3a.out.size
  have fz := HO3a.out.frozenAt 9
  go_wp2_with (at_builtin; refine wpList_append_own _ rfl _ _ 23 rfl w.heap.size 3 i1 (.int .i64 0) 1 8 Tryz.underlying23 hi1 hy0 hy1 hy2 rfl (by decide) _ 0 [] rfl (World.ownsRow_nil _ _ _ _) ⟨w3a.heap.size, 0, none⟩ 1 1 [.int .i64 1] rfl rfl ?b11 ?b12 ?b13 ?b14 ?b15 ?_)
  case b11 => exact new_cellsN w3a [.int .i64 1] _
  case b12 => intro u hu; simp only [List.mem_cons, List.not_mem_nil, or_false] at hu; subst hu; rfl
  case b13 => unfold maxLen; omega
  case b14 => omega
  case b15 => simp; omega
  intro vk1 w3b hown hgrow hne
  have hbB : Below w3a.heap.size w3a (w3a.alloc (.cells #[.int .i64 1] 3)) := (Below.refl _ _).alloc (Nat.le_refl _) _
  have HB3b := hidd ((HB3a.out.trans (hbB.mono HB3a.out.size)).grown hgrow (Nat.le_trans hws hbB.size) (fun k hk => by cases hk))
  have HO3b := hidd (own_grown (own_belowN HO3a.out hbB) hgrow (fun x _ e => by cases e))
  have HXb := hidd ((hgrow.block gk (by have := (Array.getElem?_eq_some_iff.1 HXK.out).1; have := hbB.size; omega) (fun e => by cases e)).trans (blko HXK.out hbB))
  have HKb := hidd hown
  obtain ⟨q1, d1, hvk, _, _⟩ := own_caseN HKb.out (by omega)
  subst hvk
  clear hown hgrow hne hbB HXK HB3a HO3a k9a fz
  have k9b : w3b.cell? ⟨g2, 9, none⟩ = some (.slice none 0 0) := HO3b.out.cellAt 9 (by omega)
  have fzb := HO3b.out.frozenAt 9
  have hne9 : gk ≠ g2 := fun e => by
    obtain ⟨_, cur, hc⟩ := own_blk HO3b.out (b := g2) rfl
    rw [← e, HXb.out] at hc
    injection hc with hc
    injection hc with _ hc
    exact absurd hc (by decide)
  have HXc : Hid ((w3b.setCell ⟨g2, 9, none⟩ (.slice (some ⟨q1, 0, none⟩) 1 d1)).heap[gk]? = _) := (heap_set_other _ _ _ _ _ hne9).trans HXb.out
  have HOc := hidd ((HO3b.out.stored 9 (.slice (some ⟨q1, 0, none⟩) 1 d1)).1)
  have HKc := hidd (own_setO (b := g2) (j := 9) (u := .slice (some ⟨q1, 0, none⟩) 1 d1) HKb.out (own_apartN HO3b.out HKb.out (by decide) rfl))
  have HBc : Hid (Below w.heap.size w (w3b.setCell ⟨g2, 9, none⟩ (.slice (some ⟨q1, 0, none⟩) 1 d1))) := HB3b.out.setCell (p := ⟨g2, 9, none⟩) (own_blk HO3b.out rfl).1 _
  clear HXb hne9
  go_upto_region 7 with fail
  clear k9b fzb HO3b HKb HB3b
  generalize w3b.setCell ⟨g2, 9, none⟩ (.slice (some ⟨q1, 0, none⟩) 1 d1) = w3c at *
  have z0 := blkc HXc.out 0
  have z1 := blkc HXc.out 1
  have z2 := blkc HXc.out 2
  simp only [List.getElem?_toArray, List.getElem?_cons_zero, List.getElem?_cons_succ] at z0 z1 z2
  have hsc := HBc.out.size
  go_wp2_with fail
  refine (nodes_term r o f tx _ w.heap.size 1 _ _ (by omega) hsc HOc.out).mono ?_
  rintro e w4 ⟨v1n, rfl, ho, hgr⟩
  have HB4 := hidd (below_grown HBc.out hsc HOc.out hgr)
  have HK2 := hidd (own_grown HKc.out hgr (fun x hx => own_apartN HKc.out HOc.out (by decide) hx))
  have HO4 := hidd ho
  obtain ⟨g1n, c1n, hvn, _, _⟩ := own_caseN HO4.out (by omega)
  subst hvn
  clear z0 z1 z2 hsc ho hgr HXc HOc HKc HBc HGk hws
  go_wp2_with fail
  rw [rounds_succ]
  obtain ⟨⟨a0, a1, a2⟩, a3, a4, a5⟩ := H.out.below HB4.out
  have k9 : w4.cell? ⟨g1n, 9, none⟩ = some (.slice (some ⟨q1, 0, none⟩) 1 d1) := HO4.out.cellAt 9 (by omega)
  go_upto_region 6 with fail
  have hbK : Below w4.heap.size w4 (w4.alloc (.cells #[.int .i64 r', .int .i64 o', .iface 192 (.agg #[.string f', .string tx'])] 71)) := (Below.refl _ _).alloc (Nat.le_refl _) _
  have HXK := hidd (heap_alloc_new w4 (.cells #[.int .i64 r', .int .i64 o', .iface 192 (.agg #[.string f', .string tx'])] 71))
  have HB4a := hidd (HB4.out.trans (hbK.mono HB4.out.size))
  have HO4a := hidd (own_belowN HO4.out hbK)
  have HK2a := hidd (own_belowN HK2.out hbK)
  have k9a := (hbK.cell (p := ⟨g1n, 9, none⟩) (own_ltN HO4.out rfl)).trans k9
  clear a0 a1 a2 a3 a4 a5 k9 HB4 HO4 hbK HK2
  obtain ⟨gk, hgk⟩ : ∃ g, w4.heap.size = g := ⟨_, rfl⟩
  rw [hgk] at HXK
  simp only [hgk]
  have HGk : Hid (w4.heap.size = gk) := hgk
  clear hgk
  generalize w4.alloc (.cells #[.int .i64 r', .int .i64 o', .iface 192 (.agg #[.string f', .string tx'])] 71) = w4a at *
  have hws := HB4a.out.size
  have fz := HO4a.out.frozenAt 9
  go_wp2_with (at_builtin; refine wpList_append_own _ rfl _ _ 23 rfl w.heap.size 3 i1 (.int .i64 0) 1 8 Tryz.underlying23 hi1 hy0 hy1 hy2 rfl (by decide) _ 1 _ rfl (own_belowN HK2a.out ((Below.refl _ _).alloc (Nat.le_refl _) _)) ⟨w4a.heap.size, 0, none⟩ 1 1 [.int .i64 2] rfl rfl ?b21 ?b22 ?b23 ?b24 ?b25 ?_)
  case b21 => exact new_cellsN w4a [.int .i64 2] _
  case b22 => intro u hu; simp only [List.mem_cons, List.not_mem_nil, or_false] at hu; subst hu; rfl
  case b23 => unfold maxLen; omega
  case b24 => omega
  case b25 => simp; omega
  intro vk2 w4b hown hgrow hne
  have hbB : Below w4a.heap.size w4a (w4a.alloc (.cells #[.int .i64 2] 3)) := (Below.refl _ _).alloc (Nat.le_refl _) _
  have hKb := own_belowN HK2a.out hbB
  have HB4b := hidd (below_grown (HB4a.out.trans (hbB.mono HB4a.out.size)) (Nat.le_trans hws hbB.size) hKb hgrow)
  have HO4b := hidd (own_grown (own_belowN HO4a.out hbB) hgrow (fun x hx => own_apartN (own_belowN HO4a.out hbB) hKb (by decide) hx))
  have HXb := hidd ((hgrow.block gk (by have := (Array.getElem?_eq_some_iff.1 HXK.out).1; have := hbB.size; omega) (fun e => by
    obtain ⟨_, cur, hc⟩ := own_blk hKb e.symm
    rw [blko HXK.out hbB] at hc
    injection hc with hc
    injection hc with _ hc
    exact absurd hc (by decide))).trans (blko HXK.out hbB))
  have HKb := hidd hown
  obtain ⟨q2, d2, hvk, _, _⟩ := own_caseN HKb.out (by omega)
  subst hvk
  clear hown hgrow hne hbB HXK HB4a HO4a k9a fz hKb HK2a
  have k9b : w4b.cell? ⟨g1n, 9, none⟩ = some (.slice (some ⟨q1, 0, none⟩) 1 d1) := HO4b.out.cellAt 9 (by omega)
  have fzb := HO4b.out.frozenAt 9
  have hne9 : gk ≠ g1n := fun e => by
    obtain ⟨_, cur, hc⟩ := own_blk HO4b.out (b := g1n) rfl
    rw [← e, HXb.out] at hc
    injection hc with hc
    injection hc with _ hc
    exact absurd hc (by decide)
  have HXc : Hid ((w4b.setCell ⟨g1n, 9, none⟩ (.slice (some ⟨q2, 0, none⟩) 2 d2)).heap[gk]? = _) := (heap_set_other _ _ _ _ _ hne9).trans HXb.out
  have HOc := hidd ((HO4b.out.stored 9 (.slice (some ⟨q2, 0, none⟩) 2 d2)).1)
  have HKc := hidd (own_setO (b := g1n) (j := 9) (u := .slice (some ⟨q2, 0, none⟩) 2 d2) HKb.out (own_apartN HO4b.out HKb.out (by decide) rfl))
  have HBc : Hid (Below w.heap.size w (w4b.setCell ⟨g1n, 9, none⟩ (.slice (some ⟨q2, 0, none⟩) 2 d2))) := HB4b.out.setCell (p := ⟨g1n, 9, none⟩) (own_blk HO4b.out rfl).1 _
  clear HXb hne9
  go_upto_region 7 with fail
  clear k9b fzb HO4b HKb HB4b
  generalize w4b.setCell ⟨g1n, 9, none⟩ (.slice (some ⟨q2, 0, none⟩) 2 d2) = w4c at *
  have z0 := blkc HXc.out 0
  have z1 := blkc HXc.out 1
  have z2 := blkc HXc.out 2
  simp only [List.getElem?_toArray, List.getElem?_cons_zero, List.getElem?_cons_succ] at z0 z1 z2
  have hsc := HBc.out.size
  go_wp2_with fail
  refine (nodes_term r' o' f' tx' _ w.heap.size 2 _ _ (by omega) hsc HOc.out).mono ?_
  rintro e w5 ⟨v2n, rfl, ho, hgr⟩
  have HB5 := hidd (below_grown HBc.out hsc HOc.out hgr)
  have HK3 := hidd (own_grown HKc.out hgr (fun x hx => own_apartN HKc.out HOc.out (by decide) hx))
  have HO5 := hidd ho
  obtain ⟨g2n, c2n, hvn, _, _⟩ := own_caseN HO5.out (by omega)
  subst hvn
  clear z0 z1 z2 hsc ho hgr HXc HOc HKc HBc HGk hws
  go_wp2_with fail
  rw [rounds_succ]
  go_wp2
  go_ret
  exact ⟨_, _, rfl, HO5.out, HB5.out⟩
end Go.Proofs.YtpdiaddgialanaaGreatDoor
