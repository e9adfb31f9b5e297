import Derived.Test.YtpdiaddgialanaaGreatDoorFwI
import Derived.Laws.AppendOwn
namespace Go.Proofs.YtpdiaddgialanaaGreatDoor
open Go Go.RowKit
set_option linter.unusedVariables false
set_option linter.unusedSimpArgs false
set_option maxRecDepth 100000

/-! Two twigs, one behind the other. -/
theorem Tryz.infoTwg : (Tryz.prog.info? 71).map (fun i => (i.zero, i.size, i.bytes)) = some (some (.agg #[.int .i64 0, .int .i64 0, .nilIface]), 3, 32) := by kernel_rfl
theorem new_cellsW (W : World) (cs : List Value) (t : TypeId) : ∀ j u, cs[j]? = some u → (W.alloc (.cells cs.toArray t)).cell? ((⟨W.heap.size, 0, none⟩ : Addr).add j) = some u := fun j u hj => by
  rw [Go.WideShapes.add_plain, Nat.zero_add, blkc (heap_alloc_new W _) j]
  simpa using hj
theorem grown_ownW {W V V' : World} {b base e size n : Nat} {v : Value} {xs : List Value} (hg : W.grownBy V (some b)) (ho : V.ownsRow base e size v n xs) (hB : W.heap.size ≤ base) (hn : V.grownBy V' v.ownBlock) : W.grownBy V' (some b) :=
  ⟨hn.os.trans hg.os, hn.tape.trans hg.tape, hn.output.trans hg.output, Nat.le_trans hg.size hn.size, fun x hx hne => by
    rw [hn.block x (Nat.lt_of_lt_of_le hx hg.size) (fun e => by have := (own_blk ho e.symm).1; omega)]
    exact hg.block x hx hne⟩
theorem own_cases3 {w : World} {base e n : Nat} {v : Value} {xs : List Value} (h : w.ownsRow base e 3 v n xs) :
    (v = .slice none 0 0 ∧ n = 0) ∨ ∃ g cap, v = .slice (some ⟨g, 0, none⟩) n cap ∧ base ≤ g ∧ g < w.heap.size := by
  rcases h.2 with ⟨h1, h2⟩ | ⟨g, cap, cur, h1, hb, hg, _⟩
  · exact Or.inl ⟨h1, h2⟩
  · exact Or.inr ⟨g, cap, h1, hb, (Array.getElem?_eq_some_iff.1 hg).1⟩
def twV (r o : Int) (f tx : ByteArray) : Value := .agg #[.int .i64 r, .int .i64 o, .iface 192 (.agg #[.string f, .string tx])]
set_option maxHeartbeats 8000000 in
theorem twigs_two (W : World) (b : Nat) (T f tx f' tx' : ByteArray) (r o r' o' : Int) (p p1 p2 p3 : Nat) (h : PsAt W b T p)
    (k0 : StepP 69 #[] b T p (.bool false) p)
    (a1 : StepP 70 #[] b T p (.bool false) p)
    (t1 : ∀ V, W.grownBy V (some b) → PsAt V b T p → Calls Tryz.prog 71 #[.pointer (some ⟨b, 0, none⟩)] V (PsR V b T (.tuple #[.agg #[.int .i64 r, .int .i64 o, .iface 192 (.agg #[.string f, .string tx])], .nilIface]) p1))
    (k1 : StepP 69 #[] b T p1 (.bool true) p2)
    (a2 : StepP 70 #[] b T p2 (.bool false) p2)
    (t2 : ∀ V, W.grownBy V (some b) → PsAt V b T p2 → Calls Tryz.prog 71 #[.pointer (some ⟨b, 0, none⟩)] V (PsR V b T (.tuple #[.agg #[.int .i64 r', .int .i64 o', .iface 192 (.agg #[.string f', .string tx'])], .nilIface]) p3))
    (k2 : StepP 69 #[] b T p3 (.bool false) p3)
    (a3 : StepP 70 #[] b T p3 (.bool true) p3) :
    Calls Tryz.prog 54 #[.pointer (some ⟨b, 0, none⟩)] W fun e W' => ∃ v, e = .returned (.tuple #[v, .nilIface]) ∧ PsAt W' b T p3 ∧ W.grownBy W' (some b) ∧
      W'.ownsRow W.heap.size 71 3 v 2 [.int .i64 r, .int .i64 o, .iface 192 (.agg #[.string f, .string tx]), .int .i64 r', .int .i64 o', .iface 192 (.agg #[.string f', .string tx'])] := by
  obtain ⟨i0, hi0, hz0, hz1, hz2⟩ := info_parts Tryz.infoTwg
  have K0 := hidd k0
  have K1 := hidd k1
  have K2 := hidd k2
  have A1 := hidd a1
  have A2 := hidd a2
  have A3 := hidd a3
  have T1 := hidd t1
  have T2 := hidd t2
  have H := hidd h
  have hlt := h.lt
  clear k0 k1 k2 a1 a2 a3 t1 t2 h
  go_enter Tryz.func54, Tryz.ntmps54
  go_wp2_with fail
  refine (K0.out _ H.out).mono ?_
  rintro e W1 ⟨rfl, h1, hg1⟩
  have H1 := hidd h1
  have HG1 := hidd hg1
  clear h1 hg1 H
  go_wp2_with fail
  refine wp_loop_rounds 3 ?_
  rw [rounds_succ]
  go_wp2_with fail
  refine (A1.out _ H1.out).mono ?_
  rintro e W2 ⟨rfl, h2, hg2⟩
  have H2 := hidd h2
  have HG2 := hidd (grown_trans HG1.out hg2)
  clear h2 hg2 H1 HG1
  go_wp2_with fail
  refine (T1.out _ HG2.out H2.out).mono ?_
  rintro e W3 ⟨rfl, h3, hg3⟩
  have H3 := hidd h3
  have HG3 := hidd (grown_trans HG2.out hg3)
  clear h3 hg3 H2 HG2
  go_upto_region 11 with fail
  have hbA : Below W3.heap.size W3 (W3.alloc (.cells #[.int .i64 r, .int .i64 o, .iface 192 (.agg #[.string f, .string tx])] 71)) := (Below.refl _ _).alloc (Nat.le_refl _) _
  have HX := hidd (heap_alloc_new W3 (.cells #[.int .i64 r, .int .i64 o, .iface 192 (.agg #[.string f, .string tx])] 71))
  have H4 := hidd (H3.out.below hbA)
  have HG4 := hidd (grown_trans HG3.out (grown_belowP hbA (some b)))
  clear H3 HG3 hbA
  obtain ⟨gb, hgb⟩ : ∃ g, W3.heap.size = g := ⟨_, rfl⟩
  rw [hgb] at HX
  simp only [hgb]
  clear hgb
  generalize W3.alloc (.cells #[.int .i64 r, .int .i64 o, .iface 192 (.agg #[.string f, .string tx])] 71) = W4 at *
  have z0 : W4.cell? ⟨gb, 0, none⟩ = some (.int .i64 r) := blkc HX.out 0
  have z1 : W4.cell? ⟨gb, 1, none⟩ = some (.int .i64 o) := blkc HX.out 1
  have z2 : W4.cell? ⟨gb, 2, none⟩ = some (.iface 192 (.agg #[.string f, .string tx])) := blkc HX.out 2
  go_wp2_with (at_builtin; refine wpList_append_own _ rfl _ _ 101 rfl W.heap.size 71 i0 (.agg #[.int .i64 0, .int .i64 0, .nilIface]) 3 32 Tryz.underlying101 hi0 hz0 hz1 hz2 rfl (by decide) _ 0 [] rfl (World.ownsRow_nil _ _ _ _) ⟨W4.heap.size, 0, none⟩ 1 1 [.int .i64 r, .int .i64 o, .iface 192 (.agg #[.string f, .string tx])] rfl rfl ?c1 ?c2 ?c3 ?c4 ?c5 ?_)
  case c1 => exact new_cellsW W4 _ _
  case c2 => intro u hu; simp only [List.mem_cons, List.not_mem_nil, or_false] at hu; rcases hu with rfl | rfl | rfl <;> rfl
  case c3 => unfold maxLen; omega
  case c4 => omega
  case c5 => have := HG4.out.size; simp; omega
  intro v5 w5 hown5 hgrow5 hne5
  have hbB : Below W4.heap.size W4 (W4.alloc (.cells #[.int .i64 r, .int .i64 o, .iface 192 (.agg #[.string f, .string tx])] 71)) := (Below.refl _ _).alloc (Nat.le_refl _) _
  have H5 := hidd ((H4.out.below hbB).kept hgrow5 (by intro e; cases e))
  have HG5 := hidd (grown_ownW (base := W.heap.size) (e := 71) (size := 3) (grown_trans HG4.out (grown_belowP hbB (some b))) (World.ownsRow_nil _ _ _ _) (Nat.le_refl _) hgrow5)
  have HO5 := hidd hown5
  clear hown5 hgrow5 hne5 hbB H4 HG4 HX z0 z1 z2
  rcases own_cases3 HO5.out with ⟨rfl, h0⟩ | ⟨g5, c5, rfl, _, _⟩
  · exact absurd h0 (by omega)
  go_wp2_with fail
  refine (K1.out _ H5.out).mono ?_
  rintro e W6 ⟨rfl, h6, hg6⟩
  have H6 := hidd h6
  have HG6 := hidd (grown_trans HG5.out hg6)
  have HO6 := hidd (own_congr HO5.out (fun x hx => hg6.block x (by obtain ⟨_, cur, hc⟩ := own_blk HO5.out hx; exact (Array.getElem?_eq_some_iff.1 hc).1) (fun e => by have := (own_blk HO5.out hx).1; injection e with e; omega)))
  clear h6 hg6 H5 HG5 HO5
  go_wp2_with fail
  rw [rounds_succ]
  go_wp2_with fail
  refine (A2.out _ H6.out).mono ?_
  rintro e W7 ⟨rfl, h7, hg7⟩
  have H7 := hidd h7
  have HG7 := hidd (grown_trans HG6.out hg7)
  have HO7 := hidd (own_congr HO6.out (fun x hx => hg7.block x (by obtain ⟨_, cur, hc⟩ := own_blk HO6.out hx; exact (Array.getElem?_eq_some_iff.1 hc).1) (fun e => by have := (own_blk HO6.out hx).1; injection e with e; omega)))
  clear h7 hg7 H6 HG6 HO6
  go_wp2_with fail
  refine (T2.out _ HG7.out H7.out).mono ?_
  rintro e W3 ⟨rfl, h3, hg3⟩
  have H3 := hidd h3
  have HG3 := hidd (grown_trans HG7.out hg3)
  have HO3 := hidd (own_congr HO7.out (fun x hx => hg3.block x (by obtain ⟨_, cur, hc⟩ := own_blk HO7.out hx; exact (Array.getElem?_eq_some_iff.1 hc).1) (fun e => by have := (own_blk HO7.out hx).1; injection e with e; omega)))
  clear h3 hg3 H7 HG7 HO7
  go_upto_region 11 with fail
  have hbA : Below W3.heap.size W3 (W3.alloc (.cells #[.int .i64 r', .int .i64 o', .iface 192 (.agg #[.string f', .string tx'])] 71)) := (Below.refl _ _).alloc (Nat.le_refl _) _
  have HX := hidd (heap_alloc_new W3 (.cells #[.int .i64 r', .int .i64 o', .iface 192 (.agg #[.string f', .string tx'])] 71))
  have H4 := hidd (H3.out.below hbA)
  have HG4 := hidd (grown_trans HG3.out (grown_belowP hbA (some b)))
  have HO4 := hidd (own3_below HO3.out hbA)
  clear H3 HG3 HO3 hbA
  obtain ⟨gb, hgb⟩ : ∃ g, W3.heap.size = g := ⟨_, rfl⟩
  rw [hgb] at HX
  simp only [hgb]
  clear hgb
  generalize W3.alloc (.cells #[.int .i64 r', .int .i64 o', .iface 192 (.agg #[.string f', .string tx'])] 71) = W4 at *
  have z0 : W4.cell? ⟨gb, 0, none⟩ = some (.int .i64 r') := blkc HX.out 0
  have z1 : W4.cell? ⟨gb, 1, none⟩ = some (.int .i64 o') := blkc HX.out 1
  have z2 : W4.cell? ⟨gb, 2, none⟩ = some (.iface 192 (.agg #[.string f', .string tx'])) := blkc HX.out 2
  go_wp2_with (at_builtin; refine wpList_append_own _ rfl _ _ 101 rfl W.heap.size 71 i0 (.agg #[.int .i64 0, .int .i64 0, .nilIface]) 3 32 Tryz.underlying101 hi0 hz0 hz1 hz2 rfl (by decide) _ _ _ rfl (own3_below HO4.out ((Below.refl _ _).alloc (Nat.le_refl _) _)) ⟨W4.heap.size, 0, none⟩ 1 1 [.int .i64 r', .int .i64 o', .iface 192 (.agg #[.string f', .string tx'])] rfl rfl ?c1 ?c2 ?c3 ?c4 ?c5 ?_)
  case c1 => exact new_cellsW W4 _ _
  case c2 => intro u hu; simp only [List.mem_cons, List.not_mem_nil, or_false] at hu; rcases hu with rfl | rfl | rfl <;> rfl
  case c3 => unfold maxLen; omega
  case c4 => omega
  case c5 => have := HG4.out.size; simp; omega
  intro v5 w5 hown5 hgrow5 hne5
  have hbB : Below W4.heap.size W4 (W4.alloc (.cells #[.int .i64 r', .int .i64 o', .iface 192 (.agg #[.string f', .string tx'])] 71)) := (Below.refl _ _).alloc (Nat.le_refl _) _
  have HOb := own3_below HO4.out hbB
  have H5 := hidd ((H4.out.below hbB).kept hgrow5 (by intro e; have := (own_blk HO4.out e.symm).1; omega))
  have HG5 := hidd (grown_ownW (grown_trans HG4.out (grown_belowP hbB (some b))) HOb (Nat.le_refl _) hgrow5)
  have HO5 := hidd hown5
  clear hown5 hgrow5 hne5 hbB H4 HG4 HO4 HOb HX z0 z1 z2
  rcases own_cases3 HO5.out with ⟨rfl, h0⟩ | ⟨g6, c6, rfl, _, _⟩
  · exact absurd h0 (by omega)
  go_wp2_with fail
  refine (K2.out _ H5.out).mono ?_
  rintro e W6 ⟨rfl, h6, hg6⟩
  have H6 := hidd h6
  have HG6 := hidd (grown_trans HG5.out hg6)
  have HO6 := hidd (own_congr HO5.out (fun x hx => hg6.block x (by obtain ⟨_, cur, hc⟩ := own_blk HO5.out hx; exact (Array.getElem?_eq_some_iff.1 hc).1) (fun e => by have := (own_blk HO5.out hx).1; injection e with e; omega)))
  clear h6 hg6 H5 HG5 HO5
  go_wp2_with fail
  rw [rounds_succ]
  go_wp2_with fail
  refine (A3.out _ H6.out).mono ?_
  rintro e W7 ⟨rfl, h7, hg7⟩
  have H7 := hidd h7
  have HG7 := hidd (grown_trans HG6.out hg7)
  have HO7 := hidd (own_congr HO6.out (fun x hx => hg7.block x (by obtain ⟨_, cur, hc⟩ := own_blk HO6.out hx; exact (Array.getElem?_eq_some_iff.1 hc).1) (fun e => by have := (own_blk HO6.out hx).1; injection e with e; omega)))
  clear h7 hg7 H6 HG6 HO6
  go_wp2
  go_ret2
  exact ⟨_, rfl, H7.out, HG7.out, HO7.out⟩
end Go.Proofs.YtpdiaddgialanaaGreatDoor
