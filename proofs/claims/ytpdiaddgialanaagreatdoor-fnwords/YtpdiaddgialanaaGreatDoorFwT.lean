import Derived.Test.YtpdiaddgialanaaGreatDoorFwS
namespace Go.Proofs.YtpdiaddgialanaaGreatDoor
open Go Go.RowKit
set_option linter.unusedVariables false
set_option linter.unusedSimpArgs false
set_option maxRecDepth 100000

/-! The nodes of a term, appended. -/
theorem Tryz.infoNod : (Tryz.prog.info? 45).map (fun i => (i.zero, i.size, i.bytes)) = some (some (.agg #[.int .i64 0, .int .i64 0, .int .i64 0, .int .i64 0, .int .i64 0, .int .i64 0, .int .i64 0, .string ⟨#[]⟩, .string ⟨#[]⟩, .slice none 0 0]), 10, 112) := by kernel_rfl
def ndL (k r o m : Int) (f tx : ByteArray) (ks : Value) : List Value := [.int .i64 k, .int .i64 r, .int .i64 o, .int .i64 0, .int .i64 m, .int .i64 0, .int .i64 0, .string f, .string tx, ks]
theorem new_cellsN (W : World) (cs : List Value) (t : TypeId) : ∀ j u, cs[j]? = some u → (W.alloc (.cells cs.toArray t)).cell? ((⟨W.heap.size, 0, none⟩ : Addr).add j) = some u := fun j u hj => by
  rw [Go.WideShapes.add_plain, Nat.zero_add, blkc (heap_alloc_new W _) j]
  simpa using hj
theorem own_caseN {w : World} {base e sz n : Nat} {v : Value} {xs : List Value} (h : w.ownsRow base e sz v n xs) (hn : 0 < n) :
    ∃ g cap, v = .slice (some ⟨g, 0, none⟩) n cap ∧ base ≤ g ∧ g < w.heap.size := by
  rcases h.2 with ⟨h1, h2⟩ | ⟨g, cap, cur, h1, hb, hg, _⟩
  · omega
  · exact ⟨g, cap, h1, hb, (Array.getElem?_eq_some_iff.1 hg).1⟩
theorem own_belowN {w w' : World} {base e sz n : Nat} {v : Value} {xs : List Value} (h : w.ownsRow base e sz v n xs) (hb : Below w.heap.size w w') : w'.ownsRow base e sz v n xs :=
  own_congr h fun x hx => hb.block x (by obtain ⟨_, cur, hc⟩ := own_blk h hx; exact (Array.getElem?_eq_some_iff.1 hc).1)
theorem grown_belowN {W W' : World} (h : Below W.heap.size W W') (row : Option Nat) : W.grownBy W' row := ⟨h.os, h.tape, h.output, h.size, fun i hi _ => h.block i hi⟩
theorem own_ltN {w : World} {base e sz n : Nat} {v : Value} {xs : List Value} (h : w.ownsRow base e sz v n xs) {x : Nat} (hx : v.ownBlock = some x) : x < w.heap.size := by
  obtain ⟨_, cur, hc⟩ := own_blk h hx
  exact (Array.getElem?_eq_some_iff.1 hc).1
set_option maxHeartbeats 4000000 in
theorem nodes_term (r o : Int) (f tx : ByteArray) (w : World) (base k : Nat) (v : Value) (xs : List Value) (hk : k ≤ 1000) (hb : base ≤ w.heap.size) (h : w.ownsRow base 45 10 v k xs) :
    Calls Tryz.prog 58 #[.agg #[.int .i64 r, .int .i64 o, .iface 192 (.agg #[.string f, .string tx])], v] w fun e w' => ∃ v', e = .returned v' ∧ w'.ownsRow base 45 10 v' (k + 1) (xs ++ ndL 1 r o 0 f tx (.slice none 0 0)) ∧ w.grownBy w' v.ownBlock := by
  obtain ⟨i0, hi0, hz0, hz1, hz2⟩ := info_parts Tryz.infoNod
  have H := hidd h
  have HV : Hid (∀ V, Calls Tryz.prog 77 #[.agg #[.int .i64 r, .int .i64 o, .iface 192 (.agg #[.string f, .string tx])]] V fun e w' => e = .returned (.agg #[.int .i64 1, .int .i64 r, .int .i64 o, .int .i64 0, .int .i64 0, .int .i64 0, .int .i64 0, .string f, .string tx, .slice none 0 0]) ∧ Below V.heap.size V w') := fun V => twigNode_term r o f tx V
  obtain ⟨ad, n0, cp, hv, hn⟩ : ∃ ad n0 cp, v = .slice ad n0 cp ∧ n0 = k := by
    rcases h.2 with ⟨h1, h2⟩ | ⟨g, cap, cur, h1, _⟩
    · exact ⟨none, 0, 0, h1, h2.symm⟩
    · exact ⟨_, _, _, h1, rfl⟩
  subst hn hv
  clear h
  go_enter Tryz.func58, Tryz.ntmps58
  go_wp2_with fail
  have hbA : Below w.heap.size w (w.alloc (.cells #[.int .i64 r, .int .i64 o, .iface 192 (.agg #[.string f, .string tx])] 71)) := (Below.refl _ _).alloc (Nat.le_refl _) _
  have hX := heap_alloc_new w (.cells #[.int .i64 r, .int .i64 o, .iface 192 (.agg #[.string f, .string tx])] 71)
  refine (HV.out _).mono ?_
  rintro e w1 ⟨rfl, hb1⟩
  have HB1 := hidd (hbA.trans (hb1.mono hbA.size))
  have HX1 := hidd (blko hX hb1)
  have HO1 := hidd (own_belowN H.out HB1.out)
  have hs1 := HB1.out.size
  clear hbA hX hb1 HV
  obtain ⟨g, hg⟩ : ∃ g, w.heap.size = g := ⟨_, rfl⟩
  rw [hg] at HX1 hs1
  simp only [hg]
  go_wp2_with (at_builtin; refine wpList_append_own _ rfl _ _ 38 rfl base 45 i0 (.agg #[.int .i64 0, .int .i64 0, .int .i64 0, .int .i64 0, .int .i64 0, .int .i64 0, .int .i64 0, .string ⟨#[]⟩, .string ⟨#[]⟩, .slice none 0 0]) 10 112 Tryz.underlying38 hi0 hz0 hz1 hz2 rfl (by decide) _ _ _ rfl (own_belowN HO1.out ((Below.refl _ _).alloc (Nat.le_refl _) _)) ⟨w1.heap.size, 0, none⟩ 1 1 (ndL 1 r o 0 f tx (.slice none 0 0)) rfl rfl ?c1 ?c2 ?c3 ?c4 ?c5 ?_)
  case c1 => exact new_cellsN w1 _ _
  case c2 => intro u hu; simp only [ndL, List.mem_cons, List.not_mem_nil, or_false] at hu; rcases hu with rfl | rfl | rfl | rfl | rfl | rfl | rfl | rfl | rfl | rfl <;> rfl
  case c3 => unfold maxLen; omega
  case c4 => omega
  case c5 => simp; omega
  intro v2 w2 hown2 hgrow2 hne2
  have hbB : Below w1.heap.size w1 (w1.alloc (.cells #[.int .i64 1, .int .i64 r, .int .i64 o, .int .i64 0, .int .i64 0, .int .i64 0, .int .i64 0, .string f, .string tx, .slice none 0 0] 45)) := (Below.refl _ _).alloc (Nat.le_refl _) _
  have HG2 := hidd (grown_trans (grown_belowN (HB1.out.trans (hbB.mono HB1.out.size)) _) hgrow2)
  have HX2 := hidd ((hgrow2.block g (by have := (Array.getElem?_eq_some_iff.1 HX1.out).1; have := hbB.size; omega) (fun e => by have := own_ltN H.out e.symm; omega)).trans (blko HX1.out hbB))
  have HO2 := hidd hown2
  clear hown2 hgrow2 hne2 hbB HX1 HB1 HO1 hs1
  have z0 := blkc HX2.out 0
  have z1 := blkc HX2.out 1
  have z2 := blkc HX2.out 2
  simp only [List.getElem?_toArray, List.getElem?_cons_zero, List.getElem?_cons_succ] at z0 z1 z2
  obtain ⟨g2, c2, hv2, _, _⟩ := own_caseN HO2.out (by omega)
  subst hv2
  go_wp2_with fail
  refine (kids_term r o f tx _).mono ?_
  rintro e w3 ⟨rfl, hb3⟩
  have HG3 := hidd (grown_trans HG2.out (grown_belowN hb3 _))
  have HO3 := hidd (own_belowN HO2.out hb3)
  clear z0 z1 z2 hb3 HX2 HG2 HO2
  go_wp2_with fail
  refine wp_loop_rounds 1 ?_
  rw [rounds_succ]
  go_wp2
  go_ret
  exact ⟨_, rfl, HO3.out, HG3.out⟩
end Go.Proofs.YtpdiaddgialanaaGreatDoor
