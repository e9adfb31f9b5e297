import Derived.Test.YtibomnmgiimejadPkHu
import Derived.Test.YtibomnmgiimejadPkOu
import Derived.Maps.AppendAt
namespace Go.Proofs.Ytibomnmgiimejad
open Go Go.RowKit Go.Shelf
set_option linter.unusedVariables false
attribute [local go_sem] Oper.semAt_some

theorem flat_len_uint64 (vs : List Nat) (hv : nums62 vs) (pre : List Nat) : (pre.flatMap (fun x => blockL ((vs.drop x).take 128))).length ≤ pre.length * 993 := by
  induction pre with
  | nil => simp
  | cons x t ih =>
    rw [List.flatMap_cons, List.length_append, List.length_cons, blockL_length]
    have hb : nums62 ((vs.drop x).take 128) := fun v hv' => hv v (List.mem_of_mem_drop (List.mem_of_mem_take hv'))
    have := sizeL_le ((vs.drop x).take 128).length (widthL ((vs.drop x).take 128)) (by rw [List.length_take]; omega) (widthL_62 _ hb)
    omega
theorem keeps_uint64 {W W' : World} {v : Value} {base n : Nat} {xs : List Value} (h : KeptB W W' v) (ho : W.ownsRow base 5 1 v n xs) : KeepsOthers W W' :=
  ⟨h.1, fun k o hk ho' => by
    refine (h.2 k (Array.getElem?_eq_some_iff.1 hk).1 ?_).trans hk
    intro e
    rcases ho.2 with ⟨rfl, _⟩ | ⟨g, cp, cur, rfl, _, hg, _⟩
    · cases e
    · have e2 : k = g := Option.some.inj e
      subst e2
      rw [hk] at hg
      cases hg
      cases ho'⟩
set_option maxRecDepth 100000 in
set_option maxHeartbeats 4000000 in
set_option maxRecDepth 100000 in
theorem packed_uint64 (b off cap : Nat) (vs : List Nat) (w : World) (hl : vs.length ≤ 4096) (hcap : vs.length ≤ cap) (hv : nums62 vs) (hbw : b < w.heap.size) (hc : NumsAt .u64 w b off vs) :
    Calls Try.prog 41 #[.slice (some ⟨b, off, none⟩) vs.length cap] w fun e w' => ∃ v', e = .returned v' ∧ w'.ownsRow w.heap.size 5 1 v' (packL vs).length (Lib.byteCells (packL vs)) ∧ Below w.heap.size w w' := by
  have Hc := hidd hc
  have Hv := hidd hv
  clear hc hv
  refine (callsIn_wide (n := 4)).1 ?_
  refine callsIn_of_wp_marks Try.func41 rfl trivial ?_ rfl
  simp only [Try.ntmps41, List.size_toArray, List.length_cons, List.length_nil, Nat.reduceAdd, Nat.reduceSub, Array.replicate_succ, Array.replicate_zero, List.push_toArray, List.append_toArray, List.nil_append, List.cons_append]
  gi_wp2_with fail
  refine ⟨trivial, (callsIn_wide.2 (appendInt_any w.heap.size 0 (.slice none 0 0) [] vs.length w (by omega) rfl (by omega) (Nat.le_refl _) (World.ownsRow_nil _ _ _ _))).mono ?_⟩
  rintro e w1 ⟨v1, rfl, ho1, hg1, hnn1⟩
  have HO1 : Hid (w1.ownsRow w.heap.size 5 1 v1 (putL vs.length).length (Lib.byteCells (putL vs.length))) := by rw [Nat.zero_add, List.nil_append] at ho1; exact ho1
  have HB1 : Hid (Below w.heap.size w w1) := hg1.below (Nat.le_refl _) (World.ownsRow_nil w w.heap.size 5 1)
  clear ho1 hg1
  have hz1w := HB1.out.size
  rcases own_cases HO1.out with ⟨rfl, _⟩ | ⟨g1, cap1, rfl, hg1, hg1l⟩
  · exact absurd rfl hnn1
  gi_wp2_with fail
  refine ⟨trivial, (chunk_uint64 Fence.wide _ trivial rfl _ _ _ _).mono ?_⟩
  rintro e w3 ⟨rfl, rfl⟩
  gi_wp2_with fail
  have hN := starts_length 0 vs.length
  have HBox : Hid (Boxed (((w1.alloc (.cells #[.slice (some ⟨g1, 0, none⟩) (putL vs.length).length cap1] 22)).alloc (.cells #[.slice (some ⟨b, off, none⟩) vs.length cap] 63)).alloc (.cells #[.int .i64 128] 3)) w1.heap.size 22 (.slice (some ⟨g1, 0, none⟩) (putL vs.length).length cap1)) := ((Boxed.new w1 _ _).alloc _).alloc _
  have HBs : Hid (Boxed (((w1.alloc (.cells #[.slice (some ⟨g1, 0, none⟩) (putL vs.length).length cap1] 22)).alloc (.cells #[.slice (some ⟨b, off, none⟩) vs.length cap] 63)).alloc (.cells #[.int .i64 128] 3)) (w1.heap.size + 1) 63 (.slice (some ⟨b, off, none⟩) vs.length cap)) := by
    have := (Boxed.new (w1.alloc (.cells #[.slice (some ⟨g1, 0, none⟩) (putL vs.length).length cap1] 22)) 63 (.slice (some ⟨b, off, none⟩) vs.length cap)).alloc (.cells #[.int .i64 128] 3)
    rw [World.size_alloc] at this
    exact this
  have HBn : Hid (Boxed (((w1.alloc (.cells #[.slice (some ⟨g1, 0, none⟩) (putL vs.length).length cap1] 22)).alloc (.cells #[.slice (some ⟨b, off, none⟩) vs.length cap] 63)).alloc (.cells #[.int .i64 128] 3)) (w1.heap.size + 1 + 1) 3 (.int .i64 128)) := by
    have := Boxed.new ((w1.alloc (.cells #[.slice (some ⟨g1, 0, none⟩) (putL vs.length).length cap1] 22)).alloc (.cells #[.slice (some ⟨b, off, none⟩) vs.length cap] 63)) 3 (.int .i64 128)
    rw [World.size_alloc, World.size_alloc] at this
    exact this
  have HOw := hidd (((HO1.out.alloc (.cells #[.slice (some ⟨g1, 0, none⟩) (putL vs.length).length cap1] 22)).alloc (.cells #[.slice (some ⟨b, off, none⟩) vs.length cap] 63)).alloc (.cells #[.int .i64 128] 3))
  have HBw : Hid (Below w.heap.size w (((w1.alloc (.cells #[.slice (some ⟨g1, 0, none⟩) (putL vs.length).length cap1] 22)).alloc (.cells #[.slice (some ⟨b, off, none⟩) vs.length cap] 63)).alloc (.cells #[.int .i64 128] 3))) := ((HB1.out.alloc hz1w _).alloc (by simp; omega) _).alloc (by simp; omega) _
  obtain ⟨W0, hW0⟩ : ∃ W0, (((w1.alloc (.cells #[.slice (some ⟨g1, 0, none⟩) (putL vs.length).length cap1] 22)).alloc (.cells #[.slice (some ⟨b, off, none⟩) vs.length cap] 63)).alloc (.cells #[.int .i64 128] 3)) = W0 := ⟨_, rfl⟩
  have hsz : W0.heap.size = w1.heap.size + 3 := by rw [← hW0]; simp
  rw [hW0] at HBox HBs HBn HOw HBw ⊢
  clear hW0
  refine wpIn_rangeFunc_ownF rfl (by omega) (gf := 100) (lb := #[.pointer (some ⟨w1.heap.size + 1, 0, none⟩), .pointer (some ⟨w1.heap.size + 1 + 1, 0, none⟩)]) rfl trivial (enters_of Try.func100 (by kernel_rfl) rfl)
    (chunk_stops_uint64 Fence.wide _ trivial rfl (by omega) (w1.heap.size + 1) (w1.heap.size + 1 + 1) b off vs.length cap hl hcap W0 (by omega) (by omega) HBs.out.cell HBn.out.cell) KpC.trans
    (fun W l o o' hlo _ _ _ => ⟨World.putObj_heap_other (by omega), World.putObj_heap_other (by omega)⟩) (Below.refl _ _) (fun _ => rfl)
    (fun (pre : List Nat) W => (∃ v, Boxed W w1.heap.size 22 v ∧ W.ownsRow w.heap.size 5 1 v (putL vs.length ++ pre.flatMap (fun x => blockL ((vs.drop x).take 128))).length (Lib.byteCells (putL vs.length ++ pre.flatMap (fun x => blockL ((vs.drop x).take 128)))) ∧ v ≠ .slice none 0 0) ∧ Boxed W (w1.heap.size + 1) 63 (.slice (some ⟨b, off, none⟩) vs.length cap) ∧ Boxed W (w1.heap.size + 1 + 1) 3 (.int .i64 128) ∧ Below w.heap.size w W)
    (fun _ _ _ => False)
    (OwnFrom.and (Own.from (holdsRow_own w.heap.size w1.heap.size 22 5 1 (fun (pre : List Nat) => (putL vs.length ++ pre.flatMap (fun x => blockL ((vs.drop x).take 128))).length) (fun (pre : List Nat) => Lib.byteCells (putL vs.length ++ pre.flatMap (fun x => blockL ((vs.drop x).take 128)))) (fun _ v => v ≠ .slice none 0 0)) _) (OwnFrom.and (Own.from (boxed_own _ _ _) _) (OwnFrom.and (Own.from (boxed_own _ _ _) _) (ownFrom_below (Nat.le_refl _) (by omega)))))
    (fun _ _ _ _ _ hs _ _ => hs)
    ⟨⟨_, HBox.out, by simpa using HOw.out, by simp⟩, HBs.out, HBn.out, HBw.out⟩
    (fun x => { tmps := #[.slice (some ⟨b, off, none⟩) vs.length cap, undef, .slice none 0 0, .pointer (some ⟨w1.heap.size, 0, none⟩), .slice (some ⟨b, off + x, none⟩) (min 128 (vs.length - x)) (min 128 (vs.length - x)), .slice (some ⟨b, off, none⟩) vs.length cap, .int .i64 (vs.length : Int), .slice (some ⟨g1, 0, none⟩) (putL vs.length).length cap1, .slice (some ⟨b, off, none⟩) vs.length cap, .func (.func 100) #[] #[.pointer (some ⟨w1.heap.size + 1, 0, none⟩), .pointer (some ⟨w1.heap.size + 1 + 1, 0, none⟩)], .slice (some ⟨b, off + x, none⟩) (min 128 (vs.length - x)) (min 128 (vs.length - x)), undef, undef, undef, undef], defers := [] }) ?assign ?body ?done ?stop
  case assign =>
    intro l x W K hK
    unfold chunkOf
    gi_wp2
    exact hK
  case body =>
    rintro l pre x W ⟨⟨v, hbx, hrow, hnn⟩, hbs, hbn, hbel⟩ hlt
    have hfl := flat_len_uint64 vs Hv.out pre
    have hp9 := putL_length9 vs.length (by omega)
    have HE : Hid (putL vs.length ++ (pre ++ [x]).flatMap (fun x => blockL ((vs.drop x).take 128)) = (putL vs.length ++ pre.flatMap (fun x => blockL ((vs.drop x).take 128))) ++ blockL ((vs.drop x).take 128)) := by show _ = _; simp
    have hLl : (putL vs.length ++ pre.flatMap (fun x => blockL ((vs.drop x).take 128))).length ≤ 1048576 := by rw [List.length_append]; omega
    generalize putL vs.length ++ pre.flatMap (fun x => blockL ((vs.drop x).take 128)) = L at *
    have hx128 : ((vs.drop x).take 128).length = min 128 (vs.length - x) := by rw [List.length_take, List.length_drop]
    have HAB : Hid (Calls Try.prog 73 #[v, .slice (some ⟨b, off + x, none⟩) (min 128 (vs.length - x)) (min 128 (vs.length - x))] W fun e w' => ∃ v', e = .returned v' ∧ w'.ownsRow w.heap.size 5 1 v' (L ++ blockL ((vs.drop x).take 128)).length (Lib.byteCells (L ++ blockL ((vs.drop x).take 128))) ∧ Below w.heap.size W w' ∧ v' ≠ .slice none 0 0 ∧ KeptB W w' v) := by
      have := appendBlock_uint64 w.heap.size L.length b (off + x) (min 128 (vs.length - x)) v L ((vs.drop x).take 128) W rfl hLl (by rw [hx128]; omega) (fun u hu => Hv.out u (List.mem_of_mem_drop (List.mem_of_mem_take hu))) hbel.size hbw hrow (((Hc.out.lower hbel hbw).drop x).take 128)
      rw [hx128] at this
      exact this
    generalize blockL ((vs.drop x).take 128) = bk at *
    have HRow := hidd hrow
    have Hbx := hidd hbx
    have Hbs := hidd hbs
    have Hbn := hidd hbn
    have Hbe := hidd hbel
    have hcell := hbx.cell
    clear hrow hbx hbs hbn hbel hfl hx128
    rcases own_cases HRow.out with ⟨rfl, _⟩ | ⟨g, cp, rfl, _, _⟩
    · exact absurd rfl hnn
    gi_wp2_with (refine ⟨trivial, ?_⟩; gi_at_call 73; refine (CallsIn.inRound l (callsIn_wide.2 HAB.out)).mono ?_; rintro e w4 ⟨v4, rfl, ho4, hb4, hn4, hk4⟩; have HO4 := hidd ho4; have HB4 := hidd hb4; have HK4 := hidd hk4; have hbx4 : Boxed w4 w1.heap.size 22 _ := (hk4.2 _ Hbx.out.lt (Hbx.out.not_row (by decide) HRow.out)).trans Hbx.out; have hc4 := hbx4.cell; have hf4 := hbx4.frozen; obtain ⟨g4, cp4, rfl⟩ : ∃ g4 cp4, v4 = .slice (some ⟨g4, 0, none⟩) (L ++ bk).length cp4 := (by rcases own_cases ho4 with ⟨e1, _⟩ | ⟨g4, cp4, e1, _, _⟩; exact absurd e1 hn4; exact ⟨g4, cp4, e1⟩); clear ho4 hb4 hn4 hk4)
    have hO4 := HO4.out
    rw [List.length_append] at hO4
    have hn1 : some (w1.heap.size + 1) ≠ (Value.slice (some ⟨g, 0, none⟩) L.length cp).ownBlock := Hbs.out.not_row (by decide) HRow.out
    have hn2 : some (w1.heap.size + 1 + 1) ≠ (Value.slice (some ⟨g, 0, none⟩) L.length cp).ownBlock := Hbn.out.not_row (by decide) HRow.out
    have hq1 := HK4.out.2 _ Hbs.out.lt hn1
    have hq2 := HK4.out.2 _ Hbn.out.lt hn2
    have hbs4 : Boxed w4 (w1.heap.size + 1) 63 (.slice (some ⟨b, off, none⟩) vs.length cap) := hq1.trans Hbs.out
    have hbn4 : Boxed w4 (w1.heap.size + 1 + 1) 3 (.int .i64 128) := hq2.trans Hbn.out
    have hs4 := grownBy_setCell' w4 w1.heap.size (.slice (some ⟨g4, 0, none⟩) (L.length + bk.length) cp4)
    have hne4 := hbx4.not_row (by decide) hO4
    refine ⟨(keeps_uint64 HK4.out HRow.out).trans (KeepsOthers.setCell _ _ _), ⟨(hs4.block _ hbs4.lt (by simp)).trans hq1, (hs4.block _ hbn4.lt (by simp; omega)).trans hq2⟩, ⟨_, hbx4.set _, ?_, by simp⟩, hbs4.other (by omega) _, hbn4.other (by omega) _, (Hbe.out.trans HB4.out).setCell (p := ⟨w1.heap.size, 0, none⟩) hz1w _⟩
    rw [HE.out, List.length_append]
    exact hO4.kept hs4 (Or.inr (fun e => hne4 e.symm))
  case done =>
    rintro D ys W hD rfl ⟨⟨v, hbx, hrow, hnn⟩, hbs, hbn, hbel⟩ hK
    have hcell := hbx.cell
    have HE : Hid (putL vs.length ++ (starts 0 vs.length).flatMap (fun x => blockL ((vs.drop x).take 128)) = packL vs) := by
      show _ = _
      rw [starts_pack, List.drop_zero]; rfl
    rw [HE.out] at hrow
    have HR := hidd hrow
    clear hrow hbs hbn
    rcases own_cases HR.out with ⟨rfl, _⟩ | ⟨g, cp, rfl, _, _⟩
    · exact absurd rfl hnn
    gi_wp2
    refine ⟨by simp, .inl ⟨_, _, rfl, run_takeDeferred hK, ?_⟩⟩
    exact ⟨_, results_tmp rfl _ _ _, _, rfl, ownsRow_putObj HR.out _ hK rfl, hbel.trans (belowK_b (w := w) (Nat.le_refl _) W D _ _ (by omega) hK rfl rfl)⟩
  case stop =>
    rintro D c pre W _ _ h _
    exact h.elim
end Go.Proofs.Ytibomnmgiimejad
