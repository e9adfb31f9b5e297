import Derived.Test.YtpdiaddgialanaaGreatDoorFwH
namespace Go.Proofs.YtpdiaddgialanaaGreatDoor
open Go Go.RowKit
set_option linter.unusedVariables false
set_option linter.unusedSimpArgs false
set_option maxRecDepth 100000

/-! A twig that is not to be, without a boost. -/
set_option maxHeartbeats 8000000 in
theorem twig_not (W : World) (b : Nat) (T f tx : ByteArray) (p p2 p3 : Nat) (h : PsAt W b T p) (hTb : ∀ V, W.grownBy V (some b) → Tabs V)
    (k1 : StepP 81 #[.int .u8 43] b T p (.bool false) p)
    (k6 : StepP 81 #[.int .u8 45] b T p (.bool true) (p + 1))
    (k2 : StepP 83 #[] b T (p + 1) (.string f) p2)
    (k3 : StepP 82 #[.string f] b T p2 (.tuple #[(.iface 192 (.agg #[.string f, .string tx])), .nilIface]) p3)
    (k4 : StepP 81 #[.int .u8 94] b T p3 (.bool false) p3)
    (hff : f = ⟨#[]⟩ ∨ f = ⟨#[102, 49]⟩) (h1 : 1 ≤ tx.size) (h2 : tx.size ≤ 64) (hv : validB tx = true) :
    Calls Tryz.prog 71 #[.pointer (some ⟨b, 0, none⟩)] W (PsR W b T (.tuple #[.agg #[.int .i64 2, .int .i64 1, (.iface 192 (.agg #[.string f, .string tx]))], .nilIface]) p3) := by
  have K1 := hidd k1
  have K2 := hidd k2
  have K3 := hidd k3
  have K4 := hidd k4
  have K6 := hidd k6
  have KV : Hid (∀ V, Tabs V → Calls Tryz.prog 85 #[.agg #[.int .i64 2, .int .i64 1, (.iface 192 (.agg #[.string f, .string tx]))]] V fun e w' => e = .returned (.bool true) ∧ Below V.heap.size V w') := fun V hV => twigValid_yes 2 1 f tx hff V hV ⟨by omega, by omega⟩ ⟨by omega, by omega⟩ h1 h2 hv
  have HTb := hidd hTb
  have H := hidd h
  obtain ⟨c0, c1, f1⟩ := h.cell
  have hlt := h.lt
  clear k1 k2 k3 k4 k6 hTb h hff h1 h2 hv
  go_enter Tryz.func71, Tryz.ntmps71
  go_upto_region 1 with fail
  have HB0 : Hid (Below W.heap.size W (W.alloc (.cells #[.int .i64 0, .int .i64 0, .nilIface] 71))) := (Below.refl _ _).alloc (Nat.le_refl _) _
  have HN0 := hidd (heap_alloc_new W (.cells #[.int .i64 0, .int .i64 0, .nilIface] 71))
  have Hsz : Hid (W.heap.size < (W.alloc (.cells #[.int .i64 0, .int .i64 0, .nilIface] 71)).heap.size) := hidd (by simp)
  generalize W.alloc (.cells #[.int .i64 0, .int .i64 0, .nilIface] 71) = W1 at *
  have H1 := hidd (H.out.below HB0.out)
  obtain ⟨c0, c1, f1⟩ := H1.out.cell
  go_upto_region 3 with fail
  have I2 : Hid (TwI W b T W.heap.size W1.heap.size (W1.alloc (.cells #[.int .i64 0, .int .i64 1, .nilIface] 71)) p 0 1 .nilIface) := by
    have hb : Below W1.heap.size W1 (W1.alloc (.cells #[.int .i64 0, .int .i64 1, .nilIface] 71)) := (Below.refl _ _).alloc (Nat.le_refl _) _
    have hs := Hsz.out
    exact ⟨H1.out.below hb, blko HN0.out hb, heap_alloc_new W1 _, grown_belowP (HB0.out.trans (hb.mono HB0.out.size)) (some b), Nat.le_refl _, by omega, hlt, by omega⟩
  clear H H1 HB0 HN0 Hsz c0 c1 f1
  obtain ⟨g0, hg0⟩ : ∃ g, W.heap.size = g := ⟨_, rfl⟩
  obtain ⟨g1, hg1⟩ : ∃ g, W1.heap.size = g := ⟨_, rfl⟩
  rw [hg0, hg1] at I2
  simp only [hg0, hg1]
  clear hg0 hg1
  generalize W1.alloc (.cells #[.int .i64 0, .int .i64 1, .nilIface] 71) = W2 at *
  go_wp2_with fail
  refine (K1.out _ I2.out.ps).mono ?_
  rintro e V3 ⟨rfl, h3, hg3⟩
  have J3 := hidd (I2.out.step h3 hg3)
  clear h3 hg3 I2
  go_wp2_with fail
  refine (K6.out _ J3.out.ps).mono ?_
  rintro e W3 ⟨rfl, h3, hg3⟩
  have I3 := hidd (J3.out.step h3 hg3)
  clear h3 hg3 J3
  obtain ⟨x0, x1, x2, y0, y1, y2⟩ := I3.out.cells
  go_wp2_with fail
  have I4 := hidd (I3.out.set (r' := 2) (o' := 1) (v' := .nilIface) 0 (.int .i64 2) rfl)
  clear I3 x0 x1 x2 y0 y1 y2
  generalize W3.setCell ⟨g1, 0, none⟩ (.int .i64 2) = W4 at *
  refine (K2.out _ I4.out.ps).mono ?_
  rintro e W5 ⟨rfl, h5, hg5⟩
  have I5 := hidd (I4.out.step h5 hg5)
  clear h5 hg5 I4
  go_wp2_with fail
  refine (K3.out _ I5.out.ps).mono ?_
  rintro e W6 ⟨rfl, h6, hg6⟩
  have I6 := hidd (I5.out.step h6 hg6)
  clear h6 hg6 I5
  obtain ⟨x0, x1, x2, y0, y1, y2⟩ := I6.out.cells
  go_wp2_with fail
  have I7 := hidd (I6.out.set (r' := 2) (o' := 1) (v' := (.iface 192 (.agg #[.string f, .string tx]))) 2 (.iface 192 (.agg #[.string f, .string tx])) rfl)
  clear I6 x0 x1 x2 y0 y1 y2
  generalize W6.setCell ⟨g1, 2, none⟩ (.iface 192 (.agg #[.string f, .string tx])) = W7 at *
  refine (K4.out _ I7.out.ps).mono ?_
  rintro e W8 ⟨rfl, h8, hg8⟩
  have I8 := hidd (I7.out.step h8 hg8)
  clear h8 hg8 I7
  go_upto_region 15 with fail
  have IA := I8
  clear I8
  obtain ⟨x0, x1, x2, y0, y1, y2⟩ := IA.out.cells
  go_wp2_with fail
  refine (KV.out _ (HTb.out _ IA.out.gr)).mono ?_
  rintro e WB ⟨rfl, hbB⟩
  have IB := hidd (IA.out.below hbB)
  clear hbB IA x0 x1 x2 y0 y1 y2
  obtain ⟨x0, x1, x2, y0, y1, y2⟩ := IB.out.cells
  obtain ⟨z0, z1, z2, u0, u1, u2⟩ := IB.out.boxes
  go_wp2
  have hfin := IB.out.fin (.int .i64 2) (.int .i64 1) (.iface 192 (.agg #[.string f, .string tx]))
  generalize ((WB.setCell ⟨g0, 0, none⟩ (.int .i64 2)).setCell ⟨g0, 1, none⟩ (.int .i64 1)).setCell ⟨g0, 2, none⟩ (.iface 192 (.agg #[.string f, .string tx])) = WC at *
  obtain ⟨hP, hG, hX⟩ := hfin
  clear IB x0 x1 x2 y0 y1 y2 z0 z1 z2 u0 u1 u2
  refine bodyPost_ret (v := .tuple #[.agg #[.int .i64 2, .int .i64 1, .iface 192 (.agg #[.string f, .string tx])], .nilIface]) ?_ rfl ⟨rfl, hP, hG⟩
  rw [results_cell_tmp rfl]
  have z0 := blkc hX 0
  have z1 := blkc hX 1
  have z2 := blkc hX 2
  simp only [List.getElem?_toArray, List.getElem?_cons_zero, List.getElem?_cons_succ] at z0 z1 z2
  have hld : (loadVar 71 ⟨g0, 0, none⟩).run Tryz.prog WC = .ok (.agg #[.int .i64 2, .int .i64 1, .iface 192 (.agg #[.string f, .string tx])]) WC := by
    go_simp
  simp [asAddr, Result.andThen, hld]
end Go.Proofs.YtpdiaddgialanaaGreatDoor
