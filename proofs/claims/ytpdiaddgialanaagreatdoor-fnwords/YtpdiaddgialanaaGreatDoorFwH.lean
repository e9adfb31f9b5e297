import Derived.Test.YtpdiaddgialanaaGreatDoorFwG
import Derived.Laws.ResultCell
namespace Go.Proofs.YtpdiaddgialanaaGreatDoor
open Go Go.RowKit
set_option linter.unusedVariables false
set_option linter.unusedSimpArgs false
set_option maxRecDepth 100000

/-! A twig: its role, its clause, its boost. -/
/-- A method of the parser that stands at p tells v and stands at q then. -/
def StepP (f : Nat) (args : Array Value) (b : Nat) (T : ByteArray) (p : Nat) (v : Value) (q : Nat) : Prop := ∀ V, PsAt V b T p → Calls Tryz.prog f (#[.pointer (some ⟨b, 0, none⟩)] ++ args) V (PsR V b T v q)
def TwB (W : World) (g : Nat) (r o : Int) (v : Value) : Prop := W.heap[g]? = some (.cells #[.int .i64 r, .int .i64 o, v] 71)
structure TwI (W : World) (b : Nat) (T : ByteArray) (g0 g1 : Nat) (V : World) (q : Nat) (r o : Int) (v : Value) : Prop where
  ps : PsAt V b T q
  box : TwB V g0 0 0 .nilIface
  tw : TwB V g1 r o v
  gr : W.grownBy V (some b)
  le0 : W.heap.size ≤ g0
  le1 : W.heap.size ≤ g1
  lt : b < W.heap.size
  ne : g0 ≠ g1
theorem TwI.step {W V V' : World} {b : Nat} {T : ByteArray} {g0 g1 q q' : Nat} {r o : Int} {v : Value} (h : TwI W b T g0 g1 V q r o v) (hp : PsAt V' b T q') (hg : V.grownBy V' (some b)) : TwI W b T g0 g1 V' q' r o v := by
  have n0 : some g0 ≠ some b := fun e => by have := h.le0; have := h.lt; injection e with e; omega
  have n1 : some g1 ≠ some b := fun e => by have := h.le1; have := h.lt; injection e with e; omega
  exact ⟨hp, (hg.block g0 (Array.getElem?_eq_some_iff.1 h.box).1 n0).trans h.box, (hg.block g1 (Array.getElem?_eq_some_iff.1 h.tw).1 n1).trans h.tw, grown_trans h.gr hg, h.le0, h.le1, h.lt, h.ne⟩
theorem TwI.below {W V V' : World} {b : Nat} {T : ByteArray} {g0 g1 q : Nat} {r o : Int} {v : Value} (h : TwI W b T g0 g1 V q r o v) (hb : Below V.heap.size V V') : TwI W b T g0 g1 V' q r o v := h.step (h.ps.below hb) (grown_belowP hb (some b))
theorem TwI.set {W V : World} {b : Nat} {T : ByteArray} {g0 g1 q : Nat} {r o r' o' : Int} {v v' : Value} (h : TwI W b T g0 g1 V q r o v) (k : Nat) (u : Value) (he : #[Value.int .i64 r, .int .i64 o, v].setIfInBounds k u = #[Value.int .i64 r', .int .i64 o', v']) : TwI W b T g0 g1 (V.setCell ⟨g1, k, none⟩ u) q r' o' v' := by
  have n1 : b ≠ g1 := fun e => by have := h.le1; have := h.lt; omega
  refine ⟨(heap_set_other V g1 k u b n1).trans h.ps, (heap_set_other V g1 k u g0 h.ne).trans h.box, ?_, ?_, h.le0, h.le1, h.lt, h.ne⟩
  · have := blk_setk h.tw k u
    rw [he] at this
    exact this
  · exact ⟨h.gr.os, h.gr.tape, h.gr.output, by have := h.gr.size; simpa using this, fun x hx hne => (heap_set_other V g1 k u x (by have := h.le1; omega)).trans (h.gr.block x hx hne)⟩
theorem TwI.cells {W V : World} {b : Nat} {T : ByteArray} {g0 g1 q : Nat} {r o : Int} {v : Value} (h : TwI W b T g0 g1 V q r o v) : V.cell? ⟨g1, 0, none⟩ = some (.int .i64 r) ∧ V.cell? ⟨g1, 1, none⟩ = some (.int .i64 o) ∧ V.cell? ⟨g1, 2, none⟩ = some v ∧ V.frozen? ⟨g1, 0, none⟩ = false ∧ V.frozen? ⟨g1, 1, none⟩ = false ∧ V.frozen? ⟨g1, 2, none⟩ = false := ⟨blkc h.tw 0, blkc h.tw 1, blkc h.tw 2, blkf h.tw 0, blkf h.tw 1, blkf h.tw 2⟩
theorem TwI.boxes {W V : World} {b : Nat} {T : ByteArray} {g0 g1 q : Nat} {r o : Int} {v : Value} (h : TwI W b T g0 g1 V q r o v) : V.cell? ⟨g0, 0, none⟩ = some (.int .i64 0) ∧ V.cell? ⟨g0, 1, none⟩ = some (.int .i64 0) ∧ V.cell? ⟨g0, 2, none⟩ = some .nilIface ∧ V.frozen? ⟨g0, 0, none⟩ = false ∧ V.frozen? ⟨g0, 1, none⟩ = false ∧ V.frozen? ⟨g0, 2, none⟩ = false := ⟨blkc h.box 0, blkc h.box 1, blkc h.box 2, blkf h.box 0, blkf h.box 1, blkf h.box 2⟩
theorem TwI.fin {W V : World} {b : Nat} {T : ByteArray} {g0 g1 q : Nat} {r o : Int} {v : Value} (h : TwI W b T g0 g1 V q r o v) (y0 y1 y2 : Value) :
    PsAt (((V.setCell ⟨g0, 0, none⟩ y0).setCell ⟨g0, 1, none⟩ y1).setCell ⟨g0, 2, none⟩ y2) b T q ∧ W.grownBy (((V.setCell ⟨g0, 0, none⟩ y0).setCell ⟨g0, 1, none⟩ y1).setCell ⟨g0, 2, none⟩ y2) (some b) ∧ (((V.setCell ⟨g0, 0, none⟩ y0).setCell ⟨g0, 1, none⟩ y1).setCell ⟨g0, 2, none⟩ y2).heap[g0]? = some (.cells #[y0, y1, y2] 71) := by
  have n1 : b ≠ g0 := fun e => by have := h.le0; have := h.lt; omega
  have ho : ∀ x, x ≠ g0 → (((V.setCell ⟨g0, 0, none⟩ y0).setCell ⟨g0, 1, none⟩ y1).setCell ⟨g0, 2, none⟩ y2).heap[x]? = V.heap[x]? := fun x hx => by
    rw [heap_set_other _ _ _ _ _ hx, heap_set_other _ _ _ _ _ hx, heap_set_other _ _ _ _ _ hx]
  refine ⟨(ho b n1).trans h.ps, ⟨h.gr.os, h.gr.tape, h.gr.output, by have := h.gr.size; simpa using this, fun x hx hne => (ho x (by have := h.le0; omega)).trans (h.gr.block x hx hne)⟩, ?_⟩
  have h1 := blk_setk (blk_setk (blk_setk h.box 0 y0) 1 y1) 2 y2
  simpa using h1
set_option maxHeartbeats 8000000 in
theorem twig_must (W : World) (b : Nat) (T f tx : ByteArray) (p p2 p3 p4 : Nat) (bo : Int) (h : PsAt W b T p) (hTb : ∀ V, W.grownBy V (some b) → Tabs V)
    (k1 : StepP 81 #[.int .u8 43] b T p (.bool true) (p + 1))
    (k2 : StepP 83 #[] b T (p + 1) (.string f) p2)
    (k3 : StepP 82 #[.string f] b T p2 (.tuple #[(.iface 192 (.agg #[.string f, .string tx])), .nilIface]) p3)
    (k4 : StepP 81 #[.int .u8 94] b T p3 (.bool true) (p3 + 1))
    (k5 : StepP 84 #[] b T (p3 + 1) (.tuple #[.int .i64 bo, .nilIface]) p4)
    (hff : f = ⟨#[]⟩ ∨ f = ⟨#[102, 49]⟩) (hbo : 1 ≤ bo ∧ bo ≤ 99) (h1 : 1 ≤ tx.size) (h2 : tx.size ≤ 64) (hv : validB tx = true) :
    Calls Tryz.prog 71 #[.pointer (some ⟨b, 0, none⟩)] W (PsR W b T (.tuple #[.agg #[.int .i64 1, .int .i64 bo, (.iface 192 (.agg #[.string f, .string tx]))], .nilIface]) p4) := by
  have K1 := hidd k1
  have K2 := hidd k2
  have K3 := hidd k3
  have K4 := hidd k4
  have K5 := hidd k5
  have KV : Hid (∀ V, Tabs V → Calls Tryz.prog 85 #[.agg #[.int .i64 1, .int .i64 bo, (.iface 192 (.agg #[.string f, .string tx]))]] V fun e w' => e = .returned (.bool true) ∧ Below V.heap.size V w') := fun V hV => twigValid_yes 1 bo f tx hff V hV ⟨by omega, by omega⟩ hbo h1 h2 hv
  have HTb := hidd hTb
  have H := hidd h
  obtain ⟨c0, c1, f1⟩ := h.cell
  have hlt := h.lt
  clear k1 k2 k3 k4 k5 hTb h hff hbo h1 h2 hv
  go_enter Tryz.func71, Tryz.ntmps71
  go_upto_region 1 with fail
  have HB0 : Hid (Below W.heap.size W (W.alloc (.cells #[.int .i64 0, .int .i64 0, .nilIface] 71))) := (Below.refl _ _).alloc (Nat.le_refl _) _
  have HN0 := hidd (heap_alloc_new W (.cells #[.int .i64 0, .int .i64 0, .nilIface] 71))
  have Hsz : Hid (W.heap.size < (W.alloc (.cells #[.int .i64 0, .int .i64 0, .nilIface] 71)).heap.size) := hidd (by simp)
  generalize W.alloc (.cells #[.int .i64 0, .int .i64 0, .nilIface] 71) = W1 at *
  have H1 := hidd (H.out.below HB0.out)
  obtain ⟨c0, c1, f1⟩ := H1.out.cell
  go_upto_region 3 with fail
  have I2 : Hid (TwI W b T W.heap.size W1.heap.size (W1.alloc (.cells #[.int .i64 0, .int .i64 1, .nilIface] 71)) p 0 1 .nilIface) := by
    have hb : Below W1.heap.size W1 (W1.alloc (.cells #[.int .i64 0, .int .i64 1, .nilIface] 71)) := (Below.refl _ _).alloc (Nat.le_refl _) _
    have hs := Hsz.out
    exact ⟨H1.out.below hb, blko HN0.out hb, heap_alloc_new W1 _, grown_belowP (HB0.out.trans (hb.mono HB0.out.size)) (some b), Nat.le_refl _, by omega, hlt, by omega⟩
  clear H H1 HB0 HN0 Hsz c0 c1 f1
  obtain ⟨g0, hg0⟩ : ∃ g, W.heap.size = g := ⟨_, rfl⟩
  obtain ⟨g1, hg1⟩ : ∃ g, W1.heap.size = g := ⟨_, rfl⟩
  rw [hg0, hg1] at I2
  simp only [hg0, hg1]
  clear hg0 hg1
  generalize W1.alloc (.cells #[.int .i64 0, .int .i64 1, .nilIface] 71) = W2 at *
  go_wp2_with fail
  refine (K1.out _ I2.out.ps).mono ?_
  rintro e W3 ⟨rfl, h3, hg3⟩
  have I3 := hidd (I2.out.step h3 hg3)
  clear h3 hg3 I2
  obtain ⟨x0, x1, x2, y0, y1, y2⟩ := I3.out.cells
  go_wp2_with fail
  have I4 := hidd (I3.out.set (r' := 1) (o' := 1) (v' := .nilIface) 0 (.int .i64 1) rfl)
  clear I3 x0 x1 x2 y0 y1 y2
  generalize W3.setCell ⟨g1, 0, none⟩ (.int .i64 1) = W4 at *
  refine (K2.out _ I4.out.ps).mono ?_
  rintro e W5 ⟨rfl, h5, hg5⟩
  have I5 := hidd (I4.out.step h5 hg5)
  clear h5 hg5 I4
  go_wp2_with fail
  refine (K3.out _ I5.out.ps).mono ?_
  rintro e W6 ⟨rfl, h6, hg6⟩
  have I6 := hidd (I5.out.step h6 hg6)
  clear h6 hg6 I5
  obtain ⟨x0, x1, x2, y0, y1, y2⟩ := I6.out.cells
  go_wp2_with fail
  have I7 := hidd (I6.out.set (r' := 1) (o' := 1) (v' := (.iface 192 (.agg #[.string f, .string tx]))) 2 (.iface 192 (.agg #[.string f, .string tx])) rfl)
  clear I6 x0 x1 x2 y0 y1 y2
  generalize W6.setCell ⟨g1, 2, none⟩ (.iface 192 (.agg #[.string f, .string tx])) = W7 at *
  refine (K4.out _ I7.out.ps).mono ?_
  rintro e W8 ⟨rfl, h8, hg8⟩
  have I8 := hidd (I7.out.step h8 hg8)
  clear h8 hg8 I7
  go_wp2_with fail
  refine (K5.out _ I8.out.ps).mono ?_
  rintro e W9 ⟨rfl, h9, hg9⟩
  have I9 := hidd (I8.out.step h9 hg9)
  clear h9 hg9 I8
  obtain ⟨x0, x1, x2, y0, y1, y2⟩ := I9.out.cells
  go_upto_region 15 with fail
  have IA := hidd (I9.out.set (r' := 1) (o' := bo) (v' := (.iface 192 (.agg #[.string f, .string tx]))) 1 (.int .i64 bo) rfl)
  clear I9 x0 x1 x2 y0 y1 y2
  generalize W9.setCell ⟨g1, 1, none⟩ (.int .i64 bo) = WA at *
  obtain ⟨x0, x1, x2, y0, y1, y2⟩ := IA.out.cells
  go_wp2_with fail
  refine (KV.out _ (HTb.out _ IA.out.gr)).mono ?_
  rintro e WB ⟨rfl, hbB⟩
  have IB := hidd (IA.out.below hbB)
  clear hbB IA x0 x1 x2 y0 y1 y2
  obtain ⟨x0, x1, x2, y0, y1, y2⟩ := IB.out.cells
  obtain ⟨z0, z1, z2, u0, u1, u2⟩ := IB.out.boxes
  go_wp2
  have hfin := IB.out.fin (.int .i64 1) (.int .i64 bo) (.iface 192 (.agg #[.string f, .string tx]))
  generalize ((WB.setCell ⟨g0, 0, none⟩ (.int .i64 1)).setCell ⟨g0, 1, none⟩ (.int .i64 bo)).setCell ⟨g0, 2, none⟩ (.iface 192 (.agg #[.string f, .string tx])) = WC at *
  obtain ⟨hP, hG, hX⟩ := hfin
  clear IB x0 x1 x2 y0 y1 y2 z0 z1 z2 u0 u1 u2
  refine bodyPost_ret (v := .tuple #[.agg #[.int .i64 1, .int .i64 bo, .iface 192 (.agg #[.string f, .string tx])], .nilIface]) ?_ rfl ⟨rfl, hP, hG⟩
  rw [results_cell_tmp rfl]
  have z0 := blkc hX 0
  have z1 := blkc hX 1
  have z2 := blkc hX 2
  simp only [List.getElem?_toArray, List.getElem?_cons_zero, List.getElem?_cons_succ] at z0 z1 z2
  have hld : (loadVar 71 ⟨g0, 0, none⟩).run Tryz.prog WC = .ok (.agg #[.int .i64 1, .int .i64 bo, .iface 192 (.agg #[.string f, .string tx])]) WC := by
    go_simp
  simp [asAddr, Result.andThen, hld]
end Go.Proofs.YtpdiaddgialanaaGreatDoor
