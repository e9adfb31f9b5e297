import Derived.Test.YtpdiaddgialanaaGreatDoorFwM
namespace Go.Proofs.YtpdiaddgialanaaGreatDoor
open Go Go.RowKit
set_option linter.unusedVariables false
set_option linter.unusedSimpArgs false
set_option maxRecDepth 100000

/-! How deep a twig of two terms is. -/
/-- Two terms in a row. -/
def TwoAt (w : World) (g : Nat) (r o : Int) (f tx : ByteArray) (r' o' : Int) (f' tx' : ByteArray) : Prop :=
  (w.cell? ⟨g, 0, none⟩ = some (.int .i64 r) ∧ w.cell? ⟨g, 1, none⟩ = some (.int .i64 o) ∧ w.cell? ⟨g, 2, none⟩ = some (.iface 192 (.agg #[.string f, .string tx]))) ∧
  (w.cell? ⟨g, 3, none⟩ = some (.int .i64 r') ∧ w.cell? ⟨g, 4, none⟩ = some (.int .i64 o') ∧ w.cell? ⟨g, 5, none⟩ = some (.iface 192 (.agg #[.string f', .string tx'])))
theorem TwoAt.below {w w' : World} {g : Nat} {r o : Int} {f tx : ByteArray} {r' o' : Int} {f' tx' : ByteArray} (h : TwoAt w g r o f tx r' o' f' tx') (hb : Below w.heap.size w w') : TwoAt w' g r o f tx r' o' f' tx' := by
  obtain ⟨⟨a, b, c⟩, d, e, k⟩ := h
  exact ⟨⟨(hb.cell (cell_lt a)).trans a, (hb.cell (cell_lt b)).trans b, (hb.cell (cell_lt c)).trans c⟩, (hb.cell (cell_lt d)).trans d, (hb.cell (cell_lt e)).trans e, (hb.cell (cell_lt k)).trans k⟩
set_option maxHeartbeats 4000000 in
theorem depth_two (R O m : Int) (g cp : Nat) (r o : Int) (f tx : ByteArray) (r' o' : Int) (f' tx' : ByteArray) (w : World) (h : TwoAt w g r o f tx r' o' f' tx') :
    Calls Tryz.prog 57 #[.agg #[.int .i64 R, .int .i64 O, .iface 106 (.agg #[.slice (some ⟨g, 0, none⟩) 2 cp, .int .i64 m])]] w fun e w' => e = .returned (.int .i64 2) ∧ Below w.heap.size w w' := by
  have HB : Hid (Below w.heap.size w (w.alloc (.cells #[.int .i64 R, .int .i64 O, .iface 106 (.agg #[.slice (some ⟨g, 0, none⟩) 2 cp, .int .i64 m])] 71))) := (Below.refl _ _).alloc (Nat.le_refl _) _
  have H := hidd h
  clear h
  go_enter Tryz.func57, Tryz.ntmps57
  go_wp2_with fail
  refine (kids_bool R O m (some ⟨g, 0, none⟩) 2 cp _).mono ?_
  rintro e w1 ⟨rfl, hb⟩
  have HB1 := hidd (HB.out.trans (hb.mono HB.out.size))
  clear hb HB
  go_wp2_with fail
  refine wp_loop_rounds 3 ?_
  rw [rounds_succ]
  obtain ⟨⟨a0, a1, a2⟩, a3, a4, a5⟩ := H.out.below HB1.out
  go_wp2_with fail
  have hbA : Below w1.heap.size w1 (w1.alloc (.cells #[.int .i64 r, .int .i64 o, .iface 192 (.agg #[.string f, .string tx])] 71)) := (Below.refl _ _).alloc (Nat.le_refl _) _
  have HB2 := hidd (HB1.out.trans (hbA.mono HB1.out.size))
  clear a0 a1 a2 a3 a4 a5 hbA HB1
  generalize w1.alloc (.cells #[.int .i64 r, .int .i64 o, .iface 192 (.agg #[.string f, .string tx])] 71) = w2 at *
  refine (depth_term r o f tx _).mono ?_
  rintro e w3 ⟨rfl, hb⟩
  have HB3 := hidd (HB2.out.trans (hb.mono HB2.out.size))
  clear hb HB2
  go_wp2_with fail
  rw [rounds_succ]
  obtain ⟨⟨a0, a1, a2⟩, a3, a4, a5⟩ := H.out.below HB3.out
  go_wp2_with fail
  have hbA : Below w3.heap.size w3 (w3.alloc (.cells #[.int .i64 r', .int .i64 o', .iface 192 (.agg #[.string f', .string tx'])] 71)) := (Below.refl _ _).alloc (Nat.le_refl _) _
  have HB4 := hidd (HB3.out.trans (hbA.mono HB3.out.size))
  clear a0 a1 a2 a3 a4 a5 hbA HB3
  generalize w3.alloc (.cells #[.int .i64 r', .int .i64 o', .iface 192 (.agg #[.string f', .string tx'])] 71) = w4 at *
  refine (depth_term r' o' f' tx' _).mono ?_
  rintro e w5 ⟨rfl, hb⟩
  have HB5 := hidd (HB4.out.trans (hb.mono HB4.out.size))
  clear hb HB4
  go_wp2_with fail
  rw [rounds_succ]
  go_wp2
  go_ret
  exact ⟨rfl, HB5.out⟩
end Go.Proofs.YtpdiaddgialanaaGreatDoor
