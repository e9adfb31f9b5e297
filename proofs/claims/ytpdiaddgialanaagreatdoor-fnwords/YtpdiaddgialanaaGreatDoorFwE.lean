import Derived.Test.YtpdiaddgialanaaGreatDoorFwD
import Derived.ScopeJumps
namespace Go.Proofs.YtpdiaddgialanaaGreatDoor
open Go Go.RowKit
set_option linter.unusedVariables false
set_option linter.unusedSimpArgs false
set_option maxRecDepth 100000

/-! Which sign of a text comes first: a short text with letters beyond the first 128. -/
theorem jmp_retW {l : Nat} {J : Act → World → Prop} {Q : Exit → Act → World → Prop} {a : Act} {w : World} (h : Q .ret a w) : Exit.jump l J Q .ret a w := h
set_option maxHeartbeats 4000000 in
theorem sgRune_233 (w : World) : Calls Tryz.prog 106 #[.string sgB, .int .i32 233] w fun e w' => e = .returned (.int .i64 (-1)) ∧ Below w.heap.size w w' := by
  have HIx : Hid (∀ V, Calls Tryz.prog 112 #[.string ⟨#[41, 34, 58, 94, 126, 91, 93, 43, 45, 42, 63, 64, 92]⟩, .int .u8 169] V fun e w' => e = .returned (.int .i64 (-1)) ∧ w' = V) := fun V => (Tryz.strings_IndexByte ⟨#[41, 34, 58, 94, 126, 91, 93, 43, 45, 42, 63, 64, 92]⟩ 169 V).mono fun e w' ⟨e1, e2⟩ => ⟨by rw [e1]; rfl, e2⟩
  unfold sgB
  go_enter Tryz.func106, Tryz.ntmps106
  go_wp2_with fail
  refine (Tryz.utf8_ValidRune 233 w).mono ?_
  rintro e w1 ⟨rfl, hw⟩
  obtain rfl := hw.symm
  rw [show Lib.validRune 233 = true from by decide]
  have hcv : ∀ V, (convert 21 9 (.int .i32 233)).run Tryz.prog V = .ok (.string ⟨#[195, 169]⟩) V := fun V => by kernel_rfl
  go_wp2_with fail
  refine wp_scope_jumps 1 (fun _ _ => False) (fun _ _ => 0) rfl ?_ (fun _ _ h => h.elim)
  go_wp2_with fail
  refine wp_loop_rounds 1 ?_
  rw [rounds_succ]
  go_wp2_with fail
  first
    | refine wp_scope_jumps 0 (fun _ _ => False) (fun _ _ => 0) rfl ?_ (fun _ _ h => h.elim)
    | refine wp_scope_jumps 2 (fun _ _ => False) (fun _ _ => 0) rfl ?_ (fun _ _ h => h.elim)
  go_wp2_with fail
  go_quiet (fail)
  have HB2 : Hid (Below w.heap.size w (w.drewN nq)) := ⟨rfl, rfl, rfl, Nat.le_refl _, fun _ _ => rfl⟩
  generalize w.drewN nq = w2 at *
  go_wp2_with fail
  go_quiet ((go_at_call 112; refine Calls.quiet_of_same (HIx.out _)))
  have HB3 : Hid (Below w.heap.size w (w2.drewN nq)) := HB2.out.trans ⟨rfl, rfl, rfl, Nat.le_refl _, fun _ _ => rfl⟩
  go_wp2
  show bodyPost _ _ (fun e w' => e = .returned (.int .i64 (-1)) ∧ Below w.heap.size w w') .ret _ _
  go_ret
  exact ⟨rfl, HB3.out⟩
end Go.Proofs.YtpdiaddgialanaaGreatDoor
