import Derived.Test.YtpdiaddgialanaaGreatDoorFwC
namespace Go.Proofs.YtpdiaddgialanaaGreatDoor
open Go Go.RowKit
set_option linter.unusedVariables false
set_option linter.unusedSimpArgs false
set_option maxRecDepth 100000

/-! What makes a twig with a term valid. -/
set_option maxHeartbeats 2000000 in
theorem termOK_yes (s : ByteArray) (w : World) (hT : Tabs w) (h1 : 1 ≤ s.size) (h2 : s.size ≤ 64) (hv : validB s = true) :
    Calls Tryz.prog 165 #[.string s] w fun e w' => e = .returned (.bool true) ∧ Below w.heap.size w w' := by
  have HV : Hid (∀ V, V = w → Calls Tryz.prog 53 #[.string s] V fun e w' => e = .returned (.bool true) ∧ Below w.heap.size w w') := fun V hV => by
    subst hV
    refine (valid_any s V (by omega) hT).mono ?_
    rintro e w' ⟨rfl, hb⟩
    exact ⟨by rw [hv], hb⟩
  clear hT hv
  go_enter Tryz.func165, Tryz.ntmps165
  go_wp2_with fail
  refine (within_tW _ _ _ _ ⟨by omega, by omega⟩).mono ?_
  rintro e w1 ⟨rfl, hw⟩
  obtain rfl := hw.symm
  go_wp2_with fail
  refine (HV.out _ rfl).mono ?_
  rintro e w2 ⟨rfl, hb⟩
  go_wp2
  go_ret
  exact ⟨rfl, hb⟩
set_option maxHeartbeats 2000000 in
theorem anyFieldOK_yes (f : ByteArray) (hff : f = ⟨#[]⟩ ∨ f = ⟨#[102, 49]⟩) (w : World) :
    Calls Tryz.prog 191 #[.string f] w fun e w' => e = .returned (.bool true) ∧ w' = w := by
  have HN : Hid (∀ V, Calls Tryz.prog 99 #[.string ⟨#[102, 49]⟩] V fun e w' => e = .returned (.bool true) ∧ w' = V) := fun V => by
    refine (nameOK_any ⟨#[102, 49]⟩ V (by decide)).mono ?_
    rintro e w' ⟨rfl, hb⟩
    exact ⟨by rw [show nmOK (lst ⟨#[102, 49]⟩) = true from by decide], hb⟩
  rcases hff with hf | hf
  · subst hf
    go_enter Tryz.func191, Tryz.ntmps191
    go_wp2
    go_ret
    exact ⟨rfl, rfl⟩
  · subst hf
    go_enter Tryz.func191, Tryz.ntmps191
    go_wp2_with fail
    refine (HN.out _).mono ?_
    rintro e w1 ⟨rfl, hw⟩
    obtain rfl := hw.symm
    go_wp2
    go_ret
    exact ⟨rfl, rfl⟩
set_option maxHeartbeats 2000000 in
theorem termValid_yes (f s : ByteArray) (hff : f = ⟨#[]⟩ ∨ f = ⟨#[102, 49]⟩) (w : World) (hT : Tabs w) (h1 : 1 ≤ s.size) (h2 : s.size ≤ 64) (hv : validB s = true) :
    Calls Tryz.prog 259 #[.agg #[.string f, .string s]] w fun e w' => e = .returned (.bool true) ∧ Below w.heap.size w w' := by
  have HF : Hid (∀ V, Calls Tryz.prog 191 #[.string f] V fun e w' => e = .returned (.bool true) ∧ w' = V) := fun V => anyFieldOK_yes f hff V
  have HO : Hid (∀ V, Tabs V → Calls Tryz.prog 165 #[.string s] V fun e w' => e = .returned (.bool true) ∧ Below V.heap.size V w') := fun V hV => termOK_yes s V hV h1 h2 hv
  have HT := hidd hT
  have hal : Below w.heap.size w (w.alloc (.cells #[.string f, .string s] 192)) := (Below.refl _ _).alloc (Nat.le_refl _) _
  have HB := hidd hal
  clear hT hff h1 h2 hv hal
  go_enter Tryz.func259, Tryz.ntmps259
  go_wp2_with fail
  refine (HF.out _).mono ?_
  rintro e w1 ⟨rfl, hw⟩
  obtain rfl := hw.symm
  go_wp2_with fail
  refine (HO.out _ (HT.out.below HB.out)).mono ?_
  rintro e w2 ⟨rfl, hb2⟩
  have HB2 := hidd (HB.out.trans (hb2.mono HB.out.size))
  clear hb2
  go_wp2
  go_ret
  exact ⟨rfl, HB2.out⟩
set_option maxHeartbeats 4000000 in
theorem twigValid_yes (role boost : Int) (f s : ByteArray) (hff : f = ⟨#[]⟩ ∨ f = ⟨#[102, 49]⟩) (w : World) (hT : Tabs w) (hr : 0 ≤ role ∧ role ≤ 2) (hbo : 1 ≤ boost ∧ boost ≤ 99) (h1 : 1 ≤ s.size) (h2 : s.size ≤ 64) (hv : validB s = true) :
    Calls Tryz.prog 85 #[.agg #[.int .i64 role, .int .i64 boost, trmV f s]] w fun e w' => e = .returned (.bool true) ∧ Below w.heap.size w w' := by
  have HO : Hid (∀ V, Tabs V → Calls Tryz.prog 259 #[.agg #[.string f, .string s]] V fun e w' => e = .returned (.bool true) ∧ Below V.heap.size V w') := fun V hV => termValid_yes f s hff V hV h1 h2 hv
  have HT := hidd hT
  have hal : Below w.heap.size w (w.alloc (.cells #[.int .i64 role, .int .i64 boost, trmV f s] 71)) := (Below.refl _ _).alloc (Nat.le_refl _) _
  have HB := hidd hal
  clear hT hff h1 h2 hv hal
  unfold trmV at *
  go_enter Tryz.func85, Tryz.ntmps85
  go_wp2_with fail
  refine (within_tW _ _ _ _ hr).mono ?_
  rintro e w1 ⟨rfl, hw⟩
  obtain rfl := hw.symm
  go_wp2_with fail
  refine (within_tW _ _ _ _ hbo).mono ?_
  rintro e w1 ⟨rfl, hw⟩
  obtain rfl := hw.symm
  go_wp2_with fail
  refine (HO.out _ (HT.out.below HB.out)).mono ?_
  rintro e w2 ⟨rfl, hb2⟩
  have HB2 := hidd (HB.out.trans (hb2.mono HB.out.size))
  clear hb2
  go_wp2
  go_ret
  exact ⟨rfl, HB2.out⟩
end Go.Proofs.YtpdiaddgialanaaGreatDoor
