import Derived.Test.YtkgmghncpjhodabSkR
namespace Go.Proofs.Ytkgmghncpjhodab
open Go Go.RowKit
set_option linter.unusedVariables false
set_option linter.unusedSimpArgs false
set_option maxRecDepth 100000

/-! impl.SketchOK. -/
set_option maxHeartbeats 2000000 in
theorem implSkOK_any (v : Value) (zs : List Int) (w : World) (hl : zs.length ≤ 1048576) (hv : HoldI w v zs) :
    Calls Try.prog 9 #[.agg #[v]] w fun e w' => e = .returned (.bool (bOf (SkOK zs))) ∧ Below w.heap.size w w' := by
  have HV := hidd hv
  obtain ⟨ad, cap, rfl, -⟩ := hv
  have HBa : Hid (Below w.heap.size w (w.alloc (.cells #[.slice ad zs.length cap] 27))) := (Below.refl _ _).alloc (Nat.le_refl _) _
  go_enter Try.func9, Try.ntmps9
  go_wp2_with fail
  refine (ranks_any (.slice ad zs.length cap) zs _ hl (HV.out.below HBa.out)).mono ?_
  rintro e w1 ⟨rs, rfl, hrl, -, hb1⟩
  have HB1 := hidd (HBa.out.trans (hb1.mono HBa.out.size))
  have HRl := hidd hrl
  clear hrl hb1
  go_wp2_with (first | (refine rwpB_alloc rfl rfl ?_) | (refine rwpB_store rfl _ _ rfl w1.heap.size w1.heap.size rzeros rs rfl rfl HRl.out (rBlk.new (Nat.le_refl _) rzeros_length) ?_; intro W2 hR2 hg2; have HG2 := hidd hg2; clear hR2 hg2))
  have HB2 : Hid (Below w.heap.size w W2) := grown_b1 (HB1.out.alloc HB1.out.size _) (by have := HB1.out.size; simp; omega) HG2.out HB1.out.size
  go_ret
  exact ⟨rfl, HB2.out⟩
end Go.Proofs.Ytkgmghncpjhodab
