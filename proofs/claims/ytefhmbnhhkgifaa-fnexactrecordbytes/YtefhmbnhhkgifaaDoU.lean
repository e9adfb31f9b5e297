import Derived.Test.YtefhmbnhhkgifaaDoR
namespace Go.Proofs.Ytefhmbnhhkgifaa
open Go Go.RowKit
set_option linter.unusedVariables false
set_option maxRecDepth 100000

set_option maxHeartbeats 2000000 in
theorem eqVal_any (f : List UInt8) (a1 a2 n1 n2 : Option Addr) (c1 c2 d1 d2 : Nat) (tx : List (List UInt8)) (nz : List Int) (w : World) (hxl : tx.length ≤ 1048576) (hnl : nz.length ≤ 1048576) (h1 : HoldTx w a1 tx) (h2 : HoldTx w a2 tx) (h3 : HoldZ w n1 nz) (h4 : HoldZ w n2 nz) :
    Calls Try.prog 47 #[.agg #[.string ⟨f.toArray⟩, .slice a1 tx.length c1, .slice n1 nz.length d1], .agg #[.string ⟨f.toArray⟩, .slice a2 tx.length c2, .slice n2 nz.length d2]] w fun e w' => e = .returned (.bool true) ∧ Below w.heap.size w w' := by
  have HBa : Hid (Below w.heap.size w ((w.alloc (.cells #[.string ⟨f.toArray⟩, .slice a1 tx.length c1, .slice n1 nz.length d1] 65)).alloc (.cells #[.string ⟨f.toArray⟩, .slice a2 tx.length c2, .slice n2 nz.length d2] 65))) := ((Below.refl _ _).alloc (Nat.le_refl _) _).alloc (by simp) _
  have HBx := hidd (box_two w (.cells #[.string ⟨f.toArray⟩, .slice a1 tx.length c1, .slice n1 nz.length d1] 65) (.cells #[.string ⟨f.toArray⟩, .slice a2 tx.length c2, .slice n2 nz.length d2] 65))
  have HE := hidd (fun W (hW : Below w.heap.size w W) => eqTx_any a1 a2 c1 c2 tx W hxl (h1.below hW) (h2.below hW))
  have HE2 := hidd (fun W (hW : Below w.heap.size w W) => eqNz_any n1 n2 d1 d2 nz W hnl (h3.below hW) (h4.below hW))
  clear h1 h2 h3 h4
  go_enter Try.func47, Try.ntmps47
  go_wp2_with fail
  refine (HE.out _ HBa.out).mono ?_
  rintro e w3 ⟨rfl, hb3⟩
  have HB3 := hidd (HBa.out.trans (hb3.mono HBa.out.size))
  have x2 := blkc (blko HBx.out.1 hb3) 2
  have y2 := blkc (blko HBx.out.2 hb3) 2
  clear hb3 HBx HE
  dsimp only
  go_wp2_with fail
  refine (HE2.out _ HB3.out).mono ?_
  rintro e w4 ⟨rfl, hb4⟩
  have HB4 := hidd (HB3.out.trans (hb4.mono HB3.out.size))
  clear hb4 x2 y2 HE2
  dsimp only
  go_wp2_with fail
  go_ret
  exact ⟨rfl, HB4.out⟩
set_option maxHeartbeats 4000000 in
theorem eqVals_any (a1 a2 : Option Addr) (c1 c2 : Nat) (V : List Vl) (w : World) (hn : V.length ≤ 1048576) (hA : ∀ i, (V.getD i vl0).1.length ≤ 1048576 ∧ (V.getD i vl0).2.1.length ≤ 1048576 ∧ (V.getD i vl0).2.2.length ≤ 1048576) (h1 : HoldV w a1 V) (h2 : HoldV w a2 V) :
    Calls Try.prog 40 #[.slice a1 V.length c1, .slice a2 V.length c2] w fun e w' => e = .returned (.bool true) ∧ Below w.heap.size w w' := by
  have H1 := hidd h1
  have H2 := hidd h2
  have HA := hidd hA
  clear h1 h2 hA
  go_enter Try.func40, Try.ntmps40
  go_wp2_with fail
  go_loopw [5] (fun iv wr => ∃ k : Nat, k ≤ V.length ∧ iv = .int .i64 (k : Int) ∧ Below w.heap.size w wr) (fun iv _ => V.length - (intOf iv).toNat)
  case atStart => exact ⟨0, Nat.zero_le _, rfl, Below.refl _ _⟩
  case round =>
    obtain ⟨k, hk, rfl, hbel⟩ := hrel
    have HB := hidd hbel
    clear hbel
    by_cases hlt : k < V.length
    · have hkz : (k : Int) < (V.length : Int) := by omega
      obtain ⟨b1, o1, rfl, hb1, hc1⟩ := (H1.out.below HB.out).resolve_left (fun h => by rw [h] at hlt; simp at hlt)
      obtain ⟨b2, o2, rfl, hb2, hc2⟩ := (H2.out.below HB.out).resolve_left (fun h => by rw [h] at hlt; simp at hlt)
      obtain ⟨x0, ⟨ai, ci, x1, hx⟩, mi, di, x2, hxz⟩ := hc1 k hlt
      obtain ⟨y0, ⟨aj, cj, y1, hy⟩, mj, dj, y2, hyz⟩ := hc2 k hlt
      clear hc1 hc2
      have hal := HA.out k
      generalize V.getD k vl0 = s at *
      obtain ⟨f, tx, nz⟩ := s
      dsimp only at x0 x1 x2 y0 y1 y2 hx hy hxz hyz hal
      have hbd := below_drewN (Below.refl wr.heap.size wr) 1
      have HC : Hid (Calls Try.prog 47 #[.agg #[.string ⟨f.toArray⟩, .slice ai tx.length ci, .slice mi nz.length di], .agg #[.string ⟨f.toArray⟩, .slice aj tx.length cj, .slice mj nz.length dj]] wr.drew fun e w' => e = .returned (.bool true) ∧ Below wr.drew.heap.size wr.drew w') := eqVal_any f ai aj mi mj ci cj di dj tx nz wr.drew hal.2.1 hal.2.2 (hx.below hbd) (hy.below hbd) (hxz.below hbd) (hyz.below hbd)
      clear hx hy hxz hyz hal hbd
      go_wp2_with fail
      go_region_with (go_at_call 47; refine HC.out.mono ?_; rintro e' w3 ⟨rfl, hb3⟩)
      all_goals
        go_wp2_with fail
        go_roundw
        · exact ⟨k + 1, by omega, by go_num, HB.out.trans ((below_drewN (Below.refl _ _) 1).trans hb3 |>.mono HB.out.size)⟩
        · simp [intOf]; omega
    · have hkz : ¬ (k : Int) < (V.length : Int) := by omega
      go_wp2_with fail
      go_ret
      exact ⟨rfl, HB.out⟩
set_option maxHeartbeats 2000000 in
theorem eqDoc_any (id : List UInt8) (a1 a2 : Option Addr) (c1 c2 : Nat) (V : List Vl) (w : World) (hn : V.length ≤ 1048576) (hA : ∀ i, (V.getD i vl0).1.length ≤ 1048576 ∧ (V.getD i vl0).2.1.length ≤ 1048576 ∧ (V.getD i vl0).2.2.length ≤ 1048576) (h1 : HoldV w a1 V) (h2 : HoldV w a2 V) :
    Calls Try.prog 22 #[.agg #[.string ⟨id.toArray⟩, .slice a1 V.length c1], .agg #[.string ⟨id.toArray⟩, .slice a2 V.length c2]] w fun e w' => e = .returned (.bool true) ∧ Below w.heap.size w w' := by
  have HBa : Hid (Below w.heap.size w ((w.alloc (.cells #[.string ⟨id.toArray⟩, .slice a1 V.length c1] 33)).alloc (.cells #[.string ⟨id.toArray⟩, .slice a2 V.length c2] 33))) := ((Below.refl _ _).alloc (Nat.le_refl _) _).alloc (by simp) _
  have HE := hidd (eqVals_any a1 a2 c1 c2 V _ hn hA (h1.below HBa.out) (h2.below HBa.out))
  clear h1 h2 hA
  go_enter Try.func22, Try.ntmps22
  go_wp2_with fail
  refine HE.out.mono ?_
  rintro e w3 ⟨rfl, hb3⟩
  have HB3 := hidd (HBa.out.trans (hb3.mono HBa.out.size))
  clear hb3 HE
  dsimp only
  go_wp2_with fail
  go_ret
  exact ⟨rfl, HB3.out⟩
end Go.Proofs.Ytefhmbnhhkgifaa
