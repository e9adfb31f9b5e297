import Derived.Test.YtboocdiilbcdcaaDgI
namespace Go.Proofs.Ytboocdiilbcdcaa
open Go Go.RowKit
set_option linter.unusedVariables false
set_option linter.unusedSimpArgs false
set_option maxRecDepth 100000

/-! DigestAt on both sides. -/
noncomputable def datZ (s p c : Int) (zs : List Int) (t : Int) : Int × Int :=
  if dgB s p c zs = true then (if 0 ≤ t ∧ t ≤ 100 then (if c = 0 then (0, 8) else (zs.getD (t.toNat * (zs.length - 1) / 100) 0, 0)) else (0, 12)) else (0, 1)
theorem dat_nums (t n : Nat) (ht : t ≤ 100) (hn : 1 ≤ n) (hn2 : n ≤ 512) : ∃ n1 m X : Nat, (n : Int) - 1 = (n1 : Int) ∧ (t : Int) * (n1 : Int) = (m : Int) ∧ m ≤ 51200 ∧ (m : Int) / 100 = (X : Int) ∧ X < n ∧ t * (n - 1) / 100 = X := by
  refine ⟨n - 1, t * (n - 1), t * (n - 1) / 100, by omega, by rw [Int.natCast_mul], ?_, by simp, ?_, rfl⟩
  · exact Nat.le_trans (Nat.mul_le_mul ht (show n - 1 ≤ 512 by omega)) (by omega)
  · have h1 : t * (n - 1) ≤ 100 * (n - 1) := Nat.mul_le_mul_right _ ht
    omega
theorem dg_some {s p c : Int} {n : Nat} (h : DgHd s p c n) (hc : c ≠ 0) : 1 ≤ n := by
  obtain ⟨q1, q2, q3, q4, q5, q6, q7, q8, q9, q10⟩ := h
  have h1 : 1 ≤ (c + s - 1) / s := Int.le_ediv_of_mul_le (by omega) (by omega)
  omega
set_option maxHeartbeats 4000000 in
theorem implAt_any (s p c : Int) (u : Value) (zs : List Int) (t : Int) (w : World) (hl : zs.length ≤ 1048576) (hv : HoldI w u zs) :
    Calls Try.prog 14 #[.agg #[.int .i64 s, .int .i64 p, .int .i64 c, u], .int .i64 t] w fun e w' => e = .returned (.tuple #[.int .i64 (datZ s p c zs t).1, .int .i64 (datZ s p c zs t).2]) ∧ Below w.heap.size w w' := by
  have HOk : Hid (∀ (V : World), Below w.heap.size w V → Calls Try.prog 36 #[.agg #[.int .i64 s, .int .i64 p, .int .i64 c, u]] V fun e w' => e = .returned (.bool (dgB s p c zs)) ∧ Below V.heap.size V w') := fun V hV => implOK_any s p c u zs V hl (hv.below hV)
  obtain ⟨ad, cap, rfl, hz⟩ := hv
  have HZ := hidd hz
  clear hz
  obtain ⟨n, hn⟩ : ∃ n, zs.length = n := ⟨_, rfl⟩
  rw [hn] at hl HOk ⊢
  have HN := hidd hn
  clear hn
  have HBa : Hid (Below w.heap.size w (w.alloc (.cells #[.int .i64 s, .int .i64 p, .int .i64 c, .slice ad n cap] 27))) := (Below.refl _ _).alloc (Nat.le_refl _) _
  have HK : Hid ((w.alloc (.cells #[.int .i64 s, .int .i64 p, .int .i64 c, .slice ad n cap] 27)).heap[w.heap.size]? = some (.cells #[.int .i64 s, .int .i64 p, .int .i64 c, .slice ad n cap] 27)) := heap_alloc_new _ _
  cases hB : dgB s p c zs with
  | false =>
    have HR : Hid (datZ s p c zs t = (0, 1)) := by show _ = _; unfold datZ; rw [hB]; rfl
    rw [HR.out]
    have HC : Hid (∀ (V : World), Below w.heap.size w V → Calls Try.prog 36 #[.agg #[.int .i64 s, .int .i64 p, .int .i64 c, .slice ad n cap]] V fun e w' => e = .returned (.bool false) ∧ Below V.heap.size V w') := fun V hV => (HOk.out V hV).mono (fun e w' h => ⟨by rw [h.1, hB], h.2⟩)
    clear hB HOk
    go_enter Try.func14, Try.ntmps14
    go_wp2_with fail
    refine (HC.out _ HBa.out).mono ?_
    rintro e w1 ⟨rfl, hb1⟩
    have HB1 := hidd (HBa.out.trans (hb1.mono HBa.out.size))
    clear hb1
    go_wp2_with fail
    go_ret2
    exact ⟨rfl, HB1.out⟩
  | true =>
    have hd := dgB_ok hB
    have HDT := hidd hB
    have HHd : Hid (DgHd s p c n) := HN.out ▸ hd.1
    have hc0 : 0 ≤ c := hd.1.2.2.2.2.1
    have hn5 : n ≤ 512 := HHd.out.2.2.2.2.2.2.1
    have HC : Hid (∀ (V : World), Below w.heap.size w V → Calls Try.prog 36 #[.agg #[.int .i64 s, .int .i64 p, .int .i64 c, .slice ad n cap]] V fun e w' => e = .returned (.bool true) ∧ Below V.heap.size V w') := fun V hV => (HOk.out V hV).mono (fun e w' h => ⟨by rw [h.1, HDT.out], h.2⟩)
    clear hB HOk hd
    obtain ⟨R, hR⟩ : ∃ R, datZ s p c zs t = R := ⟨_, rfl⟩
    rw [hR]
    have HRR := hidd hR
    clear hR
    go_enter Try.func14, Try.ntmps14
    go_wp2_with fail
    refine (HC.out _ HBa.out).mono ?_
    rintro e w1 ⟨rfl, hb1⟩
    have HB1 := hidd (HBa.out.trans (hb1.mono HBa.out.size))
    have HK1 := hidd (blko HK.out hb1)
    clear hb1 HK HBa HC
    have x2 : w1.cell? ⟨w.heap.size, 2, none⟩ = some (.int .i64 c) := blkc HK1.out 2
    have x3 : w1.cell? ⟨w.heap.size, 3, none⟩ = some (.slice ad n cap) := blkc HK1.out 3
    by_cases htw : 0 ≤ t ∧ t ≤ 100
    · by_cases hc : c = 0
      · have HR : Hid (R = (0, 8)) := by show _ = _; rw [← HRR.out]; unfold datZ; rw [if_pos HDT.out, if_pos htw, if_pos hc]
        have t1 : ¬ t < 0 := by omega
        have t2 : ¬ 100 < t := by omega
        have hcb : (c == 0) = true := by simp [hc]
        clear hc
        go_wp2_with fail
        refine (within_t t _ _ _ htw).mono ?_
        rintro e w1' ⟨rfl, hw1⟩
        obtain rfl := hw1.symm
        clear hw1
        go_wp2_with fail
        go_ret2
        rw [HR.out]
        exact ⟨rfl, HB1.out⟩
      · have hn1 : 1 ≤ n := dg_some HHd.out hc
        have hcb : (c == 0) = false := by simp [hc]
        obtain ⟨t, rfl⟩ : ∃ a : Nat, t = (a : Int) := ⟨t.toNat, by omega⟩
        obtain ⟨n1, m, X, e1, e2, e3, e4, e5, e6⟩ := dat_nums t n (by omega) hn1 hn5
        have hXz : X < zs.length := by have := HN.out; omega
        have hXn : (X : Int) < (n : Int) := by omega
        obtain ⟨g, off, rfl, hg, hcl⟩ := HZ.out.resolve_left (fun h => by rw [h] at hXz; simp at hXz)
        have z1 := (HB1.out.cell (p := ⟨g, off + X, none⟩) hg).trans (hcl X hXz)
        have HR : Hid (R = (zs.getD X 0, 0)) := by show _ = _; rw [← HRR.out]; unfold datZ; rw [if_pos HDT.out, if_pos htw, if_neg hc, HN.out, Int.toNat_natCast, e6]
        generalize zs.getD X 0 = x at *
        have t1 : ¬ (t : Int) < 0 := by omega
        have t2 : ¬ (100 : Int) < (t : Int) := by omega
        clear hc hcl e6
        go_wp2_with fail
        refine (within_t (t : Int) _ _ _ htw).mono ?_
        rintro e w1' ⟨rfl, hw1⟩
        obtain rfl := hw1.symm
        clear hw1
        go_wp2_with fail
        go_ret2
        rw [HR.out]
        exact ⟨rfl, HB1.out⟩
    · have HR : Hid (R = (0, 12)) := by show _ = _; rw [← HRR.out]; unfold datZ; rw [if_pos HDT.out, if_neg htw]
      go_wp2_with fail
      refine (within_f t _ _ _ htw).mono ?_
      rintro e w1' ⟨rfl, hw1⟩
      obtain rfl := hw1.symm
      clear hw1
      go_wp2_with fail
      go_ret2
      rw [HR.out]
      exact ⟨rfl, HB1.out⟩
end Go.Proofs.Ytboocdiilbcdcaa
