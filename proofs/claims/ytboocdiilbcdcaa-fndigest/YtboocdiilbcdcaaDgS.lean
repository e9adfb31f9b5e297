import Derived.Test.YtboocdiilbcdcaaDgAd
import Derived.Test.YtboocdiilbcdcaaWithin
import Derived.Test.YtboocdiilbcdcaaRgB
namespace Go.Proofs.Ytboocdiilbcdcaa
open Go Go.RowKit
set_option linter.unusedVariables false
set_option linter.unusedSimpArgs false
set_option maxRecDepth 100000

/-! spec.DigestOK. -/
theorem num_t (x : Int) (w : World) (h : 0 ≤ x ∧ x ≤ 4611686018427387903) : Calls Try.prog 38 #[.int .i64 x] w fun e w' => e = .returned (.bool true) ∧ w' = w := by
  have h1 : x ≥ 0 := h.1
  have h2 := h.2
  have h3 : 0 ≤ x := h.1
  clear h
  go_enter Try.func38, Try.ntmps38
  go_wp2
  go_ret
  exact ⟨rfl, rfl⟩
theorem num_f (x : Int) (w : World) (h : ¬ (0 ≤ x ∧ x ≤ 4611686018427387903)) : Calls Try.prog 38 #[.int .i64 x] w fun e w' => e = .returned (.bool false) ∧ w' = w := by
  by_cases h3 : 0 ≤ x
  · have h2 : ¬ x ≤ 4611686018427387903 := fun e => h ⟨h3, e⟩
    have h1 : x ≥ 0 := h3
    clear h
    go_enter Try.func38, Try.ntmps38
    go_wp2
    go_ret
    exact ⟨rfl, rfl⟩
  · have h1 : ¬ x ≥ 0 := h3
    clear h
    go_enter Try.func38, Try.ntmps38
    go_wp2
    go_ret
    exact ⟨rfl, rfl⟩
theorem exec_pick (W : World) (ρ : Operand → Value) (o : Oper) (c x y : Operand) (ho : o.op = .pick c x y) (b : Bool) (hc : ρ c = .bool b) (v : Value) (hv : (if b then ρ x else ρ y) = v) : (execOp ρ o).run Try.prog W = .ok (.value v) W := by
  unfold execOp
  simp only [ho, hc, asBool, Sem.run_bind, Sem.run_pure, Result.andThen_ok, hv]
theorem exec_idxI (W : World) (ρ : Operand → Value) (o : Oper) (x y : Operand) (ho : o.op = .indexAddr 23 x y) (g off X len c : Nat) (hx : ρ x = .slice (some ⟨g, off, none⟩) len c) (hy : ρ y = .int .i64 (X : Int)) (h : X < len) :
    (execOp ρ o).run Try.prog W = .ok (.value (.pointer (some ⟨g, off + X, none⟩))) W := by
  have h1 : (0 : Int) ≤ (X : Int) := by omega
  have h2 : (X : Int) < (len : Int) := by omega
  unfold execOp
  simp only [ho, hx, hy, Sem.run_bind, Sem.run_pure, Result.andThen_ok]
  go_simp
theorem exec_gtr (W : World) (ρ : Operand → Value) (o : Oper) (x y : Operand) (ho : o.op = .binOp .gtr 3 x y 3) (X Y : Int) (b : Bool) (hx : ρ x = .int .i64 X) (hy : ρ y = .int .i64 Y) (h : decide (Y < X) = b) :
    (execOp ρ o).run Try.prog W = .ok (.value (.bool b)) W := by
  subst h
  unfold execOp
  simp only [ho, hx, hy, Sem.run_bind, Sem.run_pure, Result.andThen_ok]
  go_simp
set_option maxHeartbeats 4000000 in
theorem specOK_any (s p c : Int) (v : Value) (zs : List Int) (w : World) (hl : zs.length ≤ 1048576) (hv : HoldI w v zs) :
    Calls Try.prog 12 #[.agg #[.int .i64 s, .int .i64 p, .int .i64 c, v]] w fun e w' => e = .returned (.bool (dgB s p c zs)) ∧ Below w.heap.size w w' := by
  obtain ⟨ad, cap, rfl, hz⟩ := hv
  have HZ := hidd hz
  clear hz
  obtain ⟨n, hn⟩ : ∃ n, zs.length = n := ⟨_, rfl⟩
  rw [hn] at hl ⊢
  have HN := hidd hn
  clear hn
  have HBa : Hid (Below w.heap.size w (w.alloc (.cells #[.int .i64 s, .int .i64 p, .int .i64 c, .slice ad n cap] 27))) := (Below.refl _ _).alloc (Nat.le_refl _) _
  have HK : Hid ((w.alloc (.cells #[.int .i64 s, .int .i64 p, .int .i64 c, .slice ad n cap] 27)).heap[w.heap.size]? = some (.cells #[.int .i64 s, .int .i64 p, .int .i64 c, .slice ad n cap] 27)) := heap_alloc_new _ _
  by_cases h : 1 ≤ s ∧ s ≤ 4096 ∧ 1 ≤ p ∧ p ≤ 4096 ∧ 0 ≤ c ∧ c ≤ 4611686018427387903 ∧ n ≤ 512 ∧ (n : Int) ≤ c
  · obtain ⟨s, rfl⟩ : ∃ a : Nat, s = (a : Int) := ⟨s.toNat, by omega⟩
    obtain ⟨p, rfl⟩ : ∃ a : Nat, p = (a : Int) := ⟨p.toNat, by omega⟩
    obtain ⟨c, rfl⟩ : ∃ a : Nat, c = (a : Int) := ⟨c.toNat, by omega⟩
    obtain ⟨m, q, r, L, U, hm, hm2, hq, hr, hqc, hL1, hL0, hLe, hU⟩ := dg_nums s p c (by omega) (by omega) (by omega)
    have HI := hidd (dgHd_iff s p c n m L U (by omega) (by omega) (by omega) (by omega) (by omega) hm hLe hU)
    have hs1 : 1 ≤ s := by omega
    have hs2 : s ≤ 4096 := by omega
    have hp1 : 1 ≤ p := by omega
    have hp2 : p ≤ 4096 := by omega
    have hc2 : c ≤ 4611686018427387903 := by omega
    have hn2 : n ≤ 512 := by omega
    have hnc : n ≤ c := by omega
    have a1 : ¬ (s : Int) < 1 := by omega
    have a2 : ¬ (4096 : Int) < (s : Int) := by omega
    have a3 : ¬ (p : Int) < 1 := by omega
    have a4 : ¬ (4096 : Int) < (p : Int) := by omega
    have a5 : ¬ (512 : Int) < (n : Int) := by omega
    have a6 : ¬ (c : Int) < (n : Int) := by omega
    have hsn : (s : Int) ≠ 0 := by omega
    clear h hLe
    obtain ⟨W, hW⟩ : ∃ W, w.alloc (.cells #[.int .i64 s, .int .i64 p, .int .i64 c, .slice ad n cap] 27) = W := ⟨_, rfl⟩
    have x0 : W.cell? ⟨w.heap.size, 0, none⟩ = some (.int .i64 (s : Int)) := by rw [← hW]; exact blkc HK.out 0
    have x1 : W.cell? ⟨w.heap.size, 1, none⟩ = some (.int .i64 (p : Int)) := by rw [← hW]; exact blkc HK.out 1
    have x2 : W.cell? ⟨w.heap.size, 2, none⟩ = some (.int .i64 (c : Int)) := by rw [← hW]; exact blkc HK.out 2
    have x3 : W.cell? ⟨w.heap.size, 3, none⟩ = some (.slice ad n cap) := by rw [← hW]; exact blkc HK.out 3
    rw [hW] at HBa HK
    obtain ⟨B, hB⟩ : ∃ B, dgB (s : Int) (p : Int) (c : Int) zs = B := ⟨_, rfl⟩
    rw [hB]
    have HBB := hidd hB
    clear hB
    go_enter Try.func12, Try.ntmps12
    go_upto_region 1 with fail
    try rw [hW]
    clear hW
    go_wp2_with fail
    refine (num_t (c : Int) _ ⟨by omega, by omega⟩).mono ?_
    rintro e w1 ⟨rfl, hw1⟩
    obtain rfl := hw1.symm
    clear hw1
    go_upto_if 53 with fail
    go_cut [4] (fun lv wy => lv = .int .i64 (L : Int) ∧ wy = W)
    case first =>
      rcases (by omega : 0 < r ∨ r = 0) with hr0 | hr0
      · have hrz : (0 : Int) < (r : Int) := by omega
        have hLz : (q : Int) + 1 = (L : Int) := by have := hL1 hr0; omega
        have hrb : decide ((0 : Int) < (r : Int)) = true := decide_eq_true hrz
        clear hL1 hL0
        go_wp2_with fail
        go_meet
        case rel => exact ⟨by first | rfl | (rw [hLz]) | (go_num), rfl⟩
      · have hrz : ¬ (0 : Int) < (r : Int) := by omega
        have hLz : q = L := by have := hL0 hr0; omega
        have hrb : decide ((0 : Int) < (r : Int)) = false := decide_eq_false hrz
        have HLz := hidd hLz
        clear hL1 hL0 hLz hr0
        go_wp2_with fail
        go_meet
        case rel => exact ⟨by rw [HLz.out], rfl⟩
    case rest =>
      obtain ⟨rfl, hwc⟩ := hcut
      obtain rfl := hwc.symm
      clear hwc
      by_cases hnL : n < L
      · have hnz : (n : Int) < (L : Int) := by omega
        have HF : Hid (B = false) := HBB.out ▸ dgB_f (fun h => by have := HI.out.1 (HN.out ▸ h.1); omega)
        go_wp2_with fail
        go_ret
        rw [HF.out]
        exact ⟨rfl, HBa.out⟩
      by_cases hnU : U < n
      · have hnz : ¬ (n : Int) < (L : Int) := by omega
        have hnu : (U : Int) < (n : Int) := by omega
        have HF : Hid (B = false) := HBB.out ▸ dgB_f (fun h => by have := HI.out.1 (HN.out ▸ h.1); omega)
        go_wp2_with fail
        go_ret
        rw [HF.out]
        exact ⟨rfl, HBa.out⟩
      have HHd : Hid (DgHd (s : Int) (p : Int) (c : Int) zs.length) := by show DgHd _ _ _ _; rw [HN.out]; exact HI.out.2 ⟨by omega, by omega, by omega, by omega⟩
      have hnz : ¬ (n : Int) < (L : Int) := by omega
      have hnu : ¬ (U : Int) < (n : Int) := by omega
      go_wp2_with fail
      go_loopw [5] (fun iv wr => ∃ k : Nat, k ≤ n ∧ iv = .int .i64 (k : Int) ∧ (∀ i, i < k → NumZ (zs.getD i 0)) ∧ (∀ i, i + 1 < k → zs.getD i 0 ≤ zs.getD (i + 1) 0) ∧ Below W.heap.size W wr) (fun iv _ => n - (intOf iv).toNat)
      case atStart => exact ⟨0, Nat.zero_le _, rfl, fun i hi => absurd hi (by omega), fun i hi => absurd hi (by omega), Below.refl _ _⟩
      case round =>
        obtain ⟨k, hk, rfl, hp1', hp2', hbq⟩ := hrel
        have HP1 := hidd hp1'
        have HP2 := hidd hp2'
        have HBq := hidd hbq
        have HBw := hidd (HBa.out.trans (hbq.mono HBa.out.size))
        have y3 : wr.cell? ⟨w.heap.size, 3, none⟩ = some (.slice ad n cap) := (hbq.cell (p := ⟨w.heap.size, 3, none⟩) (cell_lt x3)).trans x3
        by_cases hkn : k < n
        · have hkz : (k : Int) < (n : Int) := by omega
          have hknz : k < zs.length := by have := HN.out; omega
          obtain ⟨g, off, rfl, hg, hc⟩ := HZ.out.resolve_left (fun h => by rw [h] at hknz; simp at hknz)
          have hgW : g < W.heap.size := Nat.lt_of_lt_of_le hg HBa.out.size
          have z1 : wr.cell? ⟨g, off + k, none⟩ = some (.int .i64 (zs.getD k 0)) := (HBw.out.cell (p := ⟨g, off + k, none⟩) hg).trans (hc k hknz)
          obtain ⟨x, hx⟩ : ∃ x, zs.getD k 0 = x := ⟨_, rfl⟩
          rw [hx] at z1
          have HX := hidd hx
          have HC := hidd hc
          clear hx hc hp1' hp2' hbq hnL hnU hnz hnu hqc x0 x1 x2 x3 hm hq hr hU a1 a2 a3 a4 a5 a6 hsn
          go_wp2_with fail
          by_cases b1 : x < -1000000000000
          · have hb1 : decide (x < -1000000000000) = true := decide_eq_true b1
            refine wp_region_held (S := fun u => u.cell? ⟨w.heap.size, 3, none⟩ = some (.slice (some ⟨g, off, none⟩) n cap) ∧ u.cell? ⟨g, off + k, none⟩ = some (.int .i64 x)) (by kernel_rfl) ?_
            have hbd : Below wr.heap.size wr ({ heap := wr.heap, tape := wr.tape, drawn := wr.drawn + 1, os := wr.os, output := wr.output } : World) := (Below.refl _ _).drew
            generalize ({ heap := wr.heap, tape := wr.tape, drawn := wr.drawn + 1, os := wr.os, output := wr.output } : World) = Wd at *
            have hSd : (fun u => u.cell? ⟨w.heap.size, 3, none⟩ = some (.slice (some ⟨g, off, none⟩) n cap) ∧ u.cell? ⟨g, off + k, none⟩ = some (.int .i64 x)) Wd := ⟨(hbd.cell (cell_lt y3)).trans y3, (hbd.cell (cell_lt z1)).trans z1⟩
            try simp only [Act.put, List.getElem_toArray, List.getElem_cons_succ, List.getElem_cons_zero, List.setIfInBounds_toArray, List.set_cons_zero, List.set_cons_succ]
            refine tkX 0 (hS := hSd) (h := ?_)
            try simp only [Act.put, List.getElem_toArray, List.getElem_cons_succ, List.getElem_cons_zero, List.setIfInBounds_toArray, List.set_cons_zero, List.set_cons_succ]
            refine tkX 1 (v := .slice (some ⟨g, off, none⟩) n cap) (hS := hSd) (h := ?_)
            try simp only [Act.put, List.getElem_toArray, List.getElem_cons_succ, List.getElem_cons_zero, List.setIfInBounds_toArray, List.set_cons_zero, List.set_cons_succ]
            refine tkX 2 (hS := hSd) (h := ?_)
            try simp only [Act.put, List.getElem_toArray, List.getElem_cons_succ, List.getElem_cons_zero, List.setIfInBounds_toArray, List.set_cons_zero, List.set_cons_succ]
            refine wpAnyH_take (i := 3) (v := .pointer (some ⟨g, off + k, none⟩)) rfl (by kernel_rfl) (by kernel_rfl) (by kernel_rfl) (fun _ _ _ h => h) (Or.inl ⟨by kernel_rfl, fun W hW => exec_idxI W _ _ _ _ rfl g off k n cap (by kernel_rfl) (by kernel_rfl) hkn⟩) hSd ?_
            try simp only [Act.put, List.getElem_toArray, List.getElem_cons_succ, List.getElem_cons_zero, List.setIfInBounds_toArray, List.set_cons_zero, List.set_cons_succ]
            refine tkX 4 (v := .int .i64 x) (hS := hSd) (h := ?_)
            try simp only [Act.put, List.getElem_toArray, List.getElem_cons_succ, List.getElem_cons_zero, List.setIfInBounds_toArray, List.set_cons_zero, List.set_cons_succ]
            refine tkX 5 (v := .bool true) (hS := hSd) (h := ?_)
            try simp only [Act.put, List.getElem_toArray, List.getElem_cons_succ, List.getElem_cons_zero, List.setIfInBounds_toArray, List.set_cons_zero, List.set_cons_succ]
            refine tkX 6 (hS := hSd) (h := ?_)
            try simp only [Act.put, List.getElem_toArray, List.getElem_cons_succ, List.getElem_cons_zero, List.setIfInBounds_toArray, List.set_cons_zero, List.set_cons_succ]
            refine tkS 7 (hS := hSd) (h := ?_)
            try simp only [Act.put, List.getElem_toArray, List.getElem_cons_succ, List.getElem_cons_zero, List.setIfInBounds_toArray, List.set_cons_zero, List.set_cons_succ]
            refine tkS 8 (hS := hSd) (h := ?_)
            try simp only [Act.put, List.getElem_toArray, List.getElem_cons_succ, List.getElem_cons_zero, List.setIfInBounds_toArray, List.set_cons_zero, List.set_cons_succ]
            refine tkS 9 (hS := hSd) (h := ?_)
            try simp only [Act.put, List.getElem_toArray, List.getElem_cons_succ, List.getElem_cons_zero, List.setIfInBounds_toArray, List.set_cons_zero, List.set_cons_succ]
            refine tkS 10 (hS := hSd) (h := ?_)
            try simp only [Act.put, List.getElem_toArray, List.getElem_cons_succ, List.getElem_cons_zero, List.setIfInBounds_toArray, List.set_cons_zero, List.set_cons_succ]
            refine tkS 11 (hS := hSd) (h := ?_)
            try simp only [Act.put, List.getElem_toArray, List.getElem_cons_succ, List.getElem_cons_zero, List.setIfInBounds_toArray, List.set_cons_zero, List.set_cons_succ]
            refine tkS 12 (hS := hSd) (h := ?_)
            try simp only [Act.put, List.getElem_toArray, List.getElem_cons_succ, List.getElem_cons_zero, List.setIfInBounds_toArray, List.set_cons_zero, List.set_cons_succ]
            refine wpAnyH_take (i := 13) (v := .bool true) rfl (by kernel_rfl) (by kernel_rfl) (by kernel_rfl) (fun _ _ _ h => h) (Or.inl ⟨by kernel_rfl, fun W hW => exec_pick W _ _ _ _ _ rfl true (by kernel_rfl) _ (by kernel_rfl)⟩) hSd ?_
            try simp only [Act.put, List.getElem_toArray, List.getElem_cons_succ, List.getElem_cons_zero, List.setIfInBounds_toArray, List.set_cons_zero, List.set_cons_succ]
            refine tkX 14 (hS := hSd) (h := ?_)
            try simp only [Act.put, List.getElem_toArray, List.getElem_cons_succ, List.getElem_cons_zero, List.setIfInBounds_toArray, List.set_cons_zero, List.set_cons_succ]
            refine tkS 15 (hS := hSd) (h := ?_)
            try simp only [Act.put, List.getElem_toArray, List.getElem_cons_succ, List.getElem_cons_zero, List.setIfInBounds_toArray, List.set_cons_zero, List.set_cons_succ]
            refine tkS 16 (hS := hSd) (h := ?_)
            try simp only [Act.put, List.getElem_toArray, List.getElem_cons_succ, List.getElem_cons_zero, List.setIfInBounds_toArray, List.set_cons_zero, List.set_cons_succ]
            refine tkS 17 (hS := hSd) (h := ?_)
            try simp only [Act.put, List.getElem_toArray, List.getElem_cons_succ, List.getElem_cons_zero, List.setIfInBounds_toArray, List.set_cons_zero, List.set_cons_succ]
            refine tkS 18 (hS := hSd) (h := ?_)
            try simp only [Act.put, List.getElem_toArray, List.getElem_cons_succ, List.getElem_cons_zero, List.setIfInBounds_toArray, List.set_cons_zero, List.set_cons_succ]
            refine tkS 19 (hS := hSd) (h := ?_)
            try simp only [Act.put, List.getElem_toArray, List.getElem_cons_succ, List.getElem_cons_zero, List.setIfInBounds_toArray, List.set_cons_zero, List.set_cons_succ]
            refine tkS 20 (hS := hSd) (h := ?_)
            try simp only [Act.put, List.getElem_toArray, List.getElem_cons_succ, List.getElem_cons_zero, List.setIfInBounds_toArray, List.set_cons_zero, List.set_cons_succ]
            refine tkS 21 (hS := hSd) (h := ?_)
            try simp only [Act.put, List.getElem_toArray, List.getElem_cons_succ, List.getElem_cons_zero, List.setIfInBounds_toArray, List.set_cons_zero, List.set_cons_succ]
            refine tkS 22 (hS := hSd) (h := ?_)
            try simp only [Act.put, List.getElem_toArray, List.getElem_cons_succ, List.getElem_cons_zero, List.setIfInBounds_toArray, List.set_cons_zero, List.set_cons_succ]
            refine tkS 23 (hS := hSd) (h := ?_)
            try simp only [Act.put, List.getElem_toArray, List.getElem_cons_succ, List.getElem_cons_zero, List.setIfInBounds_toArray, List.set_cons_zero, List.set_cons_succ]
            refine tkS 24 (hS := hSd) (h := ?_)
            try simp only [Act.put, List.getElem_toArray, List.getElem_cons_succ, List.getElem_cons_zero, List.setIfInBounds_toArray, List.set_cons_zero, List.set_cons_succ]
            refine tkS 25 (hS := hSd) (h := ?_)
            try simp only [Act.put, List.getElem_toArray, List.getElem_cons_succ, List.getElem_cons_zero, List.setIfInBounds_toArray, List.set_cons_zero, List.set_cons_succ]
            refine tkS 26 (hS := hSd) (h := ?_)
            try simp only [Act.put, List.getElem_toArray, List.getElem_cons_succ, List.getElem_cons_zero, List.setIfInBounds_toArray, List.set_cons_zero, List.set_cons_succ]
            refine tkS 27 (hS := hSd) (h := ?_)
            try simp only [Act.put, List.getElem_toArray, List.getElem_cons_succ, List.getElem_cons_zero, List.setIfInBounds_toArray, List.set_cons_zero, List.set_cons_succ]
            refine tkS 28 (hS := hSd) (h := ?_)
            try simp only [Act.put, List.getElem_toArray, List.getElem_cons_succ, List.getElem_cons_zero, List.setIfInBounds_toArray, List.set_cons_zero, List.set_cons_succ]
            refine tkS 29 (hS := hSd) (h := ?_)
            try simp only [Act.put, List.getElem_toArray, List.getElem_cons_succ, List.getElem_cons_zero, List.setIfInBounds_toArray, List.set_cons_zero, List.set_cons_succ]
            refine tkS 30 (hS := hSd) (h := ?_)
            try simp only [Act.put, List.getElem_toArray, List.getElem_cons_succ, List.getElem_cons_zero, List.setIfInBounds_toArray, List.set_cons_zero, List.set_cons_succ]
            refine wpAnyH_take (i := 31) (v := .bool true) rfl (by kernel_rfl) (by kernel_rfl) (by kernel_rfl) (fun _ _ _ h => h) (Or.inl ⟨by kernel_rfl, fun W hW => exec_pick W _ _ _ _ _ rfl true (by kernel_rfl) _ (by kernel_rfl)⟩) hSd ?_
            try simp only [Act.put, List.getElem_toArray, List.getElem_cons_succ, List.getElem_cons_zero, List.setIfInBounds_toArray, List.set_cons_zero, List.set_cons_succ]
            refine wpAnyH_done (by kernel_rfl) ?_ _
            clear hSd
            have HF : Hid (B = false) := HBB.out ▸ dgB_f (fun h => by have := (h.2.1 k hknz).1; rw [HX.out] at this; omega)
            go_wp2_with fail
            go_ret
            rw [HF.out]
            exact ⟨rfl, HBw.out.trans (hbd.mono HBw.out.size)⟩
          by_cases b2 : 1000000000000 < x
          · have hb1 : decide (x < -1000000000000) = false := decide_eq_false b1
            have hb2 : decide (1000000000000 < x) = true := decide_eq_true b2
            refine wp_region_held (S := fun u => u.cell? ⟨w.heap.size, 3, none⟩ = some (.slice (some ⟨g, off, none⟩) n cap) ∧ u.cell? ⟨g, off + k, none⟩ = some (.int .i64 x)) (by kernel_rfl) ?_
            have hbd : Below wr.heap.size wr ({ heap := wr.heap, tape := wr.tape, drawn := wr.drawn + 1, os := wr.os, output := wr.output } : World) := (Below.refl _ _).drew
            generalize ({ heap := wr.heap, tape := wr.tape, drawn := wr.drawn + 1, os := wr.os, output := wr.output } : World) = Wd at *
            have hSd : (fun u => u.cell? ⟨w.heap.size, 3, none⟩ = some (.slice (some ⟨g, off, none⟩) n cap) ∧ u.cell? ⟨g, off + k, none⟩ = some (.int .i64 x)) Wd := ⟨(hbd.cell (cell_lt y3)).trans y3, (hbd.cell (cell_lt z1)).trans z1⟩
            try simp only [Act.put, List.getElem_toArray, List.getElem_cons_succ, List.getElem_cons_zero, List.setIfInBounds_toArray, List.set_cons_zero, List.set_cons_succ]
            refine tkX 0 (hS := hSd) (h := ?_)
            try simp only [Act.put, List.getElem_toArray, List.getElem_cons_succ, List.getElem_cons_zero, List.setIfInBounds_toArray, List.set_cons_zero, List.set_cons_succ]
            refine tkX 1 (v := .slice (some ⟨g, off, none⟩) n cap) (hS := hSd) (h := ?_)
            try simp only [Act.put, List.getElem_toArray, List.getElem_cons_succ, List.getElem_cons_zero, List.setIfInBounds_toArray, List.set_cons_zero, List.set_cons_succ]
            refine tkX 2 (hS := hSd) (h := ?_)
            try simp only [Act.put, List.getElem_toArray, List.getElem_cons_succ, List.getElem_cons_zero, List.setIfInBounds_toArray, List.set_cons_zero, List.set_cons_succ]
            refine wpAnyH_take (i := 3) (v := .pointer (some ⟨g, off + k, none⟩)) rfl (by kernel_rfl) (by kernel_rfl) (by kernel_rfl) (fun _ _ _ h => h) (Or.inl ⟨by kernel_rfl, fun W hW => exec_idxI W _ _ _ _ rfl g off k n cap (by kernel_rfl) (by kernel_rfl) hkn⟩) hSd ?_
            try simp only [Act.put, List.getElem_toArray, List.getElem_cons_succ, List.getElem_cons_zero, List.setIfInBounds_toArray, List.set_cons_zero, List.set_cons_succ]
            refine tkX 4 (v := .int .i64 x) (hS := hSd) (h := ?_)
            try simp only [Act.put, List.getElem_toArray, List.getElem_cons_succ, List.getElem_cons_zero, List.setIfInBounds_toArray, List.set_cons_zero, List.set_cons_succ]
            refine tkX 5 (v := .bool false) (hS := hSd) (h := ?_)
            try simp only [Act.put, List.getElem_toArray, List.getElem_cons_succ, List.getElem_cons_zero, List.setIfInBounds_toArray, List.set_cons_zero, List.set_cons_succ]
            refine tkX 6 (hS := hSd) (h := ?_)
            try simp only [Act.put, List.getElem_toArray, List.getElem_cons_succ, List.getElem_cons_zero, List.setIfInBounds_toArray, List.set_cons_zero, List.set_cons_succ]
            refine tkX 7 (hS := hSd) (h := ?_)
            try simp only [Act.put, List.getElem_toArray, List.getElem_cons_succ, List.getElem_cons_zero, List.setIfInBounds_toArray, List.set_cons_zero, List.set_cons_succ]
            refine tkX 8 (v := .slice (some ⟨g, off, none⟩) n cap) (hS := hSd) (h := ?_)
            try simp only [Act.put, List.getElem_toArray, List.getElem_cons_succ, List.getElem_cons_zero, List.setIfInBounds_toArray, List.set_cons_zero, List.set_cons_succ]
            refine tkX 9 (hS := hSd) (h := ?_)
            try simp only [Act.put, List.getElem_toArray, List.getElem_cons_succ, List.getElem_cons_zero, List.setIfInBounds_toArray, List.set_cons_zero, List.set_cons_succ]
            refine wpAnyH_take (i := 10) (v := .pointer (some ⟨g, off + k, none⟩)) rfl (by kernel_rfl) (by kernel_rfl) (by kernel_rfl) (fun _ _ _ h => h) (Or.inl ⟨by kernel_rfl, fun W hW => exec_idxI W _ _ _ _ rfl g off k n cap (by kernel_rfl) (by kernel_rfl) hkn⟩) hSd ?_
            try simp only [Act.put, List.getElem_toArray, List.getElem_cons_succ, List.getElem_cons_zero, List.setIfInBounds_toArray, List.set_cons_zero, List.set_cons_succ]
            refine tkX 11 (v := .int .i64 x) (hS := hSd) (h := ?_)
            try simp only [Act.put, List.getElem_toArray, List.getElem_cons_succ, List.getElem_cons_zero, List.setIfInBounds_toArray, List.set_cons_zero, List.set_cons_succ]
            refine tkX 12 (v := .bool true) (hS := hSd) (h := ?_)
            try simp only [Act.put, List.getElem_toArray, List.getElem_cons_succ, List.getElem_cons_zero, List.setIfInBounds_toArray, List.set_cons_zero, List.set_cons_succ]
            refine wpAnyH_take (i := 13) (v := .bool true) rfl (by kernel_rfl) (by kernel_rfl) (by kernel_rfl) (fun _ _ _ h => h) (Or.inl ⟨by kernel_rfl, fun W hW => exec_pick W _ _ _ _ _ rfl false (by kernel_rfl) _ (by kernel_rfl)⟩) hSd ?_
            try simp only [Act.put, List.getElem_toArray, List.getElem_cons_succ, List.getElem_cons_zero, List.setIfInBounds_toArray, List.set_cons_zero, List.set_cons_succ]
            refine tkX 14 (hS := hSd) (h := ?_)
            try simp only [Act.put, List.getElem_toArray, List.getElem_cons_succ, List.getElem_cons_zero, List.setIfInBounds_toArray, List.set_cons_zero, List.set_cons_succ]
            refine tkS 15 (hS := hSd) (h := ?_)
            try simp only [Act.put, List.getElem_toArray, List.getElem_cons_succ, List.getElem_cons_zero, List.setIfInBounds_toArray, List.set_cons_zero, List.set_cons_succ]
            refine tkS 16 (hS := hSd) (h := ?_)
            try simp only [Act.put, List.getElem_toArray, List.getElem_cons_succ, List.getElem_cons_zero, List.setIfInBounds_toArray, List.set_cons_zero, List.set_cons_succ]
            refine tkS 17 (hS := hSd) (h := ?_)
            try simp only [Act.put, List.getElem_toArray, List.getElem_cons_succ, List.getElem_cons_zero, List.setIfInBounds_toArray, List.set_cons_zero, List.set_cons_succ]
            refine tkS 18 (hS := hSd) (h := ?_)
            try simp only [Act.put, List.getElem_toArray, List.getElem_cons_succ, List.getElem_cons_zero, List.setIfInBounds_toArray, List.set_cons_zero, List.set_cons_succ]
            refine tkS 19 (hS := hSd) (h := ?_)
            try simp only [Act.put, List.getElem_toArray, List.getElem_cons_succ, List.getElem_cons_zero, List.setIfInBounds_toArray, List.set_cons_zero, List.set_cons_succ]
            refine tkS 20 (hS := hSd) (h := ?_)
            try simp only [Act.put, List.getElem_toArray, List.getElem_cons_succ, List.getElem_cons_zero, List.setIfInBounds_toArray, List.set_cons_zero, List.set_cons_succ]
            refine tkS 21 (hS := hSd) (h := ?_)
            try simp only [Act.put, List.getElem_toArray, List.getElem_cons_succ, List.getElem_cons_zero, List.setIfInBounds_toArray, List.set_cons_zero, List.set_cons_succ]
            refine tkS 22 (hS := hSd) (h := ?_)
            try simp only [Act.put, List.getElem_toArray, List.getElem_cons_succ, List.getElem_cons_zero, List.setIfInBounds_toArray, List.set_cons_zero, List.set_cons_succ]
            refine tkS 23 (hS := hSd) (h := ?_)
            try simp only [Act.put, List.getElem_toArray, List.getElem_cons_succ, List.getElem_cons_zero, List.setIfInBounds_toArray, List.set_cons_zero, List.set_cons_succ]
            refine tkS 24 (hS := hSd) (h := ?_)
            try simp only [Act.put, List.getElem_toArray, List.getElem_cons_succ, List.getElem_cons_zero, List.setIfInBounds_toArray, List.set_cons_zero, List.set_cons_succ]
            refine tkS 25 (hS := hSd) (h := ?_)
            try simp only [Act.put, List.getElem_toArray, List.getElem_cons_succ, List.getElem_cons_zero, List.setIfInBounds_toArray, List.set_cons_zero, List.set_cons_succ]
            refine tkS 26 (hS := hSd) (h := ?_)
            try simp only [Act.put, List.getElem_toArray, List.getElem_cons_succ, List.getElem_cons_zero, List.setIfInBounds_toArray, List.set_cons_zero, List.set_cons_succ]
            refine tkS 27 (hS := hSd) (h := ?_)
            try simp only [Act.put, List.getElem_toArray, List.getElem_cons_succ, List.getElem_cons_zero, List.setIfInBounds_toArray, List.set_cons_zero, List.set_cons_succ]
            refine tkS 28 (hS := hSd) (h := ?_)
            try simp only [Act.put, List.getElem_toArray, List.getElem_cons_succ, List.getElem_cons_zero, List.setIfInBounds_toArray, List.set_cons_zero, List.set_cons_succ]
            refine tkS 29 (hS := hSd) (h := ?_)
            try simp only [Act.put, List.getElem_toArray, List.getElem_cons_succ, List.getElem_cons_zero, List.setIfInBounds_toArray, List.set_cons_zero, List.set_cons_succ]
            refine tkS 30 (hS := hSd) (h := ?_)
            try simp only [Act.put, List.getElem_toArray, List.getElem_cons_succ, List.getElem_cons_zero, List.setIfInBounds_toArray, List.set_cons_zero, List.set_cons_succ]
            refine wpAnyH_take (i := 31) (v := .bool true) rfl (by kernel_rfl) (by kernel_rfl) (by kernel_rfl) (fun _ _ _ h => h) (Or.inl ⟨by kernel_rfl, fun W hW => exec_pick W _ _ _ _ _ rfl true (by kernel_rfl) _ (by kernel_rfl)⟩) hSd ?_
            try simp only [Act.put, List.getElem_toArray, List.getElem_cons_succ, List.getElem_cons_zero, List.setIfInBounds_toArray, List.set_cons_zero, List.set_cons_succ]
            refine wpAnyH_done (by kernel_rfl) ?_ _
            clear hSd
            have HF : Hid (B = false) := HBB.out ▸ dgB_f (fun h => by have := (h.2.1 k hknz).2; rw [HX.out] at this; omega)
            go_wp2_with fail
            go_ret
            rw [HF.out]
            exact ⟨rfl, HBw.out.trans (hbd.mono HBw.out.size)⟩
          have hb1 : decide (x < -1000000000000) = false := decide_eq_false b1
          have hb2 : decide (1000000000000 < x) = false := decide_eq_false b2
          by_cases hk0 : k = 0
          · have HK0 := hidd hk0
            have hb3 : decide ((0 : Int) < (k : Int)) = false := decide_eq_false (by omega)
            clear hk0
            refine wp_region_held (S := fun u => u.cell? ⟨w.heap.size, 3, none⟩ = some (.slice (some ⟨g, off, none⟩) n cap) ∧ u.cell? ⟨g, off + k, none⟩ = some (.int .i64 x)) (by kernel_rfl) ?_
            have hbd : Below wr.heap.size wr ({ heap := wr.heap, tape := wr.tape, drawn := wr.drawn + 1, os := wr.os, output := wr.output } : World) := (Below.refl _ _).drew
            generalize ({ heap := wr.heap, tape := wr.tape, drawn := wr.drawn + 1, os := wr.os, output := wr.output } : World) = Wd at *
            have hSd : (fun u => u.cell? ⟨w.heap.size, 3, none⟩ = some (.slice (some ⟨g, off, none⟩) n cap) ∧ u.cell? ⟨g, off + k, none⟩ = some (.int .i64 x)) Wd := ⟨(hbd.cell (cell_lt y3)).trans y3, (hbd.cell (cell_lt z1)).trans z1⟩
            try simp only [Act.put, List.getElem_toArray, List.getElem_cons_succ, List.getElem_cons_zero, List.setIfInBounds_toArray, List.set_cons_zero, List.set_cons_succ]
            refine tkX 0 (hS := hSd) (h := ?_)
            try simp only [Act.put, List.getElem_toArray, List.getElem_cons_succ, List.getElem_cons_zero, List.setIfInBounds_toArray, List.set_cons_zero, List.set_cons_succ]
            refine tkX 1 (v := .slice (some ⟨g, off, none⟩) n cap) (hS := hSd) (h := ?_)
            try simp only [Act.put, List.getElem_toArray, List.getElem_cons_succ, List.getElem_cons_zero, List.setIfInBounds_toArray, List.set_cons_zero, List.set_cons_succ]
            refine tkX 2 (hS := hSd) (h := ?_)
            try simp only [Act.put, List.getElem_toArray, List.getElem_cons_succ, List.getElem_cons_zero, List.setIfInBounds_toArray, List.set_cons_zero, List.set_cons_succ]
            refine wpAnyH_take (i := 3) (v := .pointer (some ⟨g, off + k, none⟩)) rfl (by kernel_rfl) (by kernel_rfl) (by kernel_rfl) (fun _ _ _ h => h) (Or.inl ⟨by kernel_rfl, fun W hW => exec_idxI W _ _ _ _ rfl g off k n cap (by kernel_rfl) (by kernel_rfl) hkn⟩) hSd ?_
            try simp only [Act.put, List.getElem_toArray, List.getElem_cons_succ, List.getElem_cons_zero, List.setIfInBounds_toArray, List.set_cons_zero, List.set_cons_succ]
            refine tkX 4 (v := .int .i64 x) (hS := hSd) (h := ?_)
            try simp only [Act.put, List.getElem_toArray, List.getElem_cons_succ, List.getElem_cons_zero, List.setIfInBounds_toArray, List.set_cons_zero, List.set_cons_succ]
            refine tkX 5 (v := .bool false) (hS := hSd) (h := ?_)
            try simp only [Act.put, List.getElem_toArray, List.getElem_cons_succ, List.getElem_cons_zero, List.setIfInBounds_toArray, List.set_cons_zero, List.set_cons_succ]
            refine tkX 6 (hS := hSd) (h := ?_)
            try simp only [Act.put, List.getElem_toArray, List.getElem_cons_succ, List.getElem_cons_zero, List.setIfInBounds_toArray, List.set_cons_zero, List.set_cons_succ]
            refine tkX 7 (hS := hSd) (h := ?_)
            try simp only [Act.put, List.getElem_toArray, List.getElem_cons_succ, List.getElem_cons_zero, List.setIfInBounds_toArray, List.set_cons_zero, List.set_cons_succ]
            refine tkX 8 (v := .slice (some ⟨g, off, none⟩) n cap) (hS := hSd) (h := ?_)
            try simp only [Act.put, List.getElem_toArray, List.getElem_cons_succ, List.getElem_cons_zero, List.setIfInBounds_toArray, List.set_cons_zero, List.set_cons_succ]
            refine tkX 9 (hS := hSd) (h := ?_)
            try simp only [Act.put, List.getElem_toArray, List.getElem_cons_succ, List.getElem_cons_zero, List.setIfInBounds_toArray, List.set_cons_zero, List.set_cons_succ]
            refine wpAnyH_take (i := 10) (v := .pointer (some ⟨g, off + k, none⟩)) rfl (by kernel_rfl) (by kernel_rfl) (by kernel_rfl) (fun _ _ _ h => h) (Or.inl ⟨by kernel_rfl, fun W hW => exec_idxI W _ _ _ _ rfl g off k n cap (by kernel_rfl) (by kernel_rfl) hkn⟩) hSd ?_
            try simp only [Act.put, List.getElem_toArray, List.getElem_cons_succ, List.getElem_cons_zero, List.setIfInBounds_toArray, List.set_cons_zero, List.set_cons_succ]
            refine tkX 11 (v := .int .i64 x) (hS := hSd) (h := ?_)
            try simp only [Act.put, List.getElem_toArray, List.getElem_cons_succ, List.getElem_cons_zero, List.setIfInBounds_toArray, List.set_cons_zero, List.set_cons_succ]
            refine tkX 12 (v := .bool false) (hS := hSd) (h := ?_)
            try simp only [Act.put, List.getElem_toArray, List.getElem_cons_succ, List.getElem_cons_zero, List.setIfInBounds_toArray, List.set_cons_zero, List.set_cons_succ]
            refine wpAnyH_take (i := 13) (v := .bool false) rfl (by kernel_rfl) (by kernel_rfl) (by kernel_rfl) (fun _ _ _ h => h) (Or.inl ⟨by kernel_rfl, fun W hW => exec_pick W _ _ _ _ _ rfl false (by kernel_rfl) _ (by kernel_rfl)⟩) hSd ?_
            try simp only [Act.put, List.getElem_toArray, List.getElem_cons_succ, List.getElem_cons_zero, List.setIfInBounds_toArray, List.set_cons_zero, List.set_cons_succ]
            refine tkX 14 (hS := hSd) (h := ?_)
            try simp only [Act.put, List.getElem_toArray, List.getElem_cons_succ, List.getElem_cons_zero, List.setIfInBounds_toArray, List.set_cons_zero, List.set_cons_succ]
            refine tkX 15 (hS := hSd) (h := ?_)
            try simp only [Act.put, List.getElem_toArray, List.getElem_cons_succ, List.getElem_cons_zero, List.setIfInBounds_toArray, List.set_cons_zero, List.set_cons_succ]
            refine wpAnyH_take (i := 16) (v := .bool false) rfl (by kernel_rfl) (by kernel_rfl) (by kernel_rfl) (fun _ _ _ h => h) (Or.inl ⟨by kernel_rfl, fun W hW => exec_gtr W _ _ _ _ rfl (k : Int) 0 _ (by kernel_rfl) (by kernel_rfl) hb3⟩) hSd ?_
            try simp only [Act.put, List.getElem_toArray, List.getElem_cons_succ, List.getElem_cons_zero, List.setIfInBounds_toArray, List.set_cons_zero, List.set_cons_succ]
            refine tkX 17 (hS := hSd) (h := ?_)
            try simp only [Act.put, List.getElem_toArray, List.getElem_cons_succ, List.getElem_cons_zero, List.setIfInBounds_toArray, List.set_cons_zero, List.set_cons_succ]
            refine tkS 18 (hS := hSd) (h := ?_)
            try simp only [Act.put, List.getElem_toArray, List.getElem_cons_succ, List.getElem_cons_zero, List.setIfInBounds_toArray, List.set_cons_zero, List.set_cons_succ]
            refine tkS 19 (hS := hSd) (h := ?_)
            try simp only [Act.put, List.getElem_toArray, List.getElem_cons_succ, List.getElem_cons_zero, List.setIfInBounds_toArray, List.set_cons_zero, List.set_cons_succ]
            refine tkS 20 (hS := hSd) (h := ?_)
            try simp only [Act.put, List.getElem_toArray, List.getElem_cons_succ, List.getElem_cons_zero, List.setIfInBounds_toArray, List.set_cons_zero, List.set_cons_succ]
            refine tkS 21 (hS := hSd) (h := ?_)
            try simp only [Act.put, List.getElem_toArray, List.getElem_cons_succ, List.getElem_cons_zero, List.setIfInBounds_toArray, List.set_cons_zero, List.set_cons_succ]
            refine tkS 22 (hS := hSd) (h := ?_)
            try simp only [Act.put, List.getElem_toArray, List.getElem_cons_succ, List.getElem_cons_zero, List.setIfInBounds_toArray, List.set_cons_zero, List.set_cons_succ]
            refine tkS 23 (hS := hSd) (h := ?_)
            try simp only [Act.put, List.getElem_toArray, List.getElem_cons_succ, List.getElem_cons_zero, List.setIfInBounds_toArray, List.set_cons_zero, List.set_cons_succ]
            refine tkS 24 (hS := hSd) (h := ?_)
            try simp only [Act.put, List.getElem_toArray, List.getElem_cons_succ, List.getElem_cons_zero, List.setIfInBounds_toArray, List.set_cons_zero, List.set_cons_succ]
            refine tkS 25 (hS := hSd) (h := ?_)
            try simp only [Act.put, List.getElem_toArray, List.getElem_cons_succ, List.getElem_cons_zero, List.setIfInBounds_toArray, List.set_cons_zero, List.set_cons_succ]
            refine tkS 26 (hS := hSd) (h := ?_)
            try simp only [Act.put, List.getElem_toArray, List.getElem_cons_succ, List.getElem_cons_zero, List.setIfInBounds_toArray, List.set_cons_zero, List.set_cons_succ]
            refine tkS 27 (hS := hSd) (h := ?_)
            try simp only [Act.put, List.getElem_toArray, List.getElem_cons_succ, List.getElem_cons_zero, List.setIfInBounds_toArray, List.set_cons_zero, List.set_cons_succ]
            refine tkS 28 (hS := hSd) (h := ?_)
            try simp only [Act.put, List.getElem_toArray, List.getElem_cons_succ, List.getElem_cons_zero, List.setIfInBounds_toArray, List.set_cons_zero, List.set_cons_succ]
            refine tkS 29 (hS := hSd) (h := ?_)
            try simp only [Act.put, List.getElem_toArray, List.getElem_cons_succ, List.getElem_cons_zero, List.setIfInBounds_toArray, List.set_cons_zero, List.set_cons_succ]
            refine wpAnyH_take (i := 30) (v := .bool false) rfl (by kernel_rfl) (by kernel_rfl) (by kernel_rfl) (fun _ _ _ h => h) (Or.inl ⟨by kernel_rfl, fun W hW => exec_pick W _ _ _ _ _ rfl false (by kernel_rfl) _ (by kernel_rfl)⟩) hSd ?_
            try simp only [Act.put, List.getElem_toArray, List.getElem_cons_succ, List.getElem_cons_zero, List.setIfInBounds_toArray, List.set_cons_zero, List.set_cons_succ]
            refine wpAnyH_take (i := 31) (v := .bool false) rfl (by kernel_rfl) (by kernel_rfl) (by kernel_rfl) (fun _ _ _ h => h) (Or.inl ⟨by kernel_rfl, fun W hW => exec_pick W _ _ _ _ _ rfl false (by kernel_rfl) _ (by kernel_rfl)⟩) hSd ?_
            try simp only [Act.put, List.getElem_toArray, List.getElem_cons_succ, List.getElem_cons_zero, List.setIfInBounds_toArray, List.set_cons_zero, List.set_cons_succ]
            refine wpAnyH_done (by kernel_rfl) ?_ _
            clear hSd
            have HPn : Hid (∀ i, i < k + 1 → NumZ (zs.getD i 0)) := fun i hi => by
              rcases (by omega : i < k ∨ i = k) with h | rfl
              · exact HP1.out i h
              · rw [HX.out]; exact ⟨by omega, by omega⟩
            have HPs : Hid (∀ i, i + 1 < k + 1 → zs.getD i 0 ≤ zs.getD (i + 1) 0) := fun i hi => by
              rcases (by omega : i + 1 < k ∨ i + 1 = k) with h | h
              · exact HP2.out i h
              · have := HK0.out; omega
            go_wp2_with fail
            go_roundw
            case rel => exact ⟨k + 1, by omega, by go_num, HPn.out, HPs.out, HBq.out.trans (hbd.mono HBq.out.size)⟩
            case measure => simp [intOf]; omega
          obtain ⟨K, hK⟩ : ∃ K, k = K + 1 := ⟨k - 1, by omega⟩
          have hKn : K < n := by omega
          have hKz : K < zs.length := by have := HN.out; omega
          have hkK : (k : Int) - 1 = (K : Int) := by omega
          have hk1 : 0 < k := by omega
          have hwK : IntKind.i64.wrap (K : Int) = (K : Int) := by rw [IntKind.wrap_i64]; omega
          have hb3 : decide ((0 : Int) < (k : Int)) = true := decide_eq_true (by omega)
          have HKk := hidd hK
          clear hK
          have z2 : wr.cell? ⟨g, off + K, none⟩ = some (.int .i64 (zs.getD K 0)) := (HBw.out.cell (p := ⟨g, off + K, none⟩) hg).trans (HC.out K hKz)
          obtain ⟨y, hy⟩ : ∃ y, zs.getD K 0 = y := ⟨_, rfl⟩
          rw [hy] at z2
          have HY := hidd hy
          clear hy
          by_cases b3 : x < y
          · have hb4 : decide (x < y) = true := decide_eq_true b3
            refine wp_region_held (S := fun u => u.cell? ⟨w.heap.size, 3, none⟩ = some (.slice (some ⟨g, off, none⟩) n cap) ∧ u.cell? ⟨g, off + k, none⟩ = some (.int .i64 x) ∧ u.cell? ⟨g, off + K, none⟩ = some (.int .i64 y)) (by kernel_rfl) ?_
            have hbd : Below wr.heap.size wr ({ heap := wr.heap, tape := wr.tape, drawn := wr.drawn + 1, os := wr.os, output := wr.output } : World) := (Below.refl _ _).drew
            generalize ({ heap := wr.heap, tape := wr.tape, drawn := wr.drawn + 1, os := wr.os, output := wr.output } : World) = Wd at *
            have hSd : (fun u => u.cell? ⟨w.heap.size, 3, none⟩ = some (.slice (some ⟨g, off, none⟩) n cap) ∧ u.cell? ⟨g, off + k, none⟩ = some (.int .i64 x) ∧ u.cell? ⟨g, off + K, none⟩ = some (.int .i64 y)) Wd := ⟨(hbd.cell (cell_lt y3)).trans y3, (hbd.cell (cell_lt z1)).trans z1, (hbd.cell (cell_lt z2)).trans z2⟩
            try simp only [Act.put, List.getElem_toArray, List.getElem_cons_succ, List.getElem_cons_zero, List.setIfInBounds_toArray, List.set_cons_zero, List.set_cons_succ]
            refine tkX 0 (hS := hSd) (h := ?_)
            try simp only [Act.put, List.getElem_toArray, List.getElem_cons_succ, List.getElem_cons_zero, List.setIfInBounds_toArray, List.set_cons_zero, List.set_cons_succ]
            refine tkX 1 (v := .slice (some ⟨g, off, none⟩) n cap) (hS := hSd) (h := ?_)
            try simp only [Act.put, List.getElem_toArray, List.getElem_cons_succ, List.getElem_cons_zero, List.setIfInBounds_toArray, List.set_cons_zero, List.set_cons_succ]
            refine tkX 2 (hS := hSd) (h := ?_)
            try simp only [Act.put, List.getElem_toArray, List.getElem_cons_succ, List.getElem_cons_zero, List.setIfInBounds_toArray, List.set_cons_zero, List.set_cons_succ]
            refine wpAnyH_take (i := 3) (v := .pointer (some ⟨g, off + k, none⟩)) rfl (by kernel_rfl) (by kernel_rfl) (by kernel_rfl) (fun _ _ _ h => h) (Or.inl ⟨by kernel_rfl, fun W hW => exec_idxI W _ _ _ _ rfl g off k n cap (by kernel_rfl) (by kernel_rfl) hkn⟩) hSd ?_
            try simp only [Act.put, List.getElem_toArray, List.getElem_cons_succ, List.getElem_cons_zero, List.setIfInBounds_toArray, List.set_cons_zero, List.set_cons_succ]
            refine tkX 4 (v := .int .i64 x) (hS := hSd) (h := ?_)
            try simp only [Act.put, List.getElem_toArray, List.getElem_cons_succ, List.getElem_cons_zero, List.setIfInBounds_toArray, List.set_cons_zero, List.set_cons_succ]
            refine tkX 5 (v := .bool false) (hS := hSd) (h := ?_)
            try simp only [Act.put, List.getElem_toArray, List.getElem_cons_succ, List.getElem_cons_zero, List.setIfInBounds_toArray, List.set_cons_zero, List.set_cons_succ]
            refine tkX 6 (hS := hSd) (h := ?_)
            try simp only [Act.put, List.getElem_toArray, List.getElem_cons_succ, List.getElem_cons_zero, List.setIfInBounds_toArray, List.set_cons_zero, List.set_cons_succ]
            refine tkX 7 (hS := hSd) (h := ?_)
            try simp only [Act.put, List.getElem_toArray, List.getElem_cons_succ, List.getElem_cons_zero, List.setIfInBounds_toArray, List.set_cons_zero, List.set_cons_succ]
            refine tkX 8 (v := .slice (some ⟨g, off, none⟩) n cap) (hS := hSd) (h := ?_)
            try simp only [Act.put, List.getElem_toArray, List.getElem_cons_succ, List.getElem_cons_zero, List.setIfInBounds_toArray, List.set_cons_zero, List.set_cons_succ]
            refine tkX 9 (hS := hSd) (h := ?_)
            try simp only [Act.put, List.getElem_toArray, List.getElem_cons_succ, List.getElem_cons_zero, List.setIfInBounds_toArray, List.set_cons_zero, List.set_cons_succ]
            refine wpAnyH_take (i := 10) (v := .pointer (some ⟨g, off + k, none⟩)) rfl (by kernel_rfl) (by kernel_rfl) (by kernel_rfl) (fun _ _ _ h => h) (Or.inl ⟨by kernel_rfl, fun W hW => exec_idxI W _ _ _ _ rfl g off k n cap (by kernel_rfl) (by kernel_rfl) hkn⟩) hSd ?_
            try simp only [Act.put, List.getElem_toArray, List.getElem_cons_succ, List.getElem_cons_zero, List.setIfInBounds_toArray, List.set_cons_zero, List.set_cons_succ]
            refine tkX 11 (v := .int .i64 x) (hS := hSd) (h := ?_)
            try simp only [Act.put, List.getElem_toArray, List.getElem_cons_succ, List.getElem_cons_zero, List.setIfInBounds_toArray, List.set_cons_zero, List.set_cons_succ]
            refine tkX 12 (v := .bool false) (hS := hSd) (h := ?_)
            try simp only [Act.put, List.getElem_toArray, List.getElem_cons_succ, List.getElem_cons_zero, List.setIfInBounds_toArray, List.set_cons_zero, List.set_cons_succ]
            refine wpAnyH_take (i := 13) (v := .bool false) rfl (by kernel_rfl) (by kernel_rfl) (by kernel_rfl) (fun _ _ _ h => h) (Or.inl ⟨by kernel_rfl, fun W hW => exec_pick W _ _ _ _ _ rfl false (by kernel_rfl) _ (by kernel_rfl)⟩) hSd ?_
            try simp only [Act.put, List.getElem_toArray, List.getElem_cons_succ, List.getElem_cons_zero, List.setIfInBounds_toArray, List.set_cons_zero, List.set_cons_succ]
            refine tkX 14 (hS := hSd) (h := ?_)
            try simp only [Act.put, List.getElem_toArray, List.getElem_cons_succ, List.getElem_cons_zero, List.setIfInBounds_toArray, List.set_cons_zero, List.set_cons_succ]
            refine tkX 15 (hS := hSd) (h := ?_)
            try simp only [Act.put, List.getElem_toArray, List.getElem_cons_succ, List.getElem_cons_zero, List.setIfInBounds_toArray, List.set_cons_zero, List.set_cons_succ]
            refine wpAnyH_take (i := 16) (v := .bool true) rfl (by kernel_rfl) (by kernel_rfl) (by kernel_rfl) (fun _ _ _ h => h) (Or.inl ⟨by kernel_rfl, fun W hW => exec_gtr W _ _ _ _ rfl (k : Int) 0 _ (by kernel_rfl) (by kernel_rfl) hb3⟩) hSd ?_
            try simp only [Act.put, List.getElem_toArray, List.getElem_cons_succ, List.getElem_cons_zero, List.setIfInBounds_toArray, List.set_cons_zero, List.set_cons_succ]
            refine tkX 17 (hS := hSd) (h := ?_)
            try simp only [Act.put, List.getElem_toArray, List.getElem_cons_succ, List.getElem_cons_zero, List.setIfInBounds_toArray, List.set_cons_zero, List.set_cons_succ]
            refine tkX 18 (hS := hSd) (h := ?_)
            try simp only [Act.put, List.getElem_toArray, List.getElem_cons_succ, List.getElem_cons_zero, List.setIfInBounds_toArray, List.set_cons_zero, List.set_cons_succ]
            refine tkX 19 (v := .slice (some ⟨g, off, none⟩) n cap) (hS := hSd) (h := ?_)
            try simp only [Act.put, List.getElem_toArray, List.getElem_cons_succ, List.getElem_cons_zero, List.setIfInBounds_toArray, List.set_cons_zero, List.set_cons_succ]
            refine tkX 20 (hS := hSd) (h := ?_)
            try simp only [Act.put, List.getElem_toArray, List.getElem_cons_succ, List.getElem_cons_zero, List.setIfInBounds_toArray, List.set_cons_zero, List.set_cons_succ]
            refine wpAnyH_take (i := 21) (v := .pointer (some ⟨g, off + k, none⟩)) rfl (by kernel_rfl) (by kernel_rfl) (by kernel_rfl) (fun _ _ _ h => h) (Or.inl ⟨by kernel_rfl, fun W hW => exec_idxI W _ _ _ _ rfl g off k n cap (by kernel_rfl) (by kernel_rfl) hkn⟩) hSd ?_
            try simp only [Act.put, List.getElem_toArray, List.getElem_cons_succ, List.getElem_cons_zero, List.setIfInBounds_toArray, List.set_cons_zero, List.set_cons_succ]
            refine tkX 22 (v := .int .i64 x) (hS := hSd) (h := ?_)
            try simp only [Act.put, List.getElem_toArray, List.getElem_cons_succ, List.getElem_cons_zero, List.setIfInBounds_toArray, List.set_cons_zero, List.set_cons_succ]
            refine tkX 23 (hS := hSd) (h := ?_)
            try simp only [Act.put, List.getElem_toArray, List.getElem_cons_succ, List.getElem_cons_zero, List.setIfInBounds_toArray, List.set_cons_zero, List.set_cons_succ]
            refine tkX 24 (v := .slice (some ⟨g, off, none⟩) n cap) (hS := hSd) (h := ?_)
            try simp only [Act.put, List.getElem_toArray, List.getElem_cons_succ, List.getElem_cons_zero, List.setIfInBounds_toArray, List.set_cons_zero, List.set_cons_succ]
            refine tkX 25 (hS := hSd) (h := ?_)
            try simp only [Act.put, List.getElem_toArray, List.getElem_cons_succ, List.getElem_cons_zero, List.setIfInBounds_toArray, List.set_cons_zero, List.set_cons_succ]
            refine tkX 26 (v := .int .i64 (K : Int)) (hS := hSd) (h := ?_)
            try simp only [Act.put, List.getElem_toArray, List.getElem_cons_succ, List.getElem_cons_zero, List.setIfInBounds_toArray, List.set_cons_zero, List.set_cons_succ]
            refine wpAnyH_take (i := 27) (v := .pointer (some ⟨g, off + K, none⟩)) rfl (by kernel_rfl) (by kernel_rfl) (by kernel_rfl) (fun _ _ _ h => h) (Or.inl ⟨by kernel_rfl, fun W hW => exec_idxI W _ _ _ _ rfl g off K n cap (by kernel_rfl) (by kernel_rfl) hKn⟩) hSd ?_
            try simp only [Act.put, List.getElem_toArray, List.getElem_cons_succ, List.getElem_cons_zero, List.setIfInBounds_toArray, List.set_cons_zero, List.set_cons_succ]
            refine tkX 28 (v := .int .i64 y) (hS := hSd) (h := ?_)
            try simp only [Act.put, List.getElem_toArray, List.getElem_cons_succ, List.getElem_cons_zero, List.setIfInBounds_toArray, List.set_cons_zero, List.set_cons_succ]
            refine tkX 29 (v := .bool true) (hS := hSd) (h := ?_)
            try simp only [Act.put, List.getElem_toArray, List.getElem_cons_succ, List.getElem_cons_zero, List.setIfInBounds_toArray, List.set_cons_zero, List.set_cons_succ]
            refine wpAnyH_take (i := 30) (v := .bool true) rfl (by kernel_rfl) (by kernel_rfl) (by kernel_rfl) (fun _ _ _ h => h) (Or.inl ⟨by kernel_rfl, fun W hW => exec_pick W _ _ _ _ _ rfl true (by kernel_rfl) _ (by kernel_rfl)⟩) hSd ?_
            try simp only [Act.put, List.getElem_toArray, List.getElem_cons_succ, List.getElem_cons_zero, List.setIfInBounds_toArray, List.set_cons_zero, List.set_cons_succ]
            refine wpAnyH_take (i := 31) (v := .bool true) rfl (by kernel_rfl) (by kernel_rfl) (by kernel_rfl) (fun _ _ _ h => h) (Or.inl ⟨by kernel_rfl, fun W hW => exec_pick W _ _ _ _ _ rfl false (by kernel_rfl) _ (by kernel_rfl)⟩) hSd ?_
            try simp only [Act.put, List.getElem_toArray, List.getElem_cons_succ, List.getElem_cons_zero, List.setIfInBounds_toArray, List.set_cons_zero, List.set_cons_succ]
            refine wpAnyH_done (by kernel_rfl) ?_ _
            clear hSd
            have HF : Hid (B = false) := HBB.out ▸ dgB_f (fun h => by have := h.2.2 K (by rw [← HKk.out]; exact hknz); rw [← HKk.out, HX.out, HY.out] at this; omega)
            go_wp2_with fail
            go_ret
            rw [HF.out]
            exact ⟨rfl, HBw.out.trans (hbd.mono HBw.out.size)⟩
          · have hb4 : decide (x < y) = false := decide_eq_false b3
            refine wp_region_held (S := fun u => u.cell? ⟨w.heap.size, 3, none⟩ = some (.slice (some ⟨g, off, none⟩) n cap) ∧ u.cell? ⟨g, off + k, none⟩ = some (.int .i64 x) ∧ u.cell? ⟨g, off + K, none⟩ = some (.int .i64 y)) (by kernel_rfl) ?_
            have hbd : Below wr.heap.size wr ({ heap := wr.heap, tape := wr.tape, drawn := wr.drawn + 1, os := wr.os, output := wr.output } : World) := (Below.refl _ _).drew
            generalize ({ heap := wr.heap, tape := wr.tape, drawn := wr.drawn + 1, os := wr.os, output := wr.output } : World) = Wd at *
            have hSd : (fun u => u.cell? ⟨w.heap.size, 3, none⟩ = some (.slice (some ⟨g, off, none⟩) n cap) ∧ u.cell? ⟨g, off + k, none⟩ = some (.int .i64 x) ∧ u.cell? ⟨g, off + K, none⟩ = some (.int .i64 y)) Wd := ⟨(hbd.cell (cell_lt y3)).trans y3, (hbd.cell (cell_lt z1)).trans z1, (hbd.cell (cell_lt z2)).trans z2⟩
            try simp only [Act.put, List.getElem_toArray, List.getElem_cons_succ, List.getElem_cons_zero, List.setIfInBounds_toArray, List.set_cons_zero, List.set_cons_succ]
            refine tkX 0 (hS := hSd) (h := ?_)
            try simp only [Act.put, List.getElem_toArray, List.getElem_cons_succ, List.getElem_cons_zero, List.setIfInBounds_toArray, List.set_cons_zero, List.set_cons_succ]
            refine tkX 1 (v := .slice (some ⟨g, off, none⟩) n cap) (hS := hSd) (h := ?_)
            try simp only [Act.put, List.getElem_toArray, List.getElem_cons_succ, List.getElem_cons_zero, List.setIfInBounds_toArray, List.set_cons_zero, List.set_cons_succ]
            refine tkX 2 (hS := hSd) (h := ?_)
            try simp only [Act.put, List.getElem_toArray, List.getElem_cons_succ, List.getElem_cons_zero, List.setIfInBounds_toArray, List.set_cons_zero, List.set_cons_succ]
            refine wpAnyH_take (i := 3) (v := .pointer (some ⟨g, off + k, none⟩)) rfl (by kernel_rfl) (by kernel_rfl) (by kernel_rfl) (fun _ _ _ h => h) (Or.inl ⟨by kernel_rfl, fun W hW => exec_idxI W _ _ _ _ rfl g off k n cap (by kernel_rfl) (by kernel_rfl) hkn⟩) hSd ?_
            try simp only [Act.put, List.getElem_toArray, List.getElem_cons_succ, List.getElem_cons_zero, List.setIfInBounds_toArray, List.set_cons_zero, List.set_cons_succ]
            refine tkX 4 (v := .int .i64 x) (hS := hSd) (h := ?_)
            try simp only [Act.put, List.getElem_toArray, List.getElem_cons_succ, List.getElem_cons_zero, List.setIfInBounds_toArray, List.set_cons_zero, List.set_cons_succ]
            refine tkX 5 (v := .bool false) (hS := hSd) (h := ?_)
            try simp only [Act.put, List.getElem_toArray, List.getElem_cons_succ, List.getElem_cons_zero, List.setIfInBounds_toArray, List.set_cons_zero, List.set_cons_succ]
            refine tkX 6 (hS := hSd) (h := ?_)
            try simp only [Act.put, List.getElem_toArray, List.getElem_cons_succ, List.getElem_cons_zero, List.setIfInBounds_toArray, List.set_cons_zero, List.set_cons_succ]
            refine tkX 7 (hS := hSd) (h := ?_)
            try simp only [Act.put, List.getElem_toArray, List.getElem_cons_succ, List.getElem_cons_zero, List.setIfInBounds_toArray, List.set_cons_zero, List.set_cons_succ]
            refine tkX 8 (v := .slice (some ⟨g, off, none⟩) n cap) (hS := hSd) (h := ?_)
            try simp only [Act.put, List.getElem_toArray, List.getElem_cons_succ, List.getElem_cons_zero, List.setIfInBounds_toArray, List.set_cons_zero, List.set_cons_succ]
            refine tkX 9 (hS := hSd) (h := ?_)
            try simp only [Act.put, List.getElem_toArray, List.getElem_cons_succ, List.getElem_cons_zero, List.setIfInBounds_toArray, List.set_cons_zero, List.set_cons_succ]
            refine wpAnyH_take (i := 10) (v := .pointer (some ⟨g, off + k, none⟩)) rfl (by kernel_rfl) (by kernel_rfl) (by kernel_rfl) (fun _ _ _ h => h) (Or.inl ⟨by kernel_rfl, fun W hW => exec_idxI W _ _ _ _ rfl g off k n cap (by kernel_rfl) (by kernel_rfl) hkn⟩) hSd ?_
            try simp only [Act.put, List.getElem_toArray, List.getElem_cons_succ, List.getElem_cons_zero, List.setIfInBounds_toArray, List.set_cons_zero, List.set_cons_succ]
            refine tkX 11 (v := .int .i64 x) (hS := hSd) (h := ?_)
            try simp only [Act.put, List.getElem_toArray, List.getElem_cons_succ, List.getElem_cons_zero, List.setIfInBounds_toArray, List.set_cons_zero, List.set_cons_succ]
            refine tkX 12 (v := .bool false) (hS := hSd) (h := ?_)
            try simp only [Act.put, List.getElem_toArray, List.getElem_cons_succ, List.getElem_cons_zero, List.setIfInBounds_toArray, List.set_cons_zero, List.set_cons_succ]
            refine wpAnyH_take (i := 13) (v := .bool false) rfl (by kernel_rfl) (by kernel_rfl) (by kernel_rfl) (fun _ _ _ h => h) (Or.inl ⟨by kernel_rfl, fun W hW => exec_pick W _ _ _ _ _ rfl false (by kernel_rfl) _ (by kernel_rfl)⟩) hSd ?_
            try simp only [Act.put, List.getElem_toArray, List.getElem_cons_succ, List.getElem_cons_zero, List.setIfInBounds_toArray, List.set_cons_zero, List.set_cons_succ]
            refine tkX 14 (hS := hSd) (h := ?_)
            try simp only [Act.put, List.getElem_toArray, List.getElem_cons_succ, List.getElem_cons_zero, List.setIfInBounds_toArray, List.set_cons_zero, List.set_cons_succ]
            refine tkX 15 (hS := hSd) (h := ?_)
            try simp only [Act.put, List.getElem_toArray, List.getElem_cons_succ, List.getElem_cons_zero, List.setIfInBounds_toArray, List.set_cons_zero, List.set_cons_succ]
            refine wpAnyH_take (i := 16) (v := .bool true) rfl (by kernel_rfl) (by kernel_rfl) (by kernel_rfl) (fun _ _ _ h => h) (Or.inl ⟨by kernel_rfl, fun W hW => exec_gtr W _ _ _ _ rfl (k : Int) 0 _ (by kernel_rfl) (by kernel_rfl) hb3⟩) hSd ?_
            try simp only [Act.put, List.getElem_toArray, List.getElem_cons_succ, List.getElem_cons_zero, List.setIfInBounds_toArray, List.set_cons_zero, List.set_cons_succ]
            refine tkX 17 (hS := hSd) (h := ?_)
            try simp only [Act.put, List.getElem_toArray, List.getElem_cons_succ, List.getElem_cons_zero, List.setIfInBounds_toArray, List.set_cons_zero, List.set_cons_succ]
            refine tkX 18 (hS := hSd) (h := ?_)
            try simp only [Act.put, List.getElem_toArray, List.getElem_cons_succ, List.getElem_cons_zero, List.setIfInBounds_toArray, List.set_cons_zero, List.set_cons_succ]
            refine tkX 19 (v := .slice (some ⟨g, off, none⟩) n cap) (hS := hSd) (h := ?_)
            try simp only [Act.put, List.getElem_toArray, List.getElem_cons_succ, List.getElem_cons_zero, List.setIfInBounds_toArray, List.set_cons_zero, List.set_cons_succ]
            refine tkX 20 (hS := hSd) (h := ?_)
            try simp only [Act.put, List.getElem_toArray, List.getElem_cons_succ, List.getElem_cons_zero, List.setIfInBounds_toArray, List.set_cons_zero, List.set_cons_succ]
            refine wpAnyH_take (i := 21) (v := .pointer (some ⟨g, off + k, none⟩)) rfl (by kernel_rfl) (by kernel_rfl) (by kernel_rfl) (fun _ _ _ h => h) (Or.inl ⟨by kernel_rfl, fun W hW => exec_idxI W _ _ _ _ rfl g off k n cap (by kernel_rfl) (by kernel_rfl) hkn⟩) hSd ?_
            try simp only [Act.put, List.getElem_toArray, List.getElem_cons_succ, List.getElem_cons_zero, List.setIfInBounds_toArray, List.set_cons_zero, List.set_cons_succ]
            refine tkX 22 (v := .int .i64 x) (hS := hSd) (h := ?_)
            try simp only [Act.put, List.getElem_toArray, List.getElem_cons_succ, List.getElem_cons_zero, List.setIfInBounds_toArray, List.set_cons_zero, List.set_cons_succ]
            refine tkX 23 (hS := hSd) (h := ?_)
            try simp only [Act.put, List.getElem_toArray, List.getElem_cons_succ, List.getElem_cons_zero, List.setIfInBounds_toArray, List.set_cons_zero, List.set_cons_succ]
            refine tkX 24 (v := .slice (some ⟨g, off, none⟩) n cap) (hS := hSd) (h := ?_)
            try simp only [Act.put, List.getElem_toArray, List.getElem_cons_succ, List.getElem_cons_zero, List.setIfInBounds_toArray, List.set_cons_zero, List.set_cons_succ]
            refine tkX 25 (hS := hSd) (h := ?_)
            try simp only [Act.put, List.getElem_toArray, List.getElem_cons_succ, List.getElem_cons_zero, List.setIfInBounds_toArray, List.set_cons_zero, List.set_cons_succ]
            refine tkX 26 (v := .int .i64 (K : Int)) (hS := hSd) (h := ?_)
            try simp only [Act.put, List.getElem_toArray, List.getElem_cons_succ, List.getElem_cons_zero, List.setIfInBounds_toArray, List.set_cons_zero, List.set_cons_succ]
            refine wpAnyH_take (i := 27) (v := .pointer (some ⟨g, off + K, none⟩)) rfl (by kernel_rfl) (by kernel_rfl) (by kernel_rfl) (fun _ _ _ h => h) (Or.inl ⟨by kernel_rfl, fun W hW => exec_idxI W _ _ _ _ rfl g off K n cap (by kernel_rfl) (by kernel_rfl) hKn⟩) hSd ?_
            try simp only [Act.put, List.getElem_toArray, List.getElem_cons_succ, List.getElem_cons_zero, List.setIfInBounds_toArray, List.set_cons_zero, List.set_cons_succ]
            refine tkX 28 (v := .int .i64 y) (hS := hSd) (h := ?_)
            try simp only [Act.put, List.getElem_toArray, List.getElem_cons_succ, List.getElem_cons_zero, List.setIfInBounds_toArray, List.set_cons_zero, List.set_cons_succ]
            refine tkX 29 (v := .bool false) (hS := hSd) (h := ?_)
            try simp only [Act.put, List.getElem_toArray, List.getElem_cons_succ, List.getElem_cons_zero, List.setIfInBounds_toArray, List.set_cons_zero, List.set_cons_succ]
            refine wpAnyH_take (i := 30) (v := .bool false) rfl (by kernel_rfl) (by kernel_rfl) (by kernel_rfl) (fun _ _ _ h => h) (Or.inl ⟨by kernel_rfl, fun W hW => exec_pick W _ _ _ _ _ rfl true (by kernel_rfl) _ (by kernel_rfl)⟩) hSd ?_
            try simp only [Act.put, List.getElem_toArray, List.getElem_cons_succ, List.getElem_cons_zero, List.setIfInBounds_toArray, List.set_cons_zero, List.set_cons_succ]
            refine wpAnyH_take (i := 31) (v := .bool false) rfl (by kernel_rfl) (by kernel_rfl) (by kernel_rfl) (fun _ _ _ h => h) (Or.inl ⟨by kernel_rfl, fun W hW => exec_pick W _ _ _ _ _ rfl false (by kernel_rfl) _ (by kernel_rfl)⟩) hSd ?_
            try simp only [Act.put, List.getElem_toArray, List.getElem_cons_succ, List.getElem_cons_zero, List.setIfInBounds_toArray, List.set_cons_zero, List.set_cons_succ]
            refine wpAnyH_done (by kernel_rfl) ?_ _
            clear hSd
            have HPn : Hid (∀ i, i < k + 1 → NumZ (zs.getD i 0)) := fun i hi => by
              rcases (by omega : i < k ∨ i = k) with h | rfl
              · exact HP1.out i h
              · rw [HX.out]; exact ⟨by omega, by omega⟩
            have HPs : Hid (∀ i, i + 1 < k + 1 → zs.getD i 0 ≤ zs.getD (i + 1) 0) := fun i hi => by
              rcases (by omega : i + 1 < k ∨ i + 1 = k) with h | h
              · exact HP2.out i h
              · have hi2 : i = K := by have := HKk.out; omega
                subst hi2
                rw [← HKk.out, HX.out, HY.out]; omega
            go_wp2_with fail
            go_roundw
            case rel => exact ⟨k + 1, by omega, by go_num, HPn.out, HPs.out, HBq.out.trans (hbd.mono HBq.out.size)⟩
            case measure => simp [intOf]; omega
        · have hkz : ¬ (k : Int) < (n : Int) := by omega
          have hke : k = n := by omega
          have HT : Hid (B = true) := HBB.out ▸ dgB_t ⟨HHd.out, fun i hi => HP1.out i (by rw [HN.out] at hi; omega), fun i hi => HP2.out i (by rw [HN.out] at hi; omega)⟩
          clear hp1' hp2' hbq hke
          go_wp2_with fail
          go_ret
          rw [HT.out]
          exact ⟨rfl, HBw.out⟩
  · have HF : Hid (dgB s p c zs = false) := dgB_f (fun h' => h ⟨h'.1.1, h'.1.2.1, h'.1.2.2.1, h'.1.2.2.2.1, h'.1.2.2.2.2.1, h'.1.2.2.2.2.2.1, by have := h'.1.2.2.2.2.2.2.1; rw [HN.out] at this; exact this, by have := h'.1.2.2.2.2.2.2.2.1; rw [HN.out] at this; exact this⟩)
    rw [HF.out]
    clear HZ HK
    go_enter Try.func12, Try.ntmps12
    by_cases a1 : s < 1
    · clear h
      go_wp2_with fail
      go_ret
      exact ⟨rfl, HBa.out⟩
    by_cases a2 : 4096 < s
    · clear h
      go_wp2_with fail
      go_ret
      exact ⟨rfl, HBa.out⟩
    by_cases a3 : p < 1
    · clear h
      go_wp2_with fail
      go_ret
      exact ⟨rfl, HBa.out⟩
    by_cases a4 : 4096 < p
    · clear h
      go_wp2_with fail
      go_ret
      exact ⟨rfl, HBa.out⟩
    by_cases h5 : 0 ≤ c ∧ c ≤ 4611686018427387903
    · by_cases a5 : 512 < (n : Int)
      · clear h
        go_wp2_with fail
        refine (num_t c _ h5).mono ?_
        rintro e w1 ⟨rfl, hw1⟩
        obtain rfl := hw1.symm
        clear hw1
        go_wp2_with fail
        go_ret
        exact ⟨rfl, HBa.out⟩
      · have a6 : c < (n : Int) := by omega
        clear h
        go_wp2_with fail
        refine (num_t c _ h5).mono ?_
        rintro e w1 ⟨rfl, hw1⟩
        obtain rfl := hw1.symm
        clear hw1
        go_wp2_with fail
        go_ret
        exact ⟨rfl, HBa.out⟩
    · clear h
      go_wp2_with fail
      refine (num_f c _ h5).mono ?_
      rintro e w1 ⟨rfl, hw1⟩
      obtain rfl := hw1.symm
      clear hw1
      go_wp2_with fail
      go_ret
      exact ⟨rfl, HBa.out⟩
end Go.Proofs.Ytboocdiilbcdcaa
