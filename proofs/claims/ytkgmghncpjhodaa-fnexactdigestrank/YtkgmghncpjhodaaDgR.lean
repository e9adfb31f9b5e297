import Derived.Test.YtkgmghncpjhodaaDgI
namespace Go.Proofs.Ytkgmghncpjhodaa
open Go Go.RowKit
set_option linter.unusedVariables false
set_option linter.unusedSimpArgs false
set_option maxRecDepth 100000

/-! DigestRank on both sides. -/
def cntLe (zs : List Int) (v : Int) : Nat := (zs.filter fun x => decide (x ≤ v)).length
theorem cntLe_step (zs : List Int) (v : Int) (k : Nat) (h : k < zs.length) : cntLe (zs.take (k + 1)) v = cntLe (zs.take k) v + (if zs.getD k 0 ≤ v then 1 else 0) := by
  unfold cntLe
  rw [List.take_succ_eq_append_getElem h, List.filter_append, List.length_append]
  have e : zs.getD k 0 = zs[k] := by simp [List.getD_eq_getElem?_getD, List.getElem?_eq_getElem h]
  rw [e]
  by_cases hx : zs[k] ≤ v <;> simp [hx]
theorem cntLe_le (zs : List Int) (v : Int) : cntLe zs v ≤ zs.length := List.length_filter_le _ _
theorem cntLe_edge (zs : List Int) (v : Int) (i : Nat) (hi : i ≤ zs.length) (h1 : ∀ t, t < i → zs.getD t 0 ≤ v) (h2 : ∀ t, i ≤ t → t < zs.length → ¬ zs.getD t 0 ≤ v) : cntLe zs v = i := by
  have key : ∀ j, j ≤ zs.length → cntLe (zs.take j) v = min i j := by
    intro j
    induction j with
    | zero => intro _; simp [cntLe]
    | succ j ih =>
      intro hj
      rw [cntLe_step zs v j (by omega), ih (by omega)]
      by_cases hji : j < i
      · rw [if_pos (h1 j hji)]; omega
      · rw [if_neg (h2 j (by omega) (by omega))]; omega
  have := key zs.length (Nat.le_refl _)
  rw [List.take_length] at this
  omega
theorem pts_mono {zs : List Int} (h : PtS zs) : ∀ d a, a + d < zs.length → zs.getD a 0 ≤ zs.getD (a + d) 0
  | 0, a, _ => by simp
  | d + 1, a, hd => by
    have h1 := pts_mono h d a (by omega)
    have h2 := h (a + d) (by omega)
    have e : a + (d + 1) = a + d + 1 := by omega
    rw [e]; omega
def rkLo (s p k : Nat) : Int := (k : Int) * (s : Int) - ((s : Int) - 1) * ((min p k : Nat) : Int)
def rkHi (s c k : Nat) : Int := min ((k : Int) * (s : Int)) (c : Int)
noncomputable def rkZ (s p c : Int) (zs : List Int) (v : Int) : Int × Int × Int := if dgB s p c zs = true then (rkLo s.toNat p.toNat (cntLe zs v), rkHi s.toNat c.toNat (cntLe zs v), 0) else (0, 0, 1)
theorem rk_nums (s p k : Nat) (hs1 : 1 ≤ s) (hs : s ≤ 4096) (hk : k ≤ 512) : ∃ m1 m2 : Nat, (k : Int) * (s : Int) = (m1 : Int) ∧ ((s : Int) - 1) * ((min p k : Nat) : Int) = (m2 : Int) ∧ m1 ≤ 2097152 ∧ m2 ≤ m1 := by
  refine ⟨k * s, (s - 1) * min p k, by rw [Int.natCast_mul], ?_, ?_, ?_⟩
  · rw [Int.natCast_mul]; congr 1; omega
  · exact Nat.le_trans (Nat.mul_le_mul hk hs) (by omega)
  · rw [Nat.mul_comm k s]; exact Nat.mul_le_mul (by omega) (by omega)
theorem exec_min2 (W : World) (ρ : Operand → Value) (o : Oper) (x y : Operand) (ho : o.op = .call { callee := .builtin .min, args := #[x, y], argTypes := #[3, 3] }) (X Y M : Int) (hx : ρ x = .int .i64 X) (hy : ρ y = .int .i64 Y) (h : min X Y = M) :
    (execOp ρ o).run Try.prog W = .ok (.value (.int .i64 M)) W := by
  have h' : (if Y < X then Y else X) = M := by rw [← h]; split <;> omega
  subst h'
  unfold execOp
  simp only [ho, hx, hy, Sem.run_bind, Sem.run_pure, Result.andThen_ok]
  go_simp
set_option maxHeartbeats 4000000 in
theorem specRank_any (s p c : Int) (u : Value) (zs : List Int) (v : Int) (w : World) (hl : zs.length ≤ 1048576) (hv : HoldI w u zs) :
    Calls Try.prog 14 #[.agg #[.int .i64 s, .int .i64 p, .int .i64 c, u], .int .i64 v] w fun e w' => e = .returned (.tuple #[.int .i64 (rkZ s p c zs v).1, .int .i64 (rkZ s p c zs v).2.1, .int .i64 (rkZ s p c zs v).2.2]) ∧ Below w.heap.size w w' := by
  have HOk : Hid (∀ (V : World), Below w.heap.size w V → Calls Try.prog 10 #[.agg #[.int .i64 s, .int .i64 p, .int .i64 c, u]] V fun e w' => e = .returned (.bool (dgB s p c zs)) ∧ Below V.heap.size V w') := fun V hV => specOK_any s p c u zs V hl (hv.below hV)
  obtain ⟨ad, cap, rfl, hz⟩ := hv
  have HZ := hidd hz
  clear hz
  obtain ⟨n, hn⟩ : ∃ n, zs.length = n := ⟨_, rfl⟩
  rw [hn] at hl HOk ⊢
  have HN := hidd hn
  clear hn
  have HBa : Hid (Below w.heap.size w (w.alloc (.cells #[.int .i64 s, .int .i64 p, .int .i64 c, .slice ad n cap] 27))) := (Below.refl _ _).alloc (Nat.le_refl _) _
  have HK : Hid ((w.alloc (.cells #[.int .i64 s, .int .i64 p, .int .i64 c, .slice ad n cap] 27)).heap[w.heap.size]? = some (.cells #[.int .i64 s, .int .i64 p, .int .i64 c, .slice ad n cap] 27)) := heap_alloc_new _ _
  cases hB : dgB s p c zs with
  | false =>
    have HR : Hid (rkZ s p c zs v = (0, 0, 1)) := by show _ = _; unfold rkZ; rw [hB]; rfl
    rw [HR.out]
    have HC : Hid (∀ (V : World), Below w.heap.size w V → Calls Try.prog 10 #[.agg #[.int .i64 s, .int .i64 p, .int .i64 c, .slice ad n cap]] V fun e w' => e = .returned (.bool false) ∧ Below V.heap.size V w') := fun V hV => (HOk.out V hV).mono (fun e w' h => ⟨by rw [h.1, hB], h.2⟩)
    clear hB HOk
    go_enter Try.func14, Try.ntmps14
    go_wp2_with fail
    refine (HC.out _ HBa.out).mono ?_
    rintro e w1 ⟨rfl, hb1⟩
    have HB1 := hidd (HBa.out.trans (hb1.mono HBa.out.size))
    clear hb1
    go_wp2_with fail
    go_ret3
    exact ⟨rfl, HB1.out⟩
  | true =>
    have hd := dgB_ok hB
    have HDT0 := hidd hB
    have hh := hd.1
    rw [HN.out] at hh
    obtain ⟨q1, q2, q3, q4, q5, q6, q7, q8, q9, q10⟩ := hh
    clear q9 q10
    obtain ⟨s, rfl⟩ : ∃ a : Nat, s = (a : Int) := ⟨s.toNat, by omega⟩
    obtain ⟨p, rfl⟩ : ∃ a : Nat, p = (a : Int) := ⟨p.toNat, by omega⟩
    obtain ⟨c, rfl⟩ : ∃ a : Nat, c = (a : Int) := ⟨c.toNat, by omega⟩
    have HDT : Hid (dgB (s : Int) (p : Int) (c : Int) zs = true) := HDT0.out
    have hs1 : 1 ≤ s := by omega
    have hs2 : s ≤ 4096 := by omega
    have hp2 : p ≤ 4096 := by omega
    have hc2 : c ≤ 4611686018427387903 := by omega
    have HC : Hid (∀ (V : World), Below w.heap.size w V → Calls Try.prog 10 #[.agg #[.int .i64 (s : Int), .int .i64 (p : Int), .int .i64 (c : Int), .slice ad n cap]] V fun e w' => e = .returned (.bool true) ∧ Below V.heap.size V w') := fun V hV => (HOk.out V hV).mono (fun e w' h => ⟨by rw [h.1, HDT.out], h.2⟩)
    clear hB HOk hd HDT0 q1 q2 q3 q4 q5 q6 q8
    obtain ⟨R, hR⟩ : ∃ R, rkZ (s : Int) (p : Int) (c : Int) zs v = R := ⟨_, rfl⟩
    rw [hR]
    have HRR := hidd hR
    clear hR
    go_enter Try.func14, Try.ntmps14
    go_wp2_with fail
    refine (HC.out _ HBa.out).mono ?_
    rintro e w1 ⟨rfl, hb1⟩
    have HB1 := hidd (HBa.out.trans (hb1.mono HBa.out.size))
    have HK1 := hidd (blko HK.out hb1)
    clear hb1 HK HBa HC
    have x0 : w1.cell? ⟨w.heap.size, 0, none⟩ = some (.int .i64 (s : Int)) := blkc HK1.out 0
    have x1 : w1.cell? ⟨w.heap.size, 1, none⟩ = some (.int .i64 (p : Int)) := blkc HK1.out 1
    have x2 : w1.cell? ⟨w.heap.size, 2, none⟩ = some (.int .i64 (c : Int)) := blkc HK1.out 2
    have x3 : w1.cell? ⟨w.heap.size, 3, none⟩ = some (.slice ad n cap) := blkc HK1.out 3
    go_wp2_with fail
    go_loop [7, 8] (fun kv iv => ∃ i K : Nat, i ≤ n ∧ K ≤ i ∧ iv = .int .i64 (i : Int) ∧ kv = .int .i64 (K : Int) ∧ cntLe (zs.take i) v = K) (fun _ iv => n - (intOf iv).toNat)
    case atStart => exact ⟨0, 0, Nat.zero_le _, Nat.le_refl _, rfl, rfl, by simp [cntLe]⟩
    case round =>
      obtain ⟨i, K, hi, hKi, rfl, rfl, hcn⟩ := hrel
      have HCn := hidd hcn
      clear hcn
      by_cases hin : i < n
      · have hiz : (i : Int) < (n : Int) := by omega
        have hinz : i < zs.length := by have := HN.out; omega
        obtain ⟨g, off, rfl, hg, hc⟩ := HZ.out.resolve_left (fun h => by rw [h] at hinz; simp at hinz)
        have z1 : w1.cell? ⟨g, off + i, none⟩ = some (.int .i64 (zs.getD i 0)) := (HB1.out.cell (p := ⟨g, off + i, none⟩) hg).trans (hc i hinz)
        have HSt := hidd (cntLe_step zs v i hinz)
        generalize zs.getD i 0 = x at *
        clear hc
        by_cases hx : x ≤ v
        · have HS2 : Hid (cntLe (zs.take (i + 1)) v = K + 1) := by show _ = _; rw [HSt.out, HCn.out, if_pos hx]
          clear HSt
          go_wp2_with fail
          go_round
          case rel => exact ⟨i + 1, K + 1, by omega, by omega, by go_num, by go_num, HS2.out⟩
          case measure => simp [intOf]; omega
        · have HS2 : Hid (cntLe (zs.take (i + 1)) v = K) := by show _ = _; rw [HSt.out, HCn.out, if_neg hx]; rfl
          clear HSt
          go_wp2_with fail
          go_round
          case rel => exact ⟨i + 1, K, by omega, by omega, by go_num, rfl, HS2.out⟩
          case measure => simp [intOf]; omega
      · have hiz : ¬ (i : Int) < (n : Int) := by omega
        have hK5 : K ≤ 512 := by omega
        have HKK : Hid (cntLe zs v = K) := by
          show _ = _
          have h := HCn.out
          rw [List.take_of_length_le (by have := HN.out; omega)] at h
          exact h
        obtain ⟨m1, m2, hm1, hm2, hm1b, hm2b⟩ := rk_nums s p K hs1 hs2 hK5
        obtain ⟨mo, hmo'⟩ : ∃ mo, min p K = mo := ⟨_, rfl⟩
        have hmo : min (p : Int) (K : Int) = (mo : Int) := by omega
        obtain ⟨hi, hhi⟩ : ∃ hi, min (m1 : Int) (c : Int) = hi := ⟨_, rfl⟩
        rw [hmo'] at hm2
        have HR : Hid (rkZ (s : Int) (p : Int) (c : Int) zs v = ((m1 : Int) - (m2 : Int), hi, 0)) := by
          show _ = _
          unfold rkZ rkLo rkHi
          rw [if_pos HDT.out]
          simp only [Int.toNat_natCast]
          rw [HKK.out, hm1, hmo', hm2, hhi]
        have hw1 : IntKind.i64.wrap (m1 : Int) = (m1 : Int) := by rw [IntKind.wrap_i64]; omega
        have hw2 : IntKind.i64.wrap (m2 : Int) = (m2 : Int) := by rw [IntKind.wrap_i64]; omega
        have hw3 : IntKind.i64.wrap ((m1 : Int) - (m2 : Int)) = (m1 : Int) - (m2 : Int) := by rw [IntKind.wrap_i64]; omega
        have hw4 : IntKind.i64.wrap ((s : Int) - 1) = (s : Int) - 1 := by rw [IntKind.wrap_i64]; omega
        have hmo9 := hidd hmo'
        clear hmo'
        go_wp2_with fail
        refine wp_region_held (S := fun u => u.cell? ⟨w.heap.size, 0, none⟩ = some (.int .i64 (s : Int)) ∧ u.cell? ⟨w.heap.size, 1, none⟩ = some (.int .i64 (p : Int)) ∧ u.cell? ⟨w.heap.size, 2, none⟩ = some (.int .i64 (c : Int))) (by kernel_rfl) ?_
        have hbd : Below w1.heap.size w1 ({ heap := w1.heap, tape := w1.tape, drawn := w1.drawn + 1, os := w1.os, output := w1.output } : World) := (Below.refl _ _).drew
        generalize ({ heap := w1.heap, tape := w1.tape, drawn := w1.drawn + 1, os := w1.os, output := w1.output } : World) = Wd at *
        have hSd : (fun u => u.cell? ⟨w.heap.size, 0, none⟩ = some (.int .i64 (s : Int)) ∧ u.cell? ⟨w.heap.size, 1, none⟩ = some (.int .i64 (p : Int)) ∧ u.cell? ⟨w.heap.size, 2, none⟩ = some (.int .i64 (c : Int))) Wd := ⟨(hbd.cell (cell_lt x0)).trans x0, (hbd.cell (cell_lt x1)).trans x1, (hbd.cell (cell_lt x2)).trans x2⟩
        try simp only [Act.put, List.getElem_toArray, List.getElem_cons_succ, List.getElem_cons_zero, List.setIfInBounds_toArray, List.set_cons_zero, List.set_cons_succ]
        refine tkX 0 (hS := hSd) (h := ?_)
        try simp only [Act.put, List.getElem_toArray, List.getElem_cons_succ, List.getElem_cons_zero, List.setIfInBounds_toArray, List.set_cons_zero, List.set_cons_succ]
        refine tkX 1 (hS := hSd) (h := ?_)
        try simp only [Act.put, List.getElem_toArray, List.getElem_cons_succ, List.getElem_cons_zero, List.setIfInBounds_toArray, List.set_cons_zero, List.set_cons_succ]
        refine tkX 2 (v := .int .i64 (s : Int)) (hS := hSd) (h := ?_)
        try simp only [Act.put, List.getElem_toArray, List.getElem_cons_succ, List.getElem_cons_zero, List.setIfInBounds_toArray, List.set_cons_zero, List.set_cons_succ]
        refine tkX 3 (v := .int .i64 (m1 : Int)) (hS := hSd) (h := ?_)
        try simp only [Act.put, List.getElem_toArray, List.getElem_cons_succ, List.getElem_cons_zero, List.setIfInBounds_toArray, List.set_cons_zero, List.set_cons_succ]
        refine tkX 4 (hS := hSd) (h := ?_)
        try simp only [Act.put, List.getElem_toArray, List.getElem_cons_succ, List.getElem_cons_zero, List.setIfInBounds_toArray, List.set_cons_zero, List.set_cons_succ]
        refine tkX 5 (v := .int .i64 (s : Int)) (hS := hSd) (h := ?_)
        try simp only [Act.put, List.getElem_toArray, List.getElem_cons_succ, List.getElem_cons_zero, List.setIfInBounds_toArray, List.set_cons_zero, List.set_cons_succ]
        refine tkX 6 (v := .int .i64 ((s : Int) - 1)) (hS := hSd) (h := ?_)
        try simp only [Act.put, List.getElem_toArray, List.getElem_cons_succ, List.getElem_cons_zero, List.setIfInBounds_toArray, List.set_cons_zero, List.set_cons_succ]
        refine tkX 7 (hS := hSd) (h := ?_)
        try simp only [Act.put, List.getElem_toArray, List.getElem_cons_succ, List.getElem_cons_zero, List.setIfInBounds_toArray, List.set_cons_zero, List.set_cons_succ]
        refine tkX 8 (v := .int .i64 (p : Int)) (hS := hSd) (h := ?_)
        try simp only [Act.put, List.getElem_toArray, List.getElem_cons_succ, List.getElem_cons_zero, List.setIfInBounds_toArray, List.set_cons_zero, List.set_cons_succ]
        refine tkX 9 (hS := hSd) (h := ?_)
        try simp only [Act.put, List.getElem_toArray, List.getElem_cons_succ, List.getElem_cons_zero, List.setIfInBounds_toArray, List.set_cons_zero, List.set_cons_succ]
        refine wpAnyH_take (i := 10) (v := .int .i64 ((mo : Nat) : Int)) rfl (by kernel_rfl) (by kernel_rfl) (by kernel_rfl) (fun _ _ _ h => h) (Or.inl ⟨by kernel_rfl, fun W hW => exec_min2 W _ _ _ _ rfl _ _ _ (by kernel_rfl) (by kernel_rfl) hmo⟩) hSd ?_
        try simp only [Act.put, List.getElem_toArray, List.getElem_cons_succ, List.getElem_cons_zero, List.setIfInBounds_toArray, List.set_cons_zero, List.set_cons_succ]
        refine tkX 11 (v := .int .i64 (m2 : Int)) (hS := hSd) (h := ?_)
        try simp only [Act.put, List.getElem_toArray, List.getElem_cons_succ, List.getElem_cons_zero, List.setIfInBounds_toArray, List.set_cons_zero, List.set_cons_succ]
        refine tkX 12 (v := .int .i64 ((m1 : Int) - (m2 : Int))) (hS := hSd) (h := ?_)
        try simp only [Act.put, List.getElem_toArray, List.getElem_cons_succ, List.getElem_cons_zero, List.setIfInBounds_toArray, List.set_cons_zero, List.set_cons_succ]
        refine tkX 13 (hS := hSd) (h := ?_)
        try simp only [Act.put, List.getElem_toArray, List.getElem_cons_succ, List.getElem_cons_zero, List.setIfInBounds_toArray, List.set_cons_zero, List.set_cons_succ]
        refine tkX 14 (hS := hSd) (h := ?_)
        try simp only [Act.put, List.getElem_toArray, List.getElem_cons_succ, List.getElem_cons_zero, List.setIfInBounds_toArray, List.set_cons_zero, List.set_cons_succ]
        refine tkX 15 (v := .int .i64 (s : Int)) (hS := hSd) (h := ?_)
        try simp only [Act.put, List.getElem_toArray, List.getElem_cons_succ, List.getElem_cons_zero, List.setIfInBounds_toArray, List.set_cons_zero, List.set_cons_succ]
        refine tkX 16 (v := .int .i64 (m1 : Int)) (hS := hSd) (h := ?_)
        try simp only [Act.put, List.getElem_toArray, List.getElem_cons_succ, List.getElem_cons_zero, List.setIfInBounds_toArray, List.set_cons_zero, List.set_cons_succ]
        refine tkX 17 (hS := hSd) (h := ?_)
        try simp only [Act.put, List.getElem_toArray, List.getElem_cons_succ, List.getElem_cons_zero, List.setIfInBounds_toArray, List.set_cons_zero, List.set_cons_succ]
        refine tkX 18 (v := .int .i64 (c : Int)) (hS := hSd) (h := ?_)
        try simp only [Act.put, List.getElem_toArray, List.getElem_cons_succ, List.getElem_cons_zero, List.setIfInBounds_toArray, List.set_cons_zero, List.set_cons_succ]
        refine wpAnyH_take (i := 19) (v := .int .i64 (hi : Int)) rfl (by kernel_rfl) (by kernel_rfl) (by kernel_rfl) (fun _ _ _ h => h) (Or.inl ⟨by kernel_rfl, fun W hW => exec_min2 W _ _ _ _ rfl _ _ _ (by kernel_rfl) (by kernel_rfl) hhi⟩) hSd ?_
        try simp only [Act.put, List.getElem_toArray, List.getElem_cons_succ, List.getElem_cons_zero, List.setIfInBounds_toArray, List.set_cons_zero, List.set_cons_succ]
        refine tkX 20 (hS := hSd) (h := ?_)
        try simp only [Act.put, List.getElem_toArray, List.getElem_cons_succ, List.getElem_cons_zero, List.setIfInBounds_toArray, List.set_cons_zero, List.set_cons_succ]
        refine tkX 21 (hS := hSd) (h := ?_)
        try simp only [Act.put, List.getElem_toArray, List.getElem_cons_succ, List.getElem_cons_zero, List.setIfInBounds_toArray, List.set_cons_zero, List.set_cons_succ]
        refine tkX 22 (hS := hSd) (h := ?_)
        try simp only [Act.put, List.getElem_toArray, List.getElem_cons_succ, List.getElem_cons_zero, List.setIfInBounds_toArray, List.set_cons_zero, List.set_cons_succ]
        refine wpAnyH_done (by kernel_rfl) ?_ _
        clear hSd hm1 hm2 hmo hhi hw1 hw2 hw3 hw4
        have HR2 := hidd (HRR.out.symm.trans HR.out)
        go_wp2_with fail
        go_ret3
        rw [HR2.out]
        exact ⟨rfl, HB1.out.trans (hbd.mono HB1.out.size)⟩
end Go.Proofs.Ytkgmghncpjhodaa
