import Derived.Test.YtboocdiilbcdcaaDgS
namespace Go.Proofs.Ytboocdiilbcdcaa
open Go Go.RowKit
set_option linter.unusedVariables false
set_option linter.unusedSimpArgs false
set_option maxRecDepth 100000

/-! impl.DigestOK. -/
theorem within_t (r lo hi : Int) (w : World) (h : lo ≤ r ∧ r ≤ hi) : Calls Try.prog 30 #[.int .i64 r, .int .i64 lo, .int .i64 hi] w fun e w' => e = .returned (.bool true) ∧ w' = w := by
  refine (within_any r lo hi w).mono ?_
  rintro e w' ⟨rfl, rfl⟩
  exact ⟨by simp [h.1, h.2], rfl⟩
theorem within_f (r lo hi : Int) (w : World) (h : ¬ (lo ≤ r ∧ r ≤ hi)) : Calls Try.prog 30 #[.int .i64 r, .int .i64 lo, .int .i64 hi] w fun e w' => e = .returned (.bool false) ∧ w' = w := by
  refine (within_any r lo hi w).mono ?_
  rintro e w' ⟨rfl, rfl⟩
  exact ⟨by rw [← Bool.decide_and, decide_eq_false h], rfl⟩
theorem isNaN_any (x : Int) (w : World) : Calls Try.prog 74 #[.int .i64 x] w fun e w' => e = .returned (.bool false) ∧ w' = w := by
  have h : (x != x) = false := by simp
  go_enter Try.func74, Try.ntmps74
  go_wp2
  go_ret
  exact ⟨rfl, rfl⟩
theorem less_any (x y : Int) (w : World) : Calls Try.prog 63 #[.int .i64 x, .int .i64 y] w fun e w' => e = .returned (.bool (decide (x < y))) ∧ w' = w := by
  go_enter Try.func63, Try.ntmps63
  go_wp2_with fail
  refine (isNaN_any x _).mono ?_
  rintro e w1 ⟨rfl, hw1⟩
  obtain rfl := hw1.symm
  clear hw1
  obtain ⟨b, hb⟩ : ∃ b, decide (x < y) = b := ⟨_, rfl⟩
  have HB := hidd hb
  cases b with
  | true =>
    have h1 : x < y := of_decide_eq_true hb
    clear hb
    go_wp2_with fail
    go_ret
    rw [HB.out]
    exact ⟨rfl, rfl⟩
  | false =>
    have h1 : ¬ x < y := of_decide_eq_false hb
    clear hb
    go_wp2_with fail
    go_ret
    rw [HB.out]
    exact ⟨rfl, rfl⟩
theorem rbx_call3 (W : World) (a : Act) (o : Oper) (f : FuncId) (x y z : Operand) (t u q : TypeId) (ho : o.op = .call { callee := .value (.func f), args := #[x, y, z], argTypes := #[t, u, q] }) (v1 v2 v3 : Value) (hx : a.eval x = v1) (hy : a.eval y = v2) (hz : a.eval z = v3)
    (hf : (callFunc f #[v1, v2, v3]).run Try.prog W = .ok (.enter f #[v1, v2, v3]) W) : (execOp a.eval o).run Try.prog W = .ok (.enter f #[v1, v2, v3]) W := by
  have hfn : a.eval (.func f) = .func (.func f) #[] #[] := rfl
  unfold execOp
  simp [ho, resolve, invoke, Deferred.ofValue, hfn, hx, hy, hz, hf]
open Classical in
noncomputable def bOf (p : Prop) : Bool := decide p
theorem bOf_t {p : Prop} (h : p) : bOf p = true := by unfold bOf; simpa using h
theorem bOf_f {p : Prop} (h : ¬ p) : bOf p = false := by unfold bOf; simpa using h
theorem bOf_ok {p : Prop} (h : bOf p = true) : p := by unfold bOf at h; simpa using h
theorem bOf_no {p : Prop} (h : bOf p = false) : ¬ p := by unfold bOf at h; simpa using h
set_option maxHeartbeats 1000000 in
theorem storable_any (v : Value) (zs : List Int) (w : World) (hl : zs.length ≤ 1048576) (hv : HoldI w v zs) :
    Calls Try.prog 31 #[v] w fun e w' => e = .returned (.bool (bOf (PtN zs))) ∧ w' = w := by
  obtain ⟨ad, cap, rfl, hz⟩ := hv
  have HZ := hidd hz
  clear hz
  obtain ⟨n, hn⟩ : ∃ n, zs.length = n := ⟨_, rfl⟩
  rw [hn] at hl ⊢
  have HN := hidd hn
  clear hn
  obtain ⟨B, hB⟩ : ∃ B, bOf (PtN zs) = B := ⟨_, rfl⟩
  rw [hB]
  have HBB := hidd hB
  clear hB
  go_enter Try.func31, Try.ntmps31
  go_wp2_with fail
  go_loop [4, 7] (fun _ iv => ∃ k : Nat, k ≤ n ∧ iv = .int .i64 (k : Int) ∧ ∀ i, i < k → NumZ (zs.getD i 0)) (fun _ iv => n - (intOf iv).toNat)
  case atStart => exact ⟨0, Nat.zero_le _, rfl, fun i hi => absurd hi (by omega)⟩
  case round =>
    obtain ⟨k, hk, rfl, hp⟩ := hrel
    have HP := hidd hp
    clear hp
    by_cases hkn : k < n
    · have hkz : (k : Int) < (n : Int) := by omega
      have hknz : k < zs.length := by have := HN.out; omega
      obtain ⟨g, off, rfl, hg, hc⟩ := HZ.out.resolve_left (fun h => by rw [h] at hknz; simp at hknz)
      have z1 := hc k hknz
      obtain ⟨x, hx⟩ : ∃ x, zs.getD k 0 = x := ⟨_, rfl⟩
      rw [hx] at z1
      have HX := hidd hx
      clear hx hc
      by_cases hb : -1000000000000 ≤ x ∧ x ≤ 1000000000000
      · go_wp2_with fail
        refine (within_t x _ _ _ hb).mono ?_
        rintro e w1 ⟨rfl, hw1⟩
        obtain rfl := hw1.symm
        clear hw1
        go_wp2_with fail
        go_round
        case rel =>
          refine ⟨k + 1, by omega, by go_num, fun i hi => ?_⟩
          rcases (by omega : i < k ∨ i = k) with h | rfl
          · exact HP.out i h
          · rw [HX.out]; exact hb
        case measure => simp [intOf]; omega
      · have HF : Hid (B = false) := HBB.out ▸ bOf_f (fun h => hb (by have := h k hknz; rw [HX.out] at this; exact this))
        go_wp2_with fail
        refine (within_f x _ _ _ hb).mono ?_
        rintro e w1 ⟨rfl, hw1⟩
        obtain rfl := hw1.symm
        clear hw1
        go_wp2_with fail
        go_ret
        rw [HF.out]
        exact ⟨rfl, rfl⟩
    · have hkz : ¬ (k : Int) < (n : Int) := by omega
      have HT : Hid (B = true) := HBB.out ▸ bOf_t (fun i hi => HP.out i (by rw [HN.out] at hi; omega))
      go_wp2_with fail
      go_ret
      rw [HT.out]
      exact ⟨rfl, rfl⟩
theorem sorted_zero (ad : Option Addr) (cap : Nat) (w : World) : Calls Try.prog 57 #[.slice ad 0 cap] w fun e w' => e = .returned (.bool true) ∧ w' = w := by
  go_enter Try.func57, Try.ntmps57
  go_wp2_with fail
  refine wp_loop_rounds 1 ?_
  rw [rounds_succ]
  go_wp2_with fail
  go_ret
  exact ⟨rfl, rfl⟩
set_option maxHeartbeats 2000000 in
theorem isSorted_any (v : Value) (zs : List Int) (w : World) (hl : zs.length ≤ 1048576) (hv : HoldI w v zs) :
    Calls Try.prog 57 #[v] w fun e w' => e = .returned (.bool (bOf (PtS zs))) ∧ Below w.heap.size w w' := by
  obtain ⟨ad, cap, rfl, hz⟩ := hv
  have HZ := hidd hz
  clear hz
  obtain ⟨n, hn⟩ : ∃ n, zs.length = n := ⟨_, rfl⟩
  rw [hn] at hl ⊢
  have HN := hidd hn
  clear hn
  obtain ⟨B, hB⟩ : ∃ B, bOf (PtS zs) = B := ⟨_, rfl⟩
  rw [hB]
  have HBB := hidd hB
  clear hB
  rcases (by omega : n = 0 ∨ 0 < n) with rfl | hn0
  · have HT : Hid (B = true) := HBB.out ▸ bOf_t (fun i hi => by rw [HN.out] at hi; omega)
    refine (sorted_zero ad cap w).mono ?_
    rintro e w1 ⟨rfl, hw1⟩
    obtain rfl := hw1.symm
    rw [HT.out]
    exact ⟨rfl, Below.refl _ _⟩
  · obtain ⟨M, hM⟩ : ∃ M : Nat, (n : Int) - 1 = (M : Int) := ⟨n - 1, by omega⟩
    have HM := hidd hM
    have hMn : M < n := by omega
    go_enter Try.func57, Try.ntmps57
    go_wp2_with fail
    go_loopw [3] (fun iv wr => ∃ k : Nat, k ≤ M ∧ iv = .int .i64 (k : Int) ∧ (∀ i, k ≤ i → i + 1 < n → zs.getD i 0 ≤ zs.getD (i + 1) 0) ∧ Below w.heap.size w wr) (fun iv _ => (intOf iv).toNat)
    case atStart => exact ⟨M, Nat.le_refl _, by first | rfl | (rw [hM]), fun i h1 h2 => by have := HM.out; omega, Below.refl _ _⟩
    case round =>
      obtain ⟨k, hk, rfl, hp, hbq⟩ := hrel
      have HP := hidd hp
      have HBq := hidd hbq
      clear hp hM
      have hkn : k < n := by omega
      by_cases hk0 : 0 < k
      · have hkz : (0 : Int) < (k : Int) := by omega
        obtain ⟨K, hK⟩ : ∃ K, k = K + 1 := ⟨k - 1, by omega⟩
        have hKn : K < n := by omega
        have hkK : (k : Int) - 1 = (K : Int) := by omega
        have hwK : IntKind.i64.wrap (K : Int) = (K : Int) := by rw [IntKind.wrap_i64]; omega
        have HKk := hidd hK
        clear hK
        have hknz : k < zs.length := by have := HN.out; omega
        have hKnz : K < zs.length := by have := HN.out; omega
        obtain ⟨g, off, rfl, hg, hc⟩ := HZ.out.resolve_left (fun h => by rw [h] at hknz; simp at hknz)
        have z1 := (hbq.cell (p := ⟨g, off + k, none⟩) hg).trans (hc k hknz)
        have z2 := (hbq.cell (p := ⟨g, off + K, none⟩) hg).trans (hc K hKnz)
        obtain ⟨x, hx⟩ : ∃ x, zs.getD k 0 = x := ⟨_, rfl⟩
        obtain ⟨y, hy⟩ : ∃ x, zs.getD K 0 = x := ⟨_, rfl⟩
        rw [hx] at z1
        rw [hy] at z2
        have HX := hidd hx
        have HY := hidd hy
        clear hx hy hc hbq
        obtain ⟨b, hbB⟩ : ∃ b, decide (x < y) = b := ⟨_, rfl⟩
        go_wp2_with fail
        refine wp_region_held (S := fun u => u.cell? ⟨g, off + k, none⟩ = some (.int .i64 x) ∧ u.cell? ⟨g, off + K, none⟩ = some (.int .i64 y)) (by kernel_rfl) ?_
        have hbd : Below wr.heap.size wr ({ heap := wr.heap, tape := wr.tape, drawn := wr.drawn + 1, os := wr.os, output := wr.output } : World) := (Below.refl _ _).drew
        generalize ({ heap := wr.heap, tape := wr.tape, drawn := wr.drawn + 1, os := wr.os, output := wr.output } : World) = Wd at *
        have hSd : (fun u => u.cell? ⟨g, off + k, none⟩ = some (.int .i64 x) ∧ u.cell? ⟨g, off + K, none⟩ = some (.int .i64 y)) Wd := ⟨(hbd.cell (cell_lt z1)).trans z1, (hbd.cell (cell_lt z2)).trans z2⟩
        try simp only [Act.put, List.getElem_toArray, List.getElem_cons_succ, List.getElem_cons_zero, List.setIfInBounds_toArray, List.set_cons_zero, List.set_cons_succ]
        refine tkX 0 (hS := hSd) (h := ?_)
        try simp only [Act.put, List.getElem_toArray, List.getElem_cons_succ, List.getElem_cons_zero, List.setIfInBounds_toArray, List.set_cons_zero, List.set_cons_succ]
        refine tkX 1 (hS := hSd) (h := ?_)
        try simp only [Act.put, List.getElem_toArray, List.getElem_cons_succ, List.getElem_cons_zero, List.setIfInBounds_toArray, List.set_cons_zero, List.set_cons_succ]
        refine wpAnyH_take (i := 2) (v := .pointer (some ⟨g, off + k, none⟩)) rfl (by kernel_rfl) (by kernel_rfl) (by kernel_rfl) (fun _ _ _ h => h) (Or.inl ⟨by kernel_rfl, fun W hW => exec_idxI W _ _ _ _ rfl g off k n cap (by kernel_rfl) (by kernel_rfl) hkn⟩) hSd ?_
        try simp only [Act.put, List.getElem_toArray, List.getElem_cons_succ, List.getElem_cons_zero, List.setIfInBounds_toArray, List.set_cons_zero, List.set_cons_succ]
        refine tkX 3 (v := .int .i64 x) (hS := hSd) (h := ?_)
        try simp only [Act.put, List.getElem_toArray, List.getElem_cons_succ, List.getElem_cons_zero, List.setIfInBounds_toArray, List.set_cons_zero, List.set_cons_succ]
        refine tkX 4 (hS := hSd) (h := ?_)
        try simp only [Act.put, List.getElem_toArray, List.getElem_cons_succ, List.getElem_cons_zero, List.setIfInBounds_toArray, List.set_cons_zero, List.set_cons_succ]
        refine tkX 5 (hS := hSd) (h := ?_)
        try simp only [Act.put, List.getElem_toArray, List.getElem_cons_succ, List.getElem_cons_zero, List.setIfInBounds_toArray, List.set_cons_zero, List.set_cons_succ]
        refine tkX 6 (v := .int .i64 (K : Int)) (hS := hSd) (h := ?_)
        try simp only [Act.put, List.getElem_toArray, List.getElem_cons_succ, List.getElem_cons_zero, List.setIfInBounds_toArray, List.set_cons_zero, List.set_cons_succ]
        refine wpAnyH_take (i := 7) (v := .pointer (some ⟨g, off + K, none⟩)) rfl (by kernel_rfl) (by kernel_rfl) (by kernel_rfl) (fun _ _ _ h => h) (Or.inl ⟨by kernel_rfl, fun W hW => exec_idxI W _ _ _ _ rfl g off K n cap (by kernel_rfl) (by kernel_rfl) hKn⟩) hSd ?_
        try simp only [Act.put, List.getElem_toArray, List.getElem_cons_succ, List.getElem_cons_zero, List.setIfInBounds_toArray, List.set_cons_zero, List.set_cons_succ]
        refine tkX 8 (v := .int .i64 y) (hS := hSd) (h := ?_)
        try simp only [Act.put, List.getElem_toArray, List.getElem_cons_succ, List.getElem_cons_zero, List.setIfInBounds_toArray, List.set_cons_zero, List.set_cons_succ]
        refine wpAnyH_one 9 (by kernel_rfl) ?_
        refine wpOp_call 63 #[.int .i64 x, .int .i64 y] rfl (by kernel_rfl) (rbx_call2 _ _ _ _ _ _ _ _ rfl _ _ (by kernel_rfl) (by kernel_rfl) (Try.call63 _ _)) ?_
        refine (less_any x y _).mono ?_
        rintro e w3 ⟨rfl, hw3⟩
        obtain rfl := hw3.symm
        clear hw3
        rw [hbB]
        refine ⟨hSd, ?_⟩
        try simp only [Act.put, List.getElem_toArray, List.getElem_cons_succ, List.getElem_cons_zero, List.setIfInBounds_toArray, List.set_cons_zero, List.set_cons_succ]
        refine wpAnyH_done (by kernel_rfl) ?_ _
        clear hSd
        cases b with
        | true =>
          have hxy : x < y := of_decide_eq_true hbB
          have HF : Hid (B = false) := HBB.out ▸ bOf_f (fun h => by have := h K (by rw [← HKk.out]; exact hknz); rw [← HKk.out, HX.out, HY.out] at this; omega)
          clear hbB hxy
          go_wp2_with fail
          go_ret
          rw [HF.out]
          exact ⟨rfl, HBq.out.trans (hbd.mono HBq.out.size)⟩
        | false =>
          have hxy : ¬ x < y := of_decide_eq_false hbB
          have HPn : Hid (∀ i, K ≤ i → i + 1 < n → zs.getD i 0 ≤ zs.getD (i + 1) 0) := fun i h1 h2 => by
            rcases (by omega : K + 1 ≤ i ∨ i = K) with h | rfl
            · exact HP.out i (by have := HKk.out; omega) h2
            · rw [← HKk.out, HX.out, HY.out]; omega
          clear hbB hxy
          go_wp2_with fail
          go_roundw
          case rel => exact ⟨K, by have := HKk.out; omega, by first | rfl | (go_num) | (rw [hkK]), HPn.out, HBq.out.trans (hbd.mono HBq.out.size)⟩
          case measure => have := HKk.out; simp [intOf]; omega
      · have hkz : ¬ (0 : Int) < (k : Int) := by omega
        have HT : Hid (B = true) := HBB.out ▸ bOf_t (fun i hi => HP.out i (by omega) (by rw [HN.out] at hi; omega))
        clear hbq
        go_wp2_with fail
        go_ret
        rw [HT.out]
        exact ⟨rfl, HBq.out⟩
set_option maxHeartbeats 1000000 in
theorem stepsIn_any (c s L : Nat) (w : World) (hc : c ≤ 4611686018427387903) (hs1 : 1 ≤ s) (hs : s ≤ 4096) (hL : ((c : Int) + (s : Int) - 1) / (s : Int) = (L : Int)) :
    Calls Try.prog 32 #[.int .i64 (c : Int), .int .i64 (s : Int)] w fun e w' => e = .returned (.int .i64 (L : Int)) ∧ w' = w := by
  have hsn : (s : Int) ≠ 0 := by omega
  obtain ⟨a, ha⟩ : ∃ a : Nat, (c : Int) + (s : Int) - 1 = (a : Int) := ⟨c + s - 1, by omega⟩
  rw [ha] at hL
  have hLb : L ≤ 4611686018427391998 := by have := Int.ediv_le_self (a := (a : Int)) (s : Int) (by omega); omega
  go_enter Try.func32, Try.ntmps32
  go_wp2
  go_ret
  exact ⟨rfl, rfl⟩
theorem exec_min3 (W : World) (ρ : Operand → Value) (o : Oper) (x y z : Operand) (ho : o.op = .call { callee := .builtin .min, args := #[x, y, z], argTypes := #[3, 3, 3] }) (X Y Z M : Int) (hx : ρ x = .int .i64 X) (hy : ρ y = .int .i64 Y) (hz : ρ z = .int .i64 Z) (h : (if Z < (if Y < X then Y else X) then Z else (if Y < X then Y else X)) = M) :
    (execOp ρ o).run Try.prog W = .ok (.value (.int .i64 M)) W := by
  subst h
  unfold execOp
  simp only [ho, hx, hy, hz, Sem.run_bind, Sem.run_pure, Result.andThen_ok]
  go_simp
set_option maxHeartbeats 4000000 in
theorem implOK_any (s p c : Int) (v : Value) (zs : List Int) (w : World) (hl : zs.length ≤ 1048576) (hv : HoldI w v zs) :
    Calls Try.prog 36 #[.agg #[.int .i64 s, .int .i64 p, .int .i64 c, v]] w fun e w' => e = .returned (.bool (dgB s p c zs)) ∧ Below w.heap.size w w' := by
  have HV := hidd hv
  obtain ⟨ad, cap, rfl, -⟩ := hv
  have HSo : Hid (∀ (V : World), HoldI V (.slice ad zs.length cap) zs → Calls Try.prog 57 #[.slice ad zs.length cap] V fun e w' => e = .returned (.bool (bOf (PtS zs))) ∧ Below V.heap.size V w') := fun V hV => isSorted_any _ zs V hl hV
  have HSt : Hid (∀ (V : World), HoldI V (.slice ad zs.length cap) zs → Calls Try.prog 31 #[.slice ad zs.length cap] V fun e w' => e = .returned (.bool (bOf (PtN zs))) ∧ w' = V) := fun V hV => storable_any _ zs V hl hV
  obtain ⟨n, hn⟩ : ∃ n, zs.length = n := ⟨_, rfl⟩
  rw [hn] at hl HSo HSt HV ⊢
  have HN := hidd hn
  clear hn
  have HBa : Hid (Below w.heap.size w (w.alloc (.cells #[.int .i64 s, .int .i64 p, .int .i64 c, .slice ad n cap] 27))) := (Below.refl _ _).alloc (Nat.le_refl _) _
  have HK : Hid ((w.alloc (.cells #[.int .i64 s, .int .i64 p, .int .i64 c, .slice ad n cap] 27)).heap[w.heap.size]? = some (.cells #[.int .i64 s, .int .i64 p, .int .i64 c, .slice ad n cap] 27)) := heap_alloc_new _ _
  by_cases hS : 1 ≤ s ∧ s ≤ 4096
  · by_cases hP : 1 ≤ p ∧ p ≤ 4096
    · by_cases hC : 0 ≤ c ∧ c ≤ 4611686018427387903
      · obtain ⟨s, rfl⟩ : ∃ a : Nat, s = (a : Int) := ⟨s.toNat, by omega⟩
        obtain ⟨p, rfl⟩ : ∃ a : Nat, p = (a : Int) := ⟨p.toNat, by omega⟩
        obtain ⟨c, rfl⟩ : ∃ a : Nat, c = (a : Int) := ⟨c.toNat, by omega⟩
        obtain ⟨m, q, r, L, U, hm, hm2, hq, hr, hqc, hL1, hL0, hLe, hU⟩ := dg_nums s p c (by omega) (by omega) (by omega)
        have HI := hidd (dgHd_iff s p c n m L U (by omega) (by omega) (by omega) (by omega) (by omega) hm hLe hU)
        have hs1 : 1 ≤ s := by omega
        have hs2 : s ≤ 4096 := by omega
        have hp2 : p ≤ 4096 := by omega
        have hc2 : c ≤ 4611686018427387903 := by omega
        have hsn : (s : Int) ≠ 0 := by omega
        have hUb : U ≤ 4611686018444161023 := by have := Int.ediv_le_self (a := (c : Int) + (m : Int)) (s : Int) (by omega); omega
        obtain ⟨mn, hmn⟩ : ∃ mn : Nat, (if (512 : Int) < (if (c : Int) < (U : Int) then (c : Int) else (U : Int)) then (512 : Int) else (if (c : Int) < (U : Int) then (c : Int) else (U : Int))) = (mn : Int) := ⟨min 512 (min c U), by split <;> split at * <;> omega⟩
        have hmnle : ∀ x : Nat, x ≤ mn ↔ (x ≤ 512 ∧ x ≤ c ∧ x ≤ U) := fun x => by split at hmn <;> split at hmn <;> omega
        have HMN := hidd hmnle
        clear hq hr hqc hL1 hL0 hmnle
        obtain ⟨W, hW⟩ : ∃ W, w.alloc (.cells #[.int .i64 s, .int .i64 p, .int .i64 c, .slice ad n cap] 27) = W := ⟨_, rfl⟩
        have x0 : W.cell? ⟨w.heap.size, 0, none⟩ = some (.int .i64 (s : Int)) := by rw [← hW]; exact blkc HK.out 0
        have x1 : W.cell? ⟨w.heap.size, 1, none⟩ = some (.int .i64 (p : Int)) := by rw [← hW]; exact blkc HK.out 1
        have x2 : W.cell? ⟨w.heap.size, 2, none⟩ = some (.int .i64 (c : Int)) := by rw [← hW]; exact blkc HK.out 2
        have x3 : W.cell? ⟨w.heap.size, 3, none⟩ = some (.slice ad n cap) := by rw [← hW]; exact blkc HK.out 3
        rw [hW] at HBa HK
        have HSo : Hid (∀ (V : World), Below W.heap.size W V → Calls Try.prog 57 #[.slice ad n cap] V fun e w' => e = .returned (.bool (bOf (PtS zs))) ∧ Below V.heap.size V w') := fun V hV => HSo.out V (HV.out.below (HBa.out.trans (hV.mono HBa.out.size)))
        have HSt : Hid (∀ (V : World), Below W.heap.size W V → Calls Try.prog 31 #[.slice ad n cap] V fun e w' => e = .returned (.bool (bOf (PtN zs))) ∧ w' = V) := fun V hV => HSt.out V (HV.out.below (HBa.out.trans (hV.mono HBa.out.size)))
        obtain ⟨B, hB⟩ : ∃ B, dgB (s : Int) (p : Int) (c : Int) zs = B := ⟨_, rfl⟩
        rw [hB]
        have HBB := hidd hB
        clear hB
        have HMN2 := hidd hmn
        clear hmn
        go_enter Try.func36, Try.ntmps36
        go_upto_region 1 with fail
        try rw [hW]
        clear hW
        go_wp2_with fail
        refine (within_t (s : Int) _ _ _ hS).mono ?_
        rintro e w1 ⟨rfl, hw1⟩
        obtain rfl := hw1.symm
        clear hw1
        go_wp2_with fail
        refine (within_t (p : Int) _ _ _ hP).mono ?_
        rintro e w1 ⟨rfl, hw1⟩
        obtain rfl := hw1.symm
        clear hw1
        go_wp2_with fail
        refine (within_t (c : Int) _ _ _ hC).mono ?_
        rintro e w1 ⟨rfl, hw1⟩
        obtain rfl := hw1.symm
        clear hw1
        clear hS hP hC
        have HLe := hidd hLe
        clear hLe
        go_wp2_with fail
        have hLe := HLe.out
        have hmn := HMN2.out
        by_cases hwi : (L : Int) ≤ (n : Int) ∧ (n : Int) ≤ (mn : Int)
        · have HHd : Hid (DgHd (s : Int) (p : Int) (c : Int) zs.length) := by show DgHd _ _ _ _; rw [HN.out]; have := (HMN.out n).1 (by omega); exact HI.out.2 ⟨by omega, by omega, by omega, by omega⟩
          obtain ⟨bs, hbs⟩ : ∃ b, bOf (PtS zs) = b := ⟨_, rfl⟩
          cases bs with
          | false =>
            refine wp_region_held (S := fun u => u.cell? ⟨w.heap.size, 0, none⟩ = some (.int .i64 (s : Int)) ∧ u.cell? ⟨w.heap.size, 2, none⟩ = some (.int .i64 (c : Int)) ∧ u.cell? ⟨w.heap.size, 3, none⟩ = some (.slice ad n cap)) (by kernel_rfl) ?_
            have hbd : Below W.heap.size W ({ heap := W.heap, tape := W.tape, drawn := W.drawn + 1, os := W.os, output := W.output } : World) := (Below.refl _ _).drew
            generalize ({ heap := W.heap, tape := W.tape, drawn := W.drawn + 1, os := W.os, output := W.output } : World) = Wd at *
            have hSd : (fun u => u.cell? ⟨w.heap.size, 0, none⟩ = some (.int .i64 (s : Int)) ∧ u.cell? ⟨w.heap.size, 2, none⟩ = some (.int .i64 (c : Int)) ∧ u.cell? ⟨w.heap.size, 3, none⟩ = some (.slice ad n cap)) Wd := ⟨(hbd.cell (cell_lt x0)).trans x0, (hbd.cell (cell_lt x2)).trans x2, (hbd.cell (cell_lt x3)).trans x3⟩
            try simp only [Act.put, List.getElem_toArray, List.getElem_cons_succ, List.getElem_cons_zero, List.setIfInBounds_toArray, List.set_cons_zero, List.set_cons_succ]
            refine tkX 0 (hS := hSd) (h := ?_)
            try simp only [Act.put, List.getElem_toArray, List.getElem_cons_succ, List.getElem_cons_zero, List.setIfInBounds_toArray, List.set_cons_zero, List.set_cons_succ]
            refine tkX 1 (v := .slice ad n cap) (hS := hSd) (h := ?_)
            try simp only [Act.put, List.getElem_toArray, List.getElem_cons_succ, List.getElem_cons_zero, List.setIfInBounds_toArray, List.set_cons_zero, List.set_cons_succ]
            refine tkX 2 (v := .int .i64 (n : Int)) (hS := hSd) (h := ?_)
            try simp only [Act.put, List.getElem_toArray, List.getElem_cons_succ, List.getElem_cons_zero, List.setIfInBounds_toArray, List.set_cons_zero, List.set_cons_succ]
            refine tkX 3 (hS := hSd) (h := ?_)
            try simp only [Act.put, List.getElem_toArray, List.getElem_cons_succ, List.getElem_cons_zero, List.setIfInBounds_toArray, List.set_cons_zero, List.set_cons_succ]
            refine tkX 4 (v := .int .i64 (c : Int)) (hS := hSd) (h := ?_)
            try simp only [Act.put, List.getElem_toArray, List.getElem_cons_succ, List.getElem_cons_zero, List.setIfInBounds_toArray, List.set_cons_zero, List.set_cons_succ]
            refine tkX 5 (hS := hSd) (h := ?_)
            try simp only [Act.put, List.getElem_toArray, List.getElem_cons_succ, List.getElem_cons_zero, List.setIfInBounds_toArray, List.set_cons_zero, List.set_cons_succ]
            refine tkX 6 (v := .int .i64 (s : Int)) (hS := hSd) (h := ?_)
            try simp only [Act.put, List.getElem_toArray, List.getElem_cons_succ, List.getElem_cons_zero, List.setIfInBounds_toArray, List.set_cons_zero, List.set_cons_succ]
            refine tkX 8 (hS := hSd) (h := ?_)
            try simp only [Act.put, List.getElem_toArray, List.getElem_cons_succ, List.getElem_cons_zero, List.setIfInBounds_toArray, List.set_cons_zero, List.set_cons_succ]
            refine tkX 9 (hS := hSd) (h := ?_)
            try simp only [Act.put, List.getElem_toArray, List.getElem_cons_succ, List.getElem_cons_zero, List.setIfInBounds_toArray, List.set_cons_zero, List.set_cons_succ]
            refine tkX 10 (v := .int .i64 (c : Int)) (hS := hSd) (h := ?_)
            try simp only [Act.put, List.getElem_toArray, List.getElem_cons_succ, List.getElem_cons_zero, List.setIfInBounds_toArray, List.set_cons_zero, List.set_cons_succ]
            refine wpAnyH_take (i := 11) (v := .int .i64 (mn : Int)) rfl (by kernel_rfl) (by kernel_rfl) (by kernel_rfl) (fun _ _ _ h => h) (Or.inl ⟨by kernel_rfl, fun W hW => exec_min3 W _ _ _ _ _ rfl _ _ _ _ (by kernel_rfl) (by kernel_rfl) (by kernel_rfl) hmn⟩) hSd ?_
            try simp only [Act.put, List.getElem_toArray, List.getElem_cons_succ, List.getElem_cons_zero, List.setIfInBounds_toArray, List.set_cons_zero, List.set_cons_succ]
            refine wpAnyH_one 7 (by kernel_rfl) ?_
            refine wpOp_call 32 #[.int .i64 (c : Int), .int .i64 (s : Int)] rfl (by kernel_rfl) (rbx_call2 _ _ _ _ _ _ _ _ rfl _ _ (by kernel_rfl) (by kernel_rfl) (Try.call32 _ _)) ?_
            refine (stepsIn_any c s L _ hc2 hs1 hs2 hLe).mono ?_
            rintro e w3 ⟨rfl, hw3⟩
            obtain rfl := hw3.symm
            clear hw3
            refine ⟨hSd, ?_⟩
            try simp only [Act.put, List.getElem_toArray, List.getElem_cons_succ, List.getElem_cons_zero, List.setIfInBounds_toArray, List.set_cons_zero, List.set_cons_succ]
            refine wpAnyH_one 12 (by kernel_rfl) ?_
            refine wpOp_call 30 #[.int .i64 (n : Int), .int .i64 (L : Int), .int .i64 (mn : Int)] rfl (by kernel_rfl) (rbx_call3 _ _ _ _ _ _ _ _ _ _ rfl _ _ _ (by kernel_rfl) (by kernel_rfl) (by kernel_rfl) (Try.call30 _ _)) ?_
            refine (within_t (n : Int) (L : Int) (mn : Int) _ hwi).mono ?_
            rintro e w3 ⟨rfl, hw3⟩
            obtain rfl := hw3.symm
            clear hw3
            refine ⟨hSd, ?_⟩
            try simp only [Act.put, List.getElem_toArray, List.getElem_cons_succ, List.getElem_cons_zero, List.setIfInBounds_toArray, List.set_cons_zero, List.set_cons_succ]
            refine tkX 13 (hS := hSd) (h := ?_)
            try simp only [Act.put, List.getElem_toArray, List.getElem_cons_succ, List.getElem_cons_zero, List.setIfInBounds_toArray, List.set_cons_zero, List.set_cons_succ]
            refine tkX 14 (hS := hSd) (h := ?_)
            try simp only [Act.put, List.getElem_toArray, List.getElem_cons_succ, List.getElem_cons_zero, List.setIfInBounds_toArray, List.set_cons_zero, List.set_cons_succ]
            refine tkX 15 (v := .slice ad n cap) (hS := hSd) (h := ?_)
            try simp only [Act.put, List.getElem_toArray, List.getElem_cons_succ, List.getElem_cons_zero, List.setIfInBounds_toArray, List.set_cons_zero, List.set_cons_succ]
            refine wpAnyH_one 16 (by kernel_rfl) ?_
            refine wpOp_call 57 #[.slice ad n cap] rfl (by kernel_rfl) (rbx_call1 _ _ _ _ _ _ rfl _ (by kernel_rfl) (Try.call57 _ _)) ?_
            refine (HSo.out Wd hbd).mono ?_
            rintro e w4 ⟨rfl, hb4⟩
            rw [hbs]
            have hb24 := hbd.trans (hb4.mono hbd.size)
            have hS4 : (fun u => u.cell? ⟨w.heap.size, 0, none⟩ = some (.int .i64 (s : Int)) ∧ u.cell? ⟨w.heap.size, 2, none⟩ = some (.int .i64 (c : Int)) ∧ u.cell? ⟨w.heap.size, 3, none⟩ = some (.slice ad n cap)) w4 := ⟨(hb24.cell (cell_lt x0)).trans x0, (hb24.cell (cell_lt x2)).trans x2, (hb24.cell (cell_lt x3)).trans x3⟩
            refine ⟨hS4, ?_⟩
            try simp only [Act.put, List.getElem_toArray, List.getElem_cons_succ, List.getElem_cons_zero, List.setIfInBounds_toArray, List.set_cons_zero, List.set_cons_succ]
            refine wpAnyH_take (i := 17) (v := .bool false) rfl (by kernel_rfl) (by kernel_rfl) (by kernel_rfl) (fun _ _ _ h => h) (Or.inl ⟨by kernel_rfl, fun W hW => exec_pick W _ _ _ _ _ rfl true (by kernel_rfl) _ (by kernel_rfl)⟩) hS4 ?_
            try simp only [Act.put, List.getElem_toArray, List.getElem_cons_succ, List.getElem_cons_zero, List.setIfInBounds_toArray, List.set_cons_zero, List.set_cons_succ]
            refine tkX 18 (hS := hS4) (h := ?_)
            try simp only [Act.put, List.getElem_toArray, List.getElem_cons_succ, List.getElem_cons_zero, List.setIfInBounds_toArray, List.set_cons_zero, List.set_cons_succ]
            refine tkS 19 (hS := hS4) (h := ?_)
            try simp only [Act.put, List.getElem_toArray, List.getElem_cons_succ, List.getElem_cons_zero, List.setIfInBounds_toArray, List.set_cons_zero, List.set_cons_succ]
            refine tkS 20 (hS := hS4) (h := ?_)
            try simp only [Act.put, List.getElem_toArray, List.getElem_cons_succ, List.getElem_cons_zero, List.setIfInBounds_toArray, List.set_cons_zero, List.set_cons_succ]
            refine tkS 21 (hS := hS4) (h := ?_)
            try simp only [Act.put, List.getElem_toArray, List.getElem_cons_succ, List.getElem_cons_zero, List.setIfInBounds_toArray, List.set_cons_zero, List.set_cons_succ]
            refine wpAnyH_take (i := 22) (v := .bool false) rfl (by kernel_rfl) (by kernel_rfl) (by kernel_rfl) (fun _ _ _ h => h) (Or.inl ⟨by kernel_rfl, fun W hW => exec_pick W _ _ _ _ _ rfl false (by kernel_rfl) _ (by kernel_rfl)⟩) hS4 ?_
            try simp only [Act.put, List.getElem_toArray, List.getElem_cons_succ, List.getElem_cons_zero, List.setIfInBounds_toArray, List.set_cons_zero, List.set_cons_succ]
            refine tkX 23 (hS := hS4) (h := ?_)
            try simp only [Act.put, List.getElem_toArray, List.getElem_cons_succ, List.getElem_cons_zero, List.setIfInBounds_toArray, List.set_cons_zero, List.set_cons_succ]
            refine wpAnyH_done (by kernel_rfl) ?_ _
            clear hSd hS4 hLe hmn
            have HF : Hid (B = false) := HBB.out ▸ dgB_f (fun h => bOf_no hbs h.2.2)
            go_wp2_with fail
            go_ret
            rw [HF.out]
            exact ⟨rfl, HBa.out.trans (hb24.mono HBa.out.size)⟩
          | true =>
            refine wp_region_held (S := fun u => u.cell? ⟨w.heap.size, 0, none⟩ = some (.int .i64 (s : Int)) ∧ u.cell? ⟨w.heap.size, 2, none⟩ = some (.int .i64 (c : Int)) ∧ u.cell? ⟨w.heap.size, 3, none⟩ = some (.slice ad n cap)) (by kernel_rfl) ?_
            have hbd : Below W.heap.size W ({ heap := W.heap, tape := W.tape, drawn := W.drawn + 1, os := W.os, output := W.output } : World) := (Below.refl _ _).drew
            generalize ({ heap := W.heap, tape := W.tape, drawn := W.drawn + 1, os := W.os, output := W.output } : World) = Wd at *
            have hSd : (fun u => u.cell? ⟨w.heap.size, 0, none⟩ = some (.int .i64 (s : Int)) ∧ u.cell? ⟨w.heap.size, 2, none⟩ = some (.int .i64 (c : Int)) ∧ u.cell? ⟨w.heap.size, 3, none⟩ = some (.slice ad n cap)) Wd := ⟨(hbd.cell (cell_lt x0)).trans x0, (hbd.cell (cell_lt x2)).trans x2, (hbd.cell (cell_lt x3)).trans x3⟩
            try simp only [Act.put, List.getElem_toArray, List.getElem_cons_succ, List.getElem_cons_zero, List.setIfInBounds_toArray, List.set_cons_zero, List.set_cons_succ]
            refine tkX 0 (hS := hSd) (h := ?_)
            try simp only [Act.put, List.getElem_toArray, List.getElem_cons_succ, List.getElem_cons_zero, List.setIfInBounds_toArray, List.set_cons_zero, List.set_cons_succ]
            refine tkX 1 (v := .slice ad n cap) (hS := hSd) (h := ?_)
            try simp only [Act.put, List.getElem_toArray, List.getElem_cons_succ, List.getElem_cons_zero, List.setIfInBounds_toArray, List.set_cons_zero, List.set_cons_succ]
            refine tkX 2 (v := .int .i64 (n : Int)) (hS := hSd) (h := ?_)
            try simp only [Act.put, List.getElem_toArray, List.getElem_cons_succ, List.getElem_cons_zero, List.setIfInBounds_toArray, List.set_cons_zero, List.set_cons_succ]
            refine tkX 3 (hS := hSd) (h := ?_)
            try simp only [Act.put, List.getElem_toArray, List.getElem_cons_succ, List.getElem_cons_zero, List.setIfInBounds_toArray, List.set_cons_zero, List.set_cons_succ]
            refine tkX 4 (v := .int .i64 (c : Int)) (hS := hSd) (h := ?_)
            try simp only [Act.put, List.getElem_toArray, List.getElem_cons_succ, List.getElem_cons_zero, List.setIfInBounds_toArray, List.set_cons_zero, List.set_cons_succ]
            refine tkX 5 (hS := hSd) (h := ?_)
            try simp only [Act.put, List.getElem_toArray, List.getElem_cons_succ, List.getElem_cons_zero, List.setIfInBounds_toArray, List.set_cons_zero, List.set_cons_succ]
            refine tkX 6 (v := .int .i64 (s : Int)) (hS := hSd) (h := ?_)
            try simp only [Act.put, List.getElem_toArray, List.getElem_cons_succ, List.getElem_cons_zero, List.setIfInBounds_toArray, List.set_cons_zero, List.set_cons_succ]
            refine tkX 8 (hS := hSd) (h := ?_)
            try simp only [Act.put, List.getElem_toArray, List.getElem_cons_succ, List.getElem_cons_zero, List.setIfInBounds_toArray, List.set_cons_zero, List.set_cons_succ]
            refine tkX 9 (hS := hSd) (h := ?_)
            try simp only [Act.put, List.getElem_toArray, List.getElem_cons_succ, List.getElem_cons_zero, List.setIfInBounds_toArray, List.set_cons_zero, List.set_cons_succ]
            refine tkX 10 (v := .int .i64 (c : Int)) (hS := hSd) (h := ?_)
            try simp only [Act.put, List.getElem_toArray, List.getElem_cons_succ, List.getElem_cons_zero, List.setIfInBounds_toArray, List.set_cons_zero, List.set_cons_succ]
            refine wpAnyH_take (i := 11) (v := .int .i64 (mn : Int)) rfl (by kernel_rfl) (by kernel_rfl) (by kernel_rfl) (fun _ _ _ h => h) (Or.inl ⟨by kernel_rfl, fun W hW => exec_min3 W _ _ _ _ _ rfl _ _ _ _ (by kernel_rfl) (by kernel_rfl) (by kernel_rfl) hmn⟩) hSd ?_
            try simp only [Act.put, List.getElem_toArray, List.getElem_cons_succ, List.getElem_cons_zero, List.setIfInBounds_toArray, List.set_cons_zero, List.set_cons_succ]
            refine wpAnyH_one 7 (by kernel_rfl) ?_
            refine wpOp_call 32 #[.int .i64 (c : Int), .int .i64 (s : Int)] rfl (by kernel_rfl) (rbx_call2 _ _ _ _ _ _ _ _ rfl _ _ (by kernel_rfl) (by kernel_rfl) (Try.call32 _ _)) ?_
            refine (stepsIn_any c s L _ hc2 hs1 hs2 hLe).mono ?_
            rintro e w3 ⟨rfl, hw3⟩
            obtain rfl := hw3.symm
            clear hw3
            refine ⟨hSd, ?_⟩
            try simp only [Act.put, List.getElem_toArray, List.getElem_cons_succ, List.getElem_cons_zero, List.setIfInBounds_toArray, List.set_cons_zero, List.set_cons_succ]
            refine wpAnyH_one 12 (by kernel_rfl) ?_
            refine wpOp_call 30 #[.int .i64 (n : Int), .int .i64 (L : Int), .int .i64 (mn : Int)] rfl (by kernel_rfl) (rbx_call3 _ _ _ _ _ _ _ _ _ _ rfl _ _ _ (by kernel_rfl) (by kernel_rfl) (by kernel_rfl) (Try.call30 _ _)) ?_
            refine (within_t (n : Int) (L : Int) (mn : Int) _ hwi).mono ?_
            rintro e w3 ⟨rfl, hw3⟩
            obtain rfl := hw3.symm
            clear hw3
            refine ⟨hSd, ?_⟩
            try simp only [Act.put, List.getElem_toArray, List.getElem_cons_succ, List.getElem_cons_zero, List.setIfInBounds_toArray, List.set_cons_zero, List.set_cons_succ]
            refine tkX 13 (hS := hSd) (h := ?_)
            try simp only [Act.put, List.getElem_toArray, List.getElem_cons_succ, List.getElem_cons_zero, List.setIfInBounds_toArray, List.set_cons_zero, List.set_cons_succ]
            refine tkX 14 (hS := hSd) (h := ?_)
            try simp only [Act.put, List.getElem_toArray, List.getElem_cons_succ, List.getElem_cons_zero, List.setIfInBounds_toArray, List.set_cons_zero, List.set_cons_succ]
            refine tkX 15 (v := .slice ad n cap) (hS := hSd) (h := ?_)
            try simp only [Act.put, List.getElem_toArray, List.getElem_cons_succ, List.getElem_cons_zero, List.setIfInBounds_toArray, List.set_cons_zero, List.set_cons_succ]
            refine wpAnyH_one 16 (by kernel_rfl) ?_
            refine wpOp_call 57 #[.slice ad n cap] rfl (by kernel_rfl) (rbx_call1 _ _ _ _ _ _ rfl _ (by kernel_rfl) (Try.call57 _ _)) ?_
            refine (HSo.out Wd hbd).mono ?_
            rintro e w4 ⟨rfl, hb4⟩
            rw [hbs]
            have hb24 := hbd.trans (hb4.mono hbd.size)
            have hS4 : (fun u => u.cell? ⟨w.heap.size, 0, none⟩ = some (.int .i64 (s : Int)) ∧ u.cell? ⟨w.heap.size, 2, none⟩ = some (.int .i64 (c : Int)) ∧ u.cell? ⟨w.heap.size, 3, none⟩ = some (.slice ad n cap)) w4 := ⟨(hb24.cell (cell_lt x0)).trans x0, (hb24.cell (cell_lt x2)).trans x2, (hb24.cell (cell_lt x3)).trans x3⟩
            refine ⟨hS4, ?_⟩
            try simp only [Act.put, List.getElem_toArray, List.getElem_cons_succ, List.getElem_cons_zero, List.setIfInBounds_toArray, List.set_cons_zero, List.set_cons_succ]
            refine wpAnyH_take (i := 17) (v := .bool true) rfl (by kernel_rfl) (by kernel_rfl) (by kernel_rfl) (fun _ _ _ h => h) (Or.inl ⟨by kernel_rfl, fun W hW => exec_pick W _ _ _ _ _ rfl true (by kernel_rfl) _ (by kernel_rfl)⟩) hS4 ?_
            try simp only [Act.put, List.getElem_toArray, List.getElem_cons_succ, List.getElem_cons_zero, List.setIfInBounds_toArray, List.set_cons_zero, List.set_cons_succ]
            refine tkX 18 (hS := hS4) (h := ?_)
            try simp only [Act.put, List.getElem_toArray, List.getElem_cons_succ, List.getElem_cons_zero, List.setIfInBounds_toArray, List.set_cons_zero, List.set_cons_succ]
            refine tkX 19 (hS := hS4) (h := ?_)
            try simp only [Act.put, List.getElem_toArray, List.getElem_cons_succ, List.getElem_cons_zero, List.setIfInBounds_toArray, List.set_cons_zero, List.set_cons_succ]
            refine tkX 20 (v := .slice ad n cap) (hS := hS4) (h := ?_)
            try simp only [Act.put, List.getElem_toArray, List.getElem_cons_succ, List.getElem_cons_zero, List.setIfInBounds_toArray, List.set_cons_zero, List.set_cons_succ]
            refine wpAnyH_one 21 (by kernel_rfl) ?_
            refine wpOp_call 31 #[.slice ad n cap] rfl (by kernel_rfl) (rbx_call1 _ _ _ _ _ _ rfl _ (by kernel_rfl) (Try.call31 _ _)) ?_
            refine (HSt.out w4 hb24).mono ?_
            rintro e w5 ⟨rfl, hw5⟩
            obtain rfl := hw5.symm
            clear hw5
            refine ⟨hS4, ?_⟩
            try simp only [Act.put, List.getElem_toArray, List.getElem_cons_succ, List.getElem_cons_zero, List.setIfInBounds_toArray, List.set_cons_zero, List.set_cons_succ]
            refine wpAnyH_take (i := 22) (v := .bool (bOf (PtN zs))) rfl (by kernel_rfl) (by kernel_rfl) (by kernel_rfl) (fun _ _ _ h => h) (Or.inl ⟨by kernel_rfl, fun W hW => exec_pick W _ _ _ _ _ rfl true (by kernel_rfl) _ (by kernel_rfl)⟩) hS4 ?_
            try simp only [Act.put, List.getElem_toArray, List.getElem_cons_succ, List.getElem_cons_zero, List.setIfInBounds_toArray, List.set_cons_zero, List.set_cons_succ]
            refine tkX 23 (hS := hS4) (h := ?_)
            try simp only [Act.put, List.getElem_toArray, List.getElem_cons_succ, List.getElem_cons_zero, List.setIfInBounds_toArray, List.set_cons_zero, List.set_cons_succ]
            refine wpAnyH_done (by kernel_rfl) ?_ _
            clear hSd hS4 hLe hmn
            have HF : Hid (bOf (PtN zs) = B) := by
              show _ = _
              cases hb9 : bOf (PtN zs) with
              | true => exact (HBB.out ▸ dgB_t ⟨HHd.out, bOf_ok hb9, bOf_ok hbs⟩ : B = true).symm
              | false => exact (HBB.out ▸ dgB_f (fun h => bOf_no hb9 h.2.1) : B = false).symm
            go_wp2_with fail
            go_ret
            rw [HF.out]
            exact ⟨rfl, HBa.out.trans (hb24.mono HBa.out.size)⟩
        · have HF : Hid (B = false) := HBB.out ▸ dgB_f (fun h => by have h1 := HI.out.1 (HN.out ▸ h.1); have h2 := (HMN.out n).2 ⟨h1.1, h1.2.1, h1.2.2.2⟩; omega)
          refine wp_region_held (S := fun u => u.cell? ⟨w.heap.size, 0, none⟩ = some (.int .i64 (s : Int)) ∧ u.cell? ⟨w.heap.size, 2, none⟩ = some (.int .i64 (c : Int)) ∧ u.cell? ⟨w.heap.size, 3, none⟩ = some (.slice ad n cap)) (by kernel_rfl) ?_
          have hbd : Below W.heap.size W ({ heap := W.heap, tape := W.tape, drawn := W.drawn + 1, os := W.os, output := W.output } : World) := (Below.refl _ _).drew
          generalize ({ heap := W.heap, tape := W.tape, drawn := W.drawn + 1, os := W.os, output := W.output } : World) = Wd at *
          have hSd : (fun u => u.cell? ⟨w.heap.size, 0, none⟩ = some (.int .i64 (s : Int)) ∧ u.cell? ⟨w.heap.size, 2, none⟩ = some (.int .i64 (c : Int)) ∧ u.cell? ⟨w.heap.size, 3, none⟩ = some (.slice ad n cap)) Wd := ⟨(hbd.cell (cell_lt x0)).trans x0, (hbd.cell (cell_lt x2)).trans x2, (hbd.cell (cell_lt x3)).trans x3⟩
          try simp only [Act.put, List.getElem_toArray, List.getElem_cons_succ, List.getElem_cons_zero, List.setIfInBounds_toArray, List.set_cons_zero, List.set_cons_succ]
          refine tkX 0 (hS := hSd) (h := ?_)
          try simp only [Act.put, List.getElem_toArray, List.getElem_cons_succ, List.getElem_cons_zero, List.setIfInBounds_toArray, List.set_cons_zero, List.set_cons_succ]
          refine tkX 1 (v := .slice ad n cap) (hS := hSd) (h := ?_)
          try simp only [Act.put, List.getElem_toArray, List.getElem_cons_succ, List.getElem_cons_zero, List.setIfInBounds_toArray, List.set_cons_zero, List.set_cons_succ]
          refine tkX 2 (v := .int .i64 (n : Int)) (hS := hSd) (h := ?_)
          try simp only [Act.put, List.getElem_toArray, List.getElem_cons_succ, List.getElem_cons_zero, List.setIfInBounds_toArray, List.set_cons_zero, List.set_cons_succ]
          refine tkX 3 (hS := hSd) (h := ?_)
          try simp only [Act.put, List.getElem_toArray, List.getElem_cons_succ, List.getElem_cons_zero, List.setIfInBounds_toArray, List.set_cons_zero, List.set_cons_succ]
          refine tkX 4 (v := .int .i64 (c : Int)) (hS := hSd) (h := ?_)
          try simp only [Act.put, List.getElem_toArray, List.getElem_cons_succ, List.getElem_cons_zero, List.setIfInBounds_toArray, List.set_cons_zero, List.set_cons_succ]
          refine tkX 5 (hS := hSd) (h := ?_)
          try simp only [Act.put, List.getElem_toArray, List.getElem_cons_succ, List.getElem_cons_zero, List.setIfInBounds_toArray, List.set_cons_zero, List.set_cons_succ]
          refine tkX 6 (v := .int .i64 (s : Int)) (hS := hSd) (h := ?_)
          try simp only [Act.put, List.getElem_toArray, List.getElem_cons_succ, List.getElem_cons_zero, List.setIfInBounds_toArray, List.set_cons_zero, List.set_cons_succ]
          refine tkX 8 (hS := hSd) (h := ?_)
          try simp only [Act.put, List.getElem_toArray, List.getElem_cons_succ, List.getElem_cons_zero, List.setIfInBounds_toArray, List.set_cons_zero, List.set_cons_succ]
          refine tkX 9 (hS := hSd) (h := ?_)
          try simp only [Act.put, List.getElem_toArray, List.getElem_cons_succ, List.getElem_cons_zero, List.setIfInBounds_toArray, List.set_cons_zero, List.set_cons_succ]
          refine tkX 10 (v := .int .i64 (c : Int)) (hS := hSd) (h := ?_)
          try simp only [Act.put, List.getElem_toArray, List.getElem_cons_succ, List.getElem_cons_zero, List.setIfInBounds_toArray, List.set_cons_zero, List.set_cons_succ]
          refine wpAnyH_take (i := 11) (v := .int .i64 (mn : Int)) rfl (by kernel_rfl) (by kernel_rfl) (by kernel_rfl) (fun _ _ _ h => h) (Or.inl ⟨by kernel_rfl, fun W hW => exec_min3 W _ _ _ _ _ rfl _ _ _ _ (by kernel_rfl) (by kernel_rfl) (by kernel_rfl) hmn⟩) hSd ?_
          try simp only [Act.put, List.getElem_toArray, List.getElem_cons_succ, List.getElem_cons_zero, List.setIfInBounds_toArray, List.set_cons_zero, List.set_cons_succ]
          refine wpAnyH_one 7 (by kernel_rfl) ?_
          refine wpOp_call 32 #[.int .i64 (c : Int), .int .i64 (s : Int)] rfl (by kernel_rfl) (rbx_call2 _ _ _ _ _ _ _ _ rfl _ _ (by kernel_rfl) (by kernel_rfl) (Try.call32 _ _)) ?_
          refine (stepsIn_any c s L _ hc2 hs1 hs2 hLe).mono ?_
          rintro e w3 ⟨rfl, hw3⟩
          obtain rfl := hw3.symm
          clear hw3
          refine ⟨hSd, ?_⟩
          try simp only [Act.put, List.getElem_toArray, List.getElem_cons_succ, List.getElem_cons_zero, List.setIfInBounds_toArray, List.set_cons_zero, List.set_cons_succ]
          refine wpAnyH_one 12 (by kernel_rfl) ?_
          refine wpOp_call 30 #[.int .i64 (n : Int), .int .i64 (L : Int), .int .i64 (mn : Int)] rfl (by kernel_rfl) (rbx_call3 _ _ _ _ _ _ _ _ _ _ rfl _ _ _ (by kernel_rfl) (by kernel_rfl) (by kernel_rfl) (Try.call30 _ _)) ?_
          refine (within_f (n : Int) (L : Int) (mn : Int) _ hwi).mono ?_
          rintro e w3 ⟨rfl, hw3⟩
          obtain rfl := hw3.symm
          clear hw3
          refine ⟨hSd, ?_⟩
          try simp only [Act.put, List.getElem_toArray, List.getElem_cons_succ, List.getElem_cons_zero, List.setIfInBounds_toArray, List.set_cons_zero, List.set_cons_succ]
          refine tkX 13 (hS := hSd) (h := ?_)
          try simp only [Act.put, List.getElem_toArray, List.getElem_cons_succ, List.getElem_cons_zero, List.setIfInBounds_toArray, List.set_cons_zero, List.set_cons_succ]
          refine tkS 14 (hS := hSd) (h := ?_)
          try simp only [Act.put, List.getElem_toArray, List.getElem_cons_succ, List.getElem_cons_zero, List.setIfInBounds_toArray, List.set_cons_zero, List.set_cons_succ]
          refine tkS 15 (hS := hSd) (h := ?_)
          try simp only [Act.put, List.getElem_toArray, List.getElem_cons_succ, List.getElem_cons_zero, List.setIfInBounds_toArray, List.set_cons_zero, List.set_cons_succ]
          refine tkS 16 (hS := hSd) (h := ?_)
          try simp only [Act.put, List.getElem_toArray, List.getElem_cons_succ, List.getElem_cons_zero, List.setIfInBounds_toArray, List.set_cons_zero, List.set_cons_succ]
          refine wpAnyH_take (i := 17) (v := .bool false) rfl (by kernel_rfl) (by kernel_rfl) (by kernel_rfl) (fun _ _ _ h => h) (Or.inl ⟨by kernel_rfl, fun W hW => exec_pick W _ _ _ _ _ rfl false (by kernel_rfl) _ (by kernel_rfl)⟩) hSd ?_
          try simp only [Act.put, List.getElem_toArray, List.getElem_cons_succ, List.getElem_cons_zero, List.setIfInBounds_toArray, List.set_cons_zero, List.set_cons_succ]
          refine tkX 18 (hS := hSd) (h := ?_)
          try simp only [Act.put, List.getElem_toArray, List.getElem_cons_succ, List.getElem_cons_zero, List.setIfInBounds_toArray, List.set_cons_zero, List.set_cons_succ]
          refine tkS 19 (hS := hSd) (h := ?_)
          try simp only [Act.put, List.getElem_toArray, List.getElem_cons_succ, List.getElem_cons_zero, List.setIfInBounds_toArray, List.set_cons_zero, List.set_cons_succ]
          refine tkS 20 (hS := hSd) (h := ?_)
          try simp only [Act.put, List.getElem_toArray, List.getElem_cons_succ, List.getElem_cons_zero, List.setIfInBounds_toArray, List.set_cons_zero, List.set_cons_succ]
          refine tkS 21 (hS := hSd) (h := ?_)
          try simp only [Act.put, List.getElem_toArray, List.getElem_cons_succ, List.getElem_cons_zero, List.setIfInBounds_toArray, List.set_cons_zero, List.set_cons_succ]
          refine wpAnyH_take (i := 22) (v := .bool false) rfl (by kernel_rfl) (by kernel_rfl) (by kernel_rfl) (fun _ _ _ h => h) (Or.inl ⟨by kernel_rfl, fun W hW => exec_pick W _ _ _ _ _ rfl false (by kernel_rfl) _ (by kernel_rfl)⟩) hSd ?_
          try simp only [Act.put, List.getElem_toArray, List.getElem_cons_succ, List.getElem_cons_zero, List.setIfInBounds_toArray, List.set_cons_zero, List.set_cons_succ]
          refine tkX 23 (hS := hSd) (h := ?_)
          try simp only [Act.put, List.getElem_toArray, List.getElem_cons_succ, List.getElem_cons_zero, List.setIfInBounds_toArray, List.set_cons_zero, List.set_cons_succ]
          refine wpAnyH_done (by kernel_rfl) ?_ _
          clear hSd hLe hmn
          go_wp2_with fail
          go_ret
          rw [HF.out]
          exact ⟨rfl, HBa.out.trans (hbd.mono HBa.out.size)⟩
      · have HF : Hid (dgB s p c zs = false) := dgB_f (fun h' => hC ⟨h'.1.2.2.2.2.1, h'.1.2.2.2.2.2.1⟩)
        rw [HF.out]
        clear HK HSo HSt
        go_enter Try.func36, Try.ntmps36
        go_wp2_with fail
        refine (within_t s _ _ _ hS).mono ?_
        rintro e w1 ⟨rfl, hw1⟩
        obtain rfl := hw1.symm
        clear hw1
        go_wp2_with fail
        refine (within_t p _ _ _ hP).mono ?_
        rintro e w1 ⟨rfl, hw1⟩
        obtain rfl := hw1.symm
        clear hw1
        go_wp2_with fail
        refine (within_f c _ _ _ hC).mono ?_
        rintro e w1 ⟨rfl, hw1⟩
        obtain rfl := hw1.symm
        clear hw1
        go_wp2_with fail
        go_ret
        exact ⟨rfl, HBa.out⟩
    · have HF : Hid (dgB s p c zs = false) := dgB_f (fun h' => hP ⟨h'.1.2.2.1, h'.1.2.2.2.1⟩)
      rw [HF.out]
      clear HK HSo HSt
      go_enter Try.func36, Try.ntmps36
      go_wp2_with fail
      refine (within_t s _ _ _ hS).mono ?_
      rintro e w1 ⟨rfl, hw1⟩
      obtain rfl := hw1.symm
      clear hw1
      go_wp2_with fail
      refine (within_f p _ _ _ hP).mono ?_
      rintro e w1 ⟨rfl, hw1⟩
      obtain rfl := hw1.symm
      clear hw1
      go_wp2_with fail
      go_ret
      exact ⟨rfl, HBa.out⟩
  · have HF : Hid (dgB s p c zs = false) := dgB_f (fun h' => hS ⟨h'.1.1, h'.1.2.1⟩)
    rw [HF.out]
    clear HK HSo HSt
    go_enter Try.func36, Try.ntmps36
    go_wp2_with fail
    refine (within_f s _ _ _ hS).mono ?_
    rintro e w1 ⟨rfl, hw1⟩
    obtain rfl := hw1.symm
    clear hw1
    go_wp2_with fail
    go_ret
    exact ⟨rfl, HBa.out⟩
end Go.Proofs.Ytboocdiilbcdcaa
