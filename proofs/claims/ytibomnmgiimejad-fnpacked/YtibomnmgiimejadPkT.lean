import Derived.Test.YtibomnmgiimejadPkW
namespace Go.Proofs.Ytibomnmgiimejad
open Go Go.RowKit
set_option linter.unusedVariables false

def padL (vs : List Nat) : List Nat := vs ++ List.replicate (128 - vs.length) 0
theorem padL_length (vs : List Nat) (h : vs.length ≤ 128) : (padL vs).length = 128 := by simp [padL]; omega
theorem padL_nil : padL [] = zeros := rfl
theorem padL_set (vs : List Nat) (v : Nat) (h : vs.length < 128) : (padL vs).set vs.length v = padL (vs ++ [v]) := by
  unfold padL
  obtain ⟨m, hm⟩ : ∃ m, 128 - vs.length = m + 1 := ⟨128 - vs.length - 1, by omega⟩
  have hm2 : 128 - (vs ++ [v]).length = m := by simp; omega
  rw [hm2, hm, List.replicate_succ, List.set_append_right _ _ (Nat.le_refl _), Nat.sub_self, List.set_cons_zero]
  simp
theorem padL_take (vs : List Nat) : (padL vs).take vs.length = vs := by unfold padL; rw [List.take_left]
theorem numL_pad (w : Nat) (vs : List Nat) : numL w (padL vs) = numL w vs := numL_zeros w vs _
theorem padL_mem (vs : List Nat) (P : Nat → Prop) (h0 : P 0) (h : ∀ v ∈ vs, P v) : ∀ v ∈ padL vs, P v := by
  intro v hv
  unfold padL at hv
  rcases List.mem_append.1 hv with hv | hv
  · exact h v hv
  · rw [(List.mem_replicate.1 hv).2]; exact h0
theorem widthG_zeros (k : Nat) : ∀ w, widthG (List.replicate k 0) w = w := by
  induction k with
  | zero => intro w; rfl
  | succ k ih =>
    intro w
    have e : max w (Lib.bitLen 0) = w := by have : Lib.bitLen 0 = 0 := by decide
                                            rw [this]; omega
    rw [List.replicate_succ, widthG, List.foldl_cons, e]
    exact ih w
theorem widthL_pad (vs : List Nat) : widthL (padL vs) = widthL vs := by
  unfold widthL padL
  rw [widthG, List.foldl_append]
  exact widthG_zeros _ _
theorem takeN_succ (k w M : Nat) : takeN (k + 1) w M = takeN k w M ++ [M / 2 ^ (k * w) % 2 ^ w] := by simp [takeN, List.range_succ]

set_option maxHeartbeats 2000000 in
set_option maxRecDepth 100000 in
theorem taken_any (M n width : Nat) (w : World) (hn : n ≤ 128) (hw : width ≤ 62) :
    Calls Try.prog 99 #[.agg (uArr (wordsL M)), .int .i64 (n : Int), .int .i64 (width : Int)] w fun e w' => e = .returned (.agg (uArr (padL (takeN n width M)))) ∧ Below w.heap.size w w' := by
  have hl := wordsL_length M
  generalize hws : wordsL M = ws at *
  have Hws := hidd hws
  clear hws
  go_enter Try.func99, Try.ntmps99
  go_wp2_with (first | (refine wpB_box rfl _ rfl ws rfl ?_) | (refine wpB_alloc rfl rfl ?_))
  go_loopw [12] (fun i wr => ∃ k : Nat, k ≤ n ∧ i = .int .i64 k ∧ Blk wr w.heap.size w.heap.size ws ∧ Blk wr w.heap.size (w.heap.size + 1 + 1) (padL (takeN k width M)) ∧ Blk wr w.heap.size (w.heap.size + 1) zeros ∧ Below w.heap.size w wr) (fun i _ => n - (intOf i).toNat)
  case atStart =>
    refine ⟨0, by omega, rfl, ((Blk.new (Nat.le_refl _) hl).alloc _).alloc _, ?_, ?_, (((Below.refl _ _).alloc (Nat.le_refl _) _).alloc (by simp) _).alloc (by simp; omega) _⟩
    · have e : takeN 0 width M = [] := rfl
      rw [e, padL_nil]
      have := Blk.new (w := (w.alloc (.cells (uArr ws) 112)).alloc (.cells (uArr zeros) 112)) (base := w.heap.size) (by simp; omega) zeros_length
      simpa using this
    · have := (Blk.new (w := w.alloc (.cells (uArr ws) 112)) (base := w.heap.size) (by simp) zeros_length).alloc (.cells (uArr zeros) 112)
      simpa using this
  case round =>
    obtain ⟨k, hk, rfl, hA0, hB, hR, hbel⟩ := hrel
    have HA0 := hidd hA0
    have HB := hidd hB
    have HR := hidd hR
    have Hbel := hidd hbel
    clear hA0 hB hR hbel
    by_cases hlt : k < n
    · have hpw := pow62 width hw
      obtain ⟨p, hp⟩ : ∃ p, k * width = p := ⟨_, rfl⟩
      have hp128 : p ≤ 7874 := by rw [← hp]; exact Nat.le_trans (Nat.mul_le_mul (by omega : k ≤ 127) hw) (by omega)
      have hpz : (k : Int) * (width : Int) = (p : Int) := by rw [← hp]; simp
      have Hp := hidd hp
      clear hp
      obtain ⟨wd, hwd⟩ : ∃ wd, p / 64 = wd := ⟨_, rfl⟩
      obtain ⟨sh, hsh⟩ : ∃ sh, p % 64 = sh := ⟨_, rfl⟩
      have hwd1 : wd ≤ 123 := by omega
      have hsh1 : sh < 64 := by omega
      have hq1 : (p : Int) / 64 = (wd : Int) := by omega
      have hq2 : (p : Int) % 64 = (sh : Int) := by omega
      have c1 := HA0.out.cell wd (by omega)
      have c2 := HA0.out.cell (wd + 1) (by omega)
      rw [← Hws.out, wordsL_at M wd (by omega)] at c1
      rw [← Hws.out, wordsL_at M (wd + 1) (by omega)] at c2
      have HT := hidd (word_take M wd sh width hsh1 (by omega))
      have hA1 := wordAt_lt M wd
      have hA2 := wordAt_lt M (wd + 1)
      generalize wordAt M wd = A at *
      generalize wordAt M (wd + 1) = A' at *
      have c3 := HB.out.cell k (by omega)
      have f3 := HB.out.frozen k
      generalize (padL (takeN k width M)).getD k 0 = z at c3
      obtain ⟨X, hX, HX⟩ : ∃ X : Nat, (A : Int) / 2 ^ sh = (X : Int) ∧ Hid (A / 2 ^ sh = X) := by
        refine ⟨_, ?_, rfl⟩
        rw [Int.natCast_ediv, Int.natCast_pow]; rfl
      have hX64 : X < 18446744073709551616 := by rw [← HX.out]; exact Nat.lt_of_le_of_lt (Nat.div_le_self _ _) (by omega)
      obtain ⟨Y, hY, HY⟩ : ∃ Y : Nat, IntKind.u64.wrap ((A' : Int) * 2 ^ (64 - sh)) = (Y : Int) ∧ Hid (A' * 2 ^ (64 - sh) % 18446744073709551616 = Y) := by
        refine ⟨_, ?_, rfl⟩
        rw [IntKind.wrap_u64]
        have : (A' : Int) * 2 ^ (64 - sh) = ((A' * 2 ^ (64 - sh) : Nat) : Int) := by rw [Int.natCast_mul, Int.natCast_pow]; rfl
        rw [this]; omega
      have hY64 : Y < 18446744073709551616 := by rw [← HY.out]; exact Nat.mod_lt _ (by omega)
      obtain ⟨Z, hZ, HZ⟩ : ∃ Z : Nat, bits .or .u64 (X : Int) (Y : Int) = (Z : Int) ∧ Hid (X ||| Y = Z) := ⟨_, u64_or_nat X Y hX64 hY64, rfl⟩
      have hZ64 : Z < 18446744073709551616 := by rw [← HZ.out]; exact Nat.or_lt_two_pow (n := 64) hX64 hY64
      obtain ⟨R, hRR, HRR⟩ : ∃ R : Nat, bits .and .u64 (Z : Int) (IntKind.u64.wrap (IntKind.u64.wrap (2 ^ width) - 1)) = (R : Int) ∧ Hid (Z % 2 ^ width = R) := by
        refine ⟨_, ?_, rfl⟩
        have hpos : 0 < 2 ^ width := Nat.pow_pos (by omega)
        have e1 : (2 : Int) ^ width = ((2 ^ width : Nat) : Int) := by rw [Int.natCast_pow]; rfl
        rw [e1]
        have e2 : IntKind.u64.wrap ((2 ^ width : Nat) : Int) = ((2 ^ width : Nat) : Int) := IntWalk.u64_in _ ⟨by omega, by omega⟩
        rw [e2]
        have e3 : ((2 ^ width : Nat) : Int) - 1 = ((2 ^ width - 1 : Nat) : Int) := by omega
        rw [e3]
        have e4 : IntKind.u64.wrap ((2 ^ width - 1 : Nat) : Int) = ((2 ^ width - 1 : Nat) : Int) := IntWalk.u64_in _ ⟨by omega, by omega⟩
        rw [e4, u64_and_nat Z _ hZ64 (by omega), Nat.and_two_pow_sub_one_eq_mod]
      have HF : Hid (takeN (k + 1) width M = takeN k width M ++ [R]) := by
        show _ = _
        rw [takeN_succ, Hp.out]
        have e : p = 64 * wd + sh := by omega
        rw [e, ← HT.out, HX.out, HY.out, HZ.out, HRR.out]
      go_wp2
      go_region
      go_wp2
      go_roundw
      case rel =>
        have hkl := takeN_length k width M
        have B1 := HB.out.set k R
        refine ⟨k + 1, by omega, by go_num, (HA0.out.kept B1.2 (by simp; omega)).drew 1, ?_, (HR.out.kept B1.2 (by simp)).drew 1, below_drewN (Hbel.out.setCell (p := ⟨w.heap.size + 1 + 1, k, none⟩) (by simp; omega) _) 1⟩
        have B2 := B1.1.drew 1
        have e := padL_set (takeN k width M) R (by omega)
        rw [hkl] at e
        rw [e, ← HF.out] at B2
        exact B2
      case measure => simp [intOf]; omega
    · obtain rfl : k = n := by omega
      have hwl := padL_length (takeN k width M) (by rw [takeN_length]; exact hn)
      generalize hps : padL (takeN k width M) = ps at *
      have Hps := hidd hps
      clear hps hlt
      go_wp2_with (first | (refine wpB_load rfl _ rfl w.heap.size (w.heap.size + 1 + 1) ps rfl HB.out ?_) | (refine wpB_store rfl _ _ rfl w.heap.size (w.heap.size + 1) zeros ps rfl rfl hwl HR.out ?_; intro W1 hB1 hg1))
      have HB1 := hidd hB1
      have R : Hid (Below w.heap.size w W1) := Hbel.out.grown hg1 Hbel.out.size (fun j e => by cases e; omega)
      clear hB1 hg1
      refine bodyPost_ret (v := .agg (uArr ps)) ?_ rfl ⟨by rw [Hps.out], R.out⟩
      exact results_cell_row rfl _ W1 (w.heap.size + 1) 112 (uArr ps) (0, 0) _ rfl HB1.out.heap Try.underlying112 rfl (by rw [uArr_size, hwl]; exact blockSize)
end Go.Proofs.Ytibomnmgiimejad
