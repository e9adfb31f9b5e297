import Derived.Test.YtmnfioghhdgciaaDoorWildJ35
import Derived.Test.YtmnfioghhdgciaaDoorWildJ18
import Derived.Test.YtmnfioghhdgciaaDoorWildJ34
import Derived.Lib.SliceRun
namespace Go.Proofs.YtmnfioghhdgciaaDoor
open Go Go.RowKit
set_option linter.unusedVariables false
set_option linter.unusedSimpArgs false
set_option maxRecDepth 100000

/-! impl.wildcard.pruned and follow. -/
theorem bitLen_log2 {v : Nat} (h : v ≠ 0) (hv : v < 4294967296) : Lib.bitLen v = Nat.log2 v + 1 := by
  have hb := Lib.bitLenAux_bounds 64 v (by omega) (by omega)
  have h1 : v < 2 ^ (Nat.log2 v + 1) := Nat.lt_log2_self
  have h2 : v < 2 ^ Lib.bitLen v := hb.2.2
  have h3 : Nat.log2 v < Lib.bitLen v := (Nat.log2_lt h).2 h2
  have h4 : Nat.log2 v < 32 := (Nat.log2_lt h).2 (by simpa using hv)
  have h5 := Lib.bitLen_le v _ (by omega) h1
  omega
theorem bitLen_zero : Lib.bitLen 0 = 0 := by simp [Lib.bitLen, Lib.bitLenAux]
theorem andNot_del {s k : Nat} (hs : s < 2 ^ 64) (hk : k < 64) : s &&& (18446744073709551615 - 2 ^ k) = del s k := by
  refine Nat.eq_of_testBit_eq fun i => ?_
  have hp : 2 ^ k < 2 ^ 64 := Nat.pow_lt_pow_right (by omega) hk
  have e : 18446744073709551615 - 2 ^ k = 2 ^ 64 - (2 ^ k + 1) := by omega
  rw [Nat.testBit_and, e, Nat.testBit_two_pow_sub_succ hp, del_bit, Nat.testBit_two_pow]
  by_cases hi : i < 64
  · rw [decide_eq_true hi, Bool.true_and]
    congr 1
    by_cases ek : k = i
    · subst ek; simp
    · have : ¬ i = k := fun h => ek h.symm
      simp [ek, this]
  · have : s.testBit i = false := Nat.testBit_lt_two_pow (Nat.lt_of_lt_of_le hs (Nat.pow_le_pow_right (by omega) (by omega)))
    rw [this]; rfl
theorem pr2_le (C : Nat → Nat) (x : Nat) (k : Nat) (hx : x < 2147483648) : pr2 C x k < 2147483648 := by
  rw [show (2147483648 : Nat) = 2 ^ 31 from rfl]
  refine Nat.lt_pow_two_of_testBit _ fun i hi => ?_
  cases hb : (pr2 C x k).testBit i with
  | false => rfl
  | true =>
    have h1 := Nat.ge_two_pow_of_testBit (pr2_sub C x hb)
    have h2 := Nat.pow_le_pow_right (show 0 < 2 by omega) hi
    have : (2147483648 : Nat) = 2 ^ 31 := rfl
    omega
theorem three_boxes (w : World) (A B C : Obj) : (((w.alloc A).alloc B).alloc C).heap[w.heap.size]? = some A ∧ (((w.alloc A).alloc B).alloc C).heap[w.heap.size + 1]? = some B ∧ (((w.alloc A).alloc B).alloc C).heap[w.heap.size + 1 + 1]? = some C ∧ Below w.heap.size w (((w.alloc A).alloc B).alloc C) := by
  obtain ⟨h1, h2, h3, hz⟩ := two_boxes w A B
  refine ⟨?_, ?_, ?_, h3.alloc (by rw [hz]; omega) _⟩
  · rw [Below.heap_alloc _ _ _ (by rw [hz]; omega)]; exact h1
  · rw [Below.heap_alloc _ _ _ (by rw [hz]; omega)]; exact h2
  · rw [show w.heap.size + 1 + 1 = ((w.alloc A).alloc B).heap.size by rw [hz]]; exact heap_alloc_new _ _
set_option maxHeartbeats 4000000 in
theorem pruned_any (vs vc : Value) (L x n : Nat) (C : Nat → Nat) (w : World) (hn : n ≤ 30) (hx : x < 2147483648) (hL : L < 2147483648) (hC : ∀ k, k < n → C k < 2147483648) (hc : HoldU w vc C n) (hs : ∃ ad m c, vs = .slice ad m c) :
    Calls Tryd.prog 21 #[.agg (wcV vs L vc), .agg (plV x)] w fun e w' => e = .returned (.agg (plV (pr2 C (pr1 L x) n))) ∧ Below w.heap.size w w' := by
  obtain ⟨ads, ms, cs, rfl⟩ := hs
  obtain ⟨ad, cap, rfl, hcc⟩ := hc
  obtain ⟨s1, s2, s3, s4⟩ := three_boxes w (.cells (wcV (.slice ads ms cs) L (.slice ad n cap)) 46) (.cells (plV x) 51) (.cells (plV 0) 51)
  have HCC := hidd hcc
  have HC := hidd hC
  clear hcc hC
  go_enter Tryd.func21, Tryd.ntmps21
  go_upto_region 1 with fail
  generalize ((w.alloc (.cells (wcV (.slice ads ms cs) L (.slice ad n cap)) 46)).alloc (.cells (plV x) 51)).alloc (.cells (plV 0) 51) = W at *
  have a1 := blkc s1 1
  have a2 := blkc s1 2
  have b0 := blkc s2 0
  have c0 := blkc s3 0
  have HB := hidd s4
  have HC3 := hidd s3
  clear s1 s2 s3 s4
  have hand := u64_and_nat x L (by omega) (by omega)
  have hzl : x &&& L ≤ x := Nat.and_le_left
  have hpl : pr1 L x < 2147483648 := by
    rw [show (2147483648 : Nat) = 2 ^ 31 from rfl]
    refine Nat.lt_pow_two_of_testBit _ fun i hi => ?_
    cases hb : (pr1 L x).testBit i with
    | false => rfl
    | true =>
      have h1 := Nat.ge_two_pow_of_testBit (pr1_bit.1 hb).1
      have h2 := Nat.pow_le_pow_right (show 0 < 2 by omega) hi
      have : (2147483648 : Nat) = 2 ^ 31 := rfl
      omega
  have HPL : Hid (∀ k, pr2 C (pr1 L x) k < 2147483648) := fun k => pr2_le C _ k hpl
  by_cases hz : x &&& L = 0
  · have HY : Hid (pr1 L x = x) := by show _ = _; unfold pr1; rw [if_pos hz]
    have HLn := hidd (Tryd.bits_Len64 ((x &&& L : Nat) : Int) W (by omega) (by omega))
    rw [Int.toNat_natCast, hz, bitLen_zero] at HLn
    rw [hz] at hand
    clear hz hzl
    go_wp2_with fail
    refine HLn.out.mono ?_
    rintro e w2 ⟨rfl, rfl⟩
    go_wp2_with fail
    go_loop [5, 28] (fun kv i => ∃ k : Nat, k ≤ n ∧ i = .int .i64 (k : Int) ∧ kv = .int .u64 ((pr2 C (pr1 L x) k : Nat) : Int)) (fun _ i => n - (intOf i).toNat)
    case atStart => exact ⟨0, Nat.zero_le _, rfl, by rw [pr2, HY.out]⟩
    case round =>
      obtain ⟨k, hk, rfl, rfl⟩ := hrel
      have hs := HPL.out k
      by_cases hlt : k < n
      · have hkz : (k : Int) < (n : Int) := by omega
        obtain ⟨g, off, rfl, hg, hcells⟩ := HCC.out.resolve_left (by omega)
        have c1 := (HB.out.cell (p := ⟨g, off + k, none⟩) hg).trans (hcells k hlt)
        have hck := HC.out k hlt
        have HN : Hid (pr2 C (pr1 L x) (k + 1) = if pr2 C (pr1 L x) k &&& C k = 0 then pr2 C (pr1 L x) k else del (pr2 C (pr1 L x) k) k) := rfl
        clear hcells hg
        generalize pr2 C (pr1 L x) k = t at *
        generalize C k = ck at *
        have hand2 := u64_and_nat t ck (by omega) (by omega)
        by_cases hz2 : t &&& ck = 0
        · have HE : Hid (pr2 C (pr1 L x) (k + 1) = t) := by show _ = _; rw [HN.out, if_pos hz2]
          rw [hz2] at hand2
          clear hz2 HN
          go_wp2
          exact ⟨⟨k + 1, by omega, by go_num, by rw [HE.out]⟩, by simp [intOf]; omega⟩
        · have hzb : ((t &&& ck : Nat) : Int) ≠ 0 := by omega
          have hP := pow31 (show k ≤ k by omega) (by omega)
          have HE : Hid (pr2 C (pr1 L x) (k + 1) = t &&& (18446744073709551615 - 2 ^ k)) := by show _ = _; rw [HN.out, if_neg hz2, andNot_del (by omega) (by omega)]
          have hPz : ((2 ^ k : Nat) : Int) = (2 : Int) ^ k := by norm_cast
          obtain ⟨Q, hQ⟩ : ∃ Q : Nat, 2 ^ k = Q := ⟨_, rfl⟩
          rw [hQ] at HE hP hPz
          have hPz' := hPz.symm
          have hno := u64_andNot_nat t Q (by omega) (by omega)
          clear hz2 HN hQ hPz
          generalize t &&& ck = z2 at *
          go_wp2
          exact ⟨⟨k + 1, by omega, by go_num, by rw [HE.out]⟩, by simp [intOf]; omega⟩
      · have hkz : ¬ (k : Int) < (n : Int) := by omega
        obtain rfl : k = n := by omega
        obtain ⟨v0, hv0⟩ : ∃ v0, pr2 C (pr1 L x) k = v0 := ⟨_, rfl⟩
        rw [hv0]
        have HV0 := hidd hv0
        have fz := blkf HC3.out 0
        have hset := blk_setk HC3.out 0 (.int .u64 (v0 : Int))
        have q0 := blkc hset 0
        have HFin : Hid (Below w.heap.size w (w2.setCell ⟨w.heap.size + 1 + 1, 0, none⟩ (.int .u64 (v0 : Int)))) := HB.out.setCell (by show w.heap.size ≤ w.heap.size + 1 + 1; omega) _
        clear hset hv0 HPL HC HCC HB HLn
        go_wp2_with fail
        generalize w2.setCell ⟨w.heap.size + 1 + 1, 0, none⟩ (.int .u64 (v0 : Int)) = WF at *
        refine bodyPost_ret (v := .agg (plV v0)) (by simp [results, Tryd.results21, go_sem, q0]) rfl ?_
        exact ⟨by rw [HV0.out], HFin.out⟩
  · obtain ⟨m, hm⟩ : ∃ m, Nat.log2 (x &&& L) = m := ⟨_, rfl⟩
    have hm31 : m < 31 := by rw [← hm]; exact (Nat.log2_lt hz).2 (by omega)
    have HLn := hidd (Tryd.bits_Len64 ((x &&& L : Nat) : Int) W (by omega) (by omega))
    rw [Int.toNat_natCast, bitLen_log2 hz (by omega), hm] at HLn
    have hdiv : ((x / 2 ^ m : Nat) : Int) = (x : Int) / 2 ^ m := by norm_cast
    have hE : x / 2 ^ m * 2 ^ m ≤ x := Nat.div_mul_le_self _ _
    have HY : Hid (pr1 L x = x / 2 ^ m * 2 ^ m) := by show _ = _; unfold pr1; rw [if_neg hz, hm, Nat.shiftLeft_eq, Nat.shiftRight_eq_div_pow]
    have hD : x / 2 ^ m ≤ x := Nat.div_le_self _ _
    have hmul : ((x / 2 ^ m : Nat) : Int) * (2 : Int) ^ m = ((x / 2 ^ m * 2 ^ m : Nat) : Int) := by norm_cast
    generalize x / 2 ^ m * 2 ^ m = E at *
    generalize x / 2 ^ m = D at *
    have hdiv' := hdiv.symm
    have hmz : ((m + 1 : Nat) : Int) - 1 = (m : Int) := by omega
    have hmt : (m : Int).toNat = m := by omega
    clear hz hm hzl hdiv
    generalize x &&& L = z at *
    go_wp2_with fail
    refine HLn.out.mono ?_
    rintro e w2 ⟨rfl, rfl⟩
    go_wp2_with fail
    go_loop [5, 28] (fun kv i => ∃ k : Nat, k ≤ n ∧ i = .int .i64 (k : Int) ∧ kv = .int .u64 ((pr2 C (pr1 L x) k : Nat) : Int)) (fun _ i => n - (intOf i).toNat)
    case atStart => exact ⟨0, Nat.zero_le _, rfl, by rw [pr2, HY.out]⟩
    case round =>
      obtain ⟨k, hk, rfl, rfl⟩ := hrel
      have hs := HPL.out k
      by_cases hlt : k < n
      · have hkz : (k : Int) < (n : Int) := by omega
        obtain ⟨g, off, rfl, hg, hcells⟩ := HCC.out.resolve_left (by omega)
        have c1 := (HB.out.cell (p := ⟨g, off + k, none⟩) hg).trans (hcells k hlt)
        have hck := HC.out k hlt
        have HN : Hid (pr2 C (pr1 L x) (k + 1) = if pr2 C (pr1 L x) k &&& C k = 0 then pr2 C (pr1 L x) k else del (pr2 C (pr1 L x) k) k) := rfl
        clear hcells hg
        generalize pr2 C (pr1 L x) k = t at *
        generalize C k = ck at *
        have hand2 := u64_and_nat t ck (by omega) (by omega)
        by_cases hz2 : t &&& ck = 0
        · have HE : Hid (pr2 C (pr1 L x) (k + 1) = t) := by show _ = _; rw [HN.out, if_pos hz2]
          rw [hz2] at hand2
          clear hz2 HN
          go_wp2
          exact ⟨⟨k + 1, by omega, by go_num, by rw [HE.out]⟩, by simp [intOf]; omega⟩
        · have hzb : ((t &&& ck : Nat) : Int) ≠ 0 := by omega
          have hP := pow31 (show k ≤ k by omega) (by omega)
          have HE : Hid (pr2 C (pr1 L x) (k + 1) = t &&& (18446744073709551615 - 2 ^ k)) := by show _ = _; rw [HN.out, if_neg hz2, andNot_del (by omega) (by omega)]
          have hPz : ((2 ^ k : Nat) : Int) = (2 : Int) ^ k := by norm_cast
          obtain ⟨Q, hQ⟩ : ∃ Q : Nat, 2 ^ k = Q := ⟨_, rfl⟩
          rw [hQ] at HE hP hPz
          have hPz' := hPz.symm
          have hno := u64_andNot_nat t Q (by omega) (by omega)
          clear hz2 HN hQ hPz
          generalize t &&& ck = z2 at *
          go_wp2
          exact ⟨⟨k + 1, by omega, by go_num, by rw [HE.out]⟩, by simp [intOf]; omega⟩
      · have hkz : ¬ (k : Int) < (n : Int) := by omega
        obtain rfl : k = n := by omega
        obtain ⟨v0, hv0⟩ : ∃ v0, pr2 C (pr1 L x) k = v0 := ⟨_, rfl⟩
        rw [hv0]
        have HV0 := hidd hv0
        have fz := blkf HC3.out 0
        have hset := blk_setk HC3.out 0 (.int .u64 (v0 : Int))
        have q0 := blkc hset 0
        have HFin : Hid (Below w.heap.size w (w2.setCell ⟨w.heap.size + 1 + 1, 0, none⟩ (.int .u64 (v0 : Int)))) := HB.out.setCell (by show w.heap.size ≤ w.heap.size + 1 + 1; omega) _
        clear hset hv0 HPL HC HCC HB HLn
        go_wp2_with fail
        generalize w2.setCell ⟨w.heap.size + 1 + 1, 0, none⟩ (.int .u64 (v0 : Int)) = WF at *
        refine bodyPost_ret (v := .agg (plV v0)) (by simp [results, Tryd.results21, go_sem, q0]) rfl ?_
        exact ⟨by rw [HV0.out], HFin.out⟩
end Go.Proofs.YtmnfioghhdgciaaDoor

namespace Go.Proofs.YtmnfioghhdgciaaDoor
open Go Go.RowKit
set_option linter.unusedVariables false
set_option linter.unusedSimpArgs false
set_option maxRecDepth 100000

/-! impl.wildcard.follow. -/
theorem moveI_lt {T : List Int} {L x : Nat} {c : Int} (hT : T.length ≤ 30) (hL : L < 2147483648) : moveI T L x c < 2147483648 := by
  rw [show (2147483648 : Nat) = 2 ^ 31 from rfl]
  refine Nat.lt_pow_two_of_testBit _ fun i hi => ?_
  cases hb : (moveI T L x c).testBit i with
  | false => rfl
  | true =>
    rcases moveI_bit.1 hb with ⟨j, rfl, _, h1, _⟩ | ⟨_, h1⟩
    · omega
    · have h1 := Nat.ge_two_pow_of_testBit h1
      have h2 := Nat.pow_le_pow_right (show 0 < 2 by omega) hi
      have : (2147483648 : Nat) = 2 ^ 31 := rfl
      omega
set_option maxHeartbeats 4000000 in
theorem followW_any (vs vc : Value) (L x : Nat) (T : List Int) (C : Nat → Nat) (r : Int) (w : World) (hn : T.length ≤ 30) (hx : x < 2147483648) (hL : L < 2147483648) (hC : ∀ k, k < T.length → C k < 2147483648) (hc : HoldU w vc C T.length) (hs : HoldI w vs T) :
    Calls Tryd.prog 22 #[.agg (wcV vs L vc), .agg (plV x), .int .i64 r] w fun e w' => e = .returned (.agg (plV (stepW T L C x r))) ∧ Below w.heap.size w w' := by
  have HFIT : Hid (∀ W, Below w.heap.size w W → Calls Tryd.prog 34 #[vs, .int .i64 r] W fun e w' => e = .returned (.int .u64 (bset (fitP T r) T.length : Nat)) ∧ w' = W) := fun W hW => fitting_any vs T r W (by omega) (hs.below hW)
  have HPR : Hid (∀ (W : World) (y : Nat), Below w.heap.size w W → y < 2147483648 → Calls Tryd.prog 21 #[.agg (wcV vs L vc), .agg (plV y)] W fun e w' => e = .returned (.agg (plV (pr2 C (pr1 L y) T.length))) ∧ Below W.heap.size W w') := fun W y hW hy => pruned_any vs vc L y T.length C W hn hy hL hC (hc.below hW) (by obtain ⟨ad, cap, e, _⟩ := hs; exact ⟨_, _, _, e⟩)
  have hM := moveI_lt (x := x) (c := r) hn hL
  have HM : Hid (moveI T L x r = ((x &&& bset (fitP T r) T.length) * 2) ||| (x &&& L)) := by
    show _ = _
    unfold moveI
    rw [Nat.shiftLeft_eq]
    rfl
  have HS : Hid (stepW T L C x r = pr2 C (pr1 L (moveI T L x r)) T.length) := rfl
  have hF : bset (fitP T r) T.length < 2147483648 := by
    have h1 := bset_lt (fitP T r) T.length
    have h2 := Nat.pow_le_pow_right (show 0 < 2 by omega) (show T.length ≤ 31 by omega)
    omega
  obtain ⟨ads, cs, rfl, -⟩ := hs
  obtain ⟨adc, cc, rfl, -⟩ := hc
  obtain ⟨s1, s2, s3, s4⟩ := three_boxes w (.cells (wcV (.slice ads T.length cs) L (.slice adc T.length cc)) 46) (.cells (plV x) 51) (.cells (plV 0) 51)
  generalize hF' : bset (fitP T r) T.length = F at *
  clear hF'
  generalize hmm : moveI T L x r = M at *
  clear hmm
  go_enter Tryd.func22, Tryd.ntmps22
  go_upto_region 1 with fail
  generalize ((w.alloc (.cells (wcV (.slice ads T.length cs) L (.slice adc T.length cc)) 46)).alloc (.cells (plV x) 51)).alloc (.cells (plV 0) 51) = W at *
  have a0 := blkc s1 0
  have a1 := blkc s1 1
  have a2 := blkc s1 2
  have b0 := blkc s2 0
  have c0 := blkc s3 0
  have HB := hidd s4
  have HC3 := hidd s3
  have HFq : Hid (∀ W', Below W.heap.size W W' → Calls Tryd.prog 34 #[.slice ads T.length cs, .int .i64 r] W' fun e w' => e = .returned (.int .u64 (F : Int)) ∧ w' = W') := fun W' hW => HFIT.out W' (HB.out.trans (hW.mono HB.out.size))
  clear s1 s2 s3 s4 HFIT hC
  have hand := u64_and_nat x F (by omega) (by omega)
  have hxf : x &&& F ≤ x := Nat.and_le_left
  have hand2 := u64_and_nat x L (by omega) (by omega)
  have hxl : x &&& L ≤ x := Nat.and_le_left
  have hor := u64_or_nat ((x &&& F) * 2) (x &&& L) (by omega) (by omega)
  have hmul : (((x &&& F) * 2 : Nat) : Int) = ((x &&& F : Nat) : Int) * 2 := by omega
  rw [hmul, ← HM.out] at hor
  have hMz : (M : Int) = (M : Int) := rfl
  clear hmul HM
  generalize x &&& F = xf at *
  generalize x &&& L = xl at *
  go_quiet ((go_at_call 34; refine Calls.quiet_of_same (HFq.out _ ⟨rfl, rfl, rfl, Nat.le_refl _, fun _ _ => rfl⟩)))
  go_wp2_with fail
  have hbq : Below W.heap.size W (W.drewN nq) := ⟨rfl, rfl, rfl, Nat.le_refl _, fun _ _ => rfl⟩
  refine (HPR.out _ M (HB.out.trans (hbq.mono HB.out.size)) hM).mono ?_
  rintro e w2 ⟨rfl, hb2⟩
  have hW3 := blko (blko HC3.out hbq) hb2
  have HB2 := hidd ((HB.out.trans (hbq.mono HB.out.size)).trans (hb2.mono (Nat.le_trans HB.out.size hbq.size)))
  rw [← HS.out]
  generalize hv0 : stepW T L C x r = v0 at *
  have HV0 := hidd hv0
  clear hv0
  have fz := blkf hW3 0
  have y0 := blkc hW3 0
  have hset := blk_setk hW3 0 (.int .u64 (v0 : Int))
  have q0 := blkc hset 0
  have HFin : Hid (Below w.heap.size w (w2.setCell ⟨w.heap.size + 1 + 1, 0, none⟩ (.int .u64 (v0 : Int)))) := HB2.out.setCell (by show w.heap.size ≤ w.heap.size + 1 + 1; omega) _
  clear hset hW3 hb2 hbq HPR HFq HB HB2 HC3 a0 a1 a2 b0 c0 HS
  go_wp2_with fail
  generalize w2.setCell ⟨w.heap.size + 1 + 1, 0, none⟩ (.int .u64 (v0 : Int)) = WF at *
  refine bodyPost_ret (v := .agg (plV v0)) (by simp [results, Tryd.results22, go_sem, q0]) rfl ?_
  exact ⟨by rw [HV0.out], HFin.out⟩
end Go.Proofs.YtmnfioghhdgciaaDoor

namespace Go.Proofs.YtmnfioghhdgciaaDoor
open Go Go.RowKit
set_option linter.unusedVariables false
set_option linter.unusedSimpArgs false
set_option maxRecDepth 100000

/-! slices.DeleteFunc where something goes. -/
def posZ (zs : List Int) : List Int := zs.filter fun x => decide (0 ≤ x)
theorem posZ_len (zs : List Int) : (posZ zs).length ≤ zs.length := List.length_filter_le _ _
theorem posZ_snoc (zs : List Int) (x : Int) : posZ (zs ++ [x]) = if 0 ≤ x then posZ zs ++ [x] else posZ zs := by
  unfold posZ
  rw [List.filter_append]
  by_cases h : 0 ≤ x <;> simp [h]
theorem posZ_all {zs : List Int} (h : ∀ x ∈ zs, 0 ≤ x) : posZ zs = zs := List.filter_eq_self.2 fun x hx => by simpa using h x hx
theorem neg_any (x : Int) (w : World) : Calls Tryd.prog 41 #[.int .i64 x] w fun e w' => e = .returned (.bool (decide (x < 0))) ∧ w' = w := by
  go_enter Tryd.func41, Tryd.ntmps41
  go_wp2
  go_ret
  exact ⟨rfl, rfl⟩
def IxPost (zs : List Int) (w : World) (e : Ending) (w' : World) : Prop :=
  Below w.heap.size w w' ∧ ((e = .returned (.int .i64 (-1)) ∧ ∀ i, i < zs.length → 0 ≤ atZ zs i) ∨ ∃ i : Nat, e = .returned (.int .i64 (i : Int)) ∧ i < zs.length ∧ atZ zs i < 0 ∧ ∀ j, j < i → 0 ≤ atZ zs j)
set_option maxHeartbeats 2000000 in
theorem indexNeg_any (ad : Option Addr) (cap : Nat) (zs : List Int) (w : World) (hN : zs.length ≤ 1048576) (hz : ∀ i, i < zs.length → ∃ g off, ad = some ⟨g, off, none⟩ ∧ w.cell? ⟨g, off + i, none⟩ = some (.int .i64 (atZ zs i))) :
    Calls Tryd.prog 62 #[.slice ad zs.length cap, .func (.func 41) #[] #[]] w (IxPost zs w) := by
  have HZ := hidd hz
  clear hz
  go_enter Tryd.func62, Tryd.ntmps62
  go_wp2_with fail
  go_loopw [8] (fun iv wr => ∃ i : Nat, i ≤ zs.length ∧ iv = .int .i64 (i : Int) ∧ Below w.heap.size w wr ∧ ∀ j, j < i → 0 ≤ atZ zs j) (fun iv _ => zs.length - (intOf iv).toNat)
  case atStart => exact ⟨0, Nat.zero_le _, rfl, Below.refl _ _, fun j hj => by omega⟩
  case round =>
    obtain ⟨i, hi, rfl, hb, hall⟩ := hrel
    have HB := hidd hb
    have HA := hidd hall
    clear hb hall
    by_cases hlt : i < zs.length
    · have hltz : (i : Int) < (zs.length : Int) := by omega
      obtain ⟨g, off, rfl, x0⟩ := HZ.out i hlt
      have x1 := (HB.out.cell (p := ⟨g, off + i, none⟩) (cell_lt x0)).trans x0
      clear x0
      obtain ⟨x, hx⟩ : ∃ x, atZ zs i = x := ⟨_, rfl⟩
      have HX := hidd hx
      rw [hx] at x1
      clear hx
      have HNg := hidd (neg_any x wr)
      by_cases hn : x < 0
      · rw [decide_eq_true hn] at HNg
        have HFin : Hid (IxPost zs w (.returned (.int .i64 (i : Int))) wr) := ⟨HB.out, Or.inr ⟨i, rfl, hlt, by rw [HX.out]; exact hn, HA.out⟩⟩
        go_wp2_with fail
        refine HNg.out.mono ?_
        rintro e w2 ⟨rfl, rfl⟩
        go_wp2_with fail
        go_ret
        exact HFin.out
      · rw [decide_eq_false hn] at HNg
        have HAn : Hid (∀ j, j < i + 1 → 0 ≤ atZ zs j) := fun j hj => by
          by_cases e : j = i
          · rw [e, HX.out]; omega
          · exact HA.out j (by omega)
        go_wp2_with fail
        refine HNg.out.mono ?_
        rintro e w2 ⟨rfl, rfl⟩
        go_wp2_with fail
        go_roundw
        case rel => exact ⟨i + 1, by omega, by go_num, HB.out, HAn.out⟩
        case measure => simp [intOf]; omega
    · have hltz : ¬ (i : Int) < (zs.length : Int) := by omega
      obtain rfl : i = zs.length := by omega
      go_wp2_with fail
      go_ret
      exact ⟨HB.out, Or.inl ⟨rfl, HA.out⟩⟩
theorem setCells_blk {b : Nat} {t : TypeId} : ∀ (l : List Value) (o : Nat) (W : World) (cs : Array Value), W.heap[b]? = some (.cells cs t) → ∃ cs' : Array Value, (W.setCells b o l).heap[b]? = some (.cells cs' t) ∧ cs'.size = cs.size ∧ (∀ i, i < o → cs'[i]? = cs[i]?) ∧ But (fun x => x = b) W (W.setCells b o l)
  | [], o, W, cs, h => ⟨cs, h, rfl, fun i _ => rfl, But.refl _ _⟩
  | x :: l, o, W, cs, h => by
    obtain ⟨cs', h1, h2, h3, h4⟩ := setCells_blk l (o + 1) (W.setCell ⟨b, o, none⟩ x) _ (blk_setk h o x)
    refine ⟨cs', h1, by rw [h2]; simp, fun i hi => ?_, ((But.refl (fun x => x = b) W).set b o x rfl).trans h4 (fun _ _ h => h) (fun _ _ h => h)⟩
    rw [h3 i (by omega), Array.getElem?_setIfInBounds_ne (by omega)]
def DlPost (zs : List Int) (base : Nat) (v : Value) (w : World) (e : Ending) (w' : World) : Prop :=
  ∃ v', e = .returned v' ∧ w'.ownsRow base 3 1 v' (posZ zs).length (zI (posZ zs)) ∧ But (fun b => v.ownBlock = some b) w w'
theorem drop_cons {zs : List Int} {j : Nat} (h : j < zs.length) : zs.drop j = zs.getD j 0 :: zs.drop (j + 1) := by
  rw [List.drop_eq_getElem_cons h, List.getD_eq_getElem?_getD, List.getElem?_eq_getElem h]; rfl
theorem take_pos {zs : List Int} {j : Nat} (h : j < zs.length) : posZ (zs.take (j + 1)) = if 0 ≤ zs.getD j 0 then posZ (zs.take j) ++ [zs.getD j 0] else posZ (zs.take j) := by
  rw [List.take_succ_eq_append_getElem h, posZ_snoc, List.getD_eq_getElem?_getD, List.getElem?_eq_getElem h]; rfl
set_option maxHeartbeats 4000000 in
theorem deleteNeg_any (base : Nat) (v : Value) (zs : List Int) (w : World) (hN : zs.length ≤ 1000) (hbs : base ≤ w.heap.size) (ho : w.ownsRow base 3 1 v zs.length (zI zs)) :
    Calls Tryd.prog 38 #[v, .func (.func 41) #[] #[]] w (DlPost zs base v w) := by
  obtain ⟨ad, cap, rfl, hz⟩ := atZ_hold (HoldI.own ho)
  have HO := hidd ho
  have HIx := hidd (indexNeg_any ad cap zs w (by omega) hz)
  have hv0 : ∀ ww, (zeroValue 3).run Tryd.prog ww = .ok (.int .i64 0) ww := fun ww => by kernel_rfl
  have HV0 := hidd hv0
  clear ho hz hv0
  go_enter Tryd.func38, Tryd.ntmps38
  go_wp2_with fail
  refine HIx.out.mono ?_
  rintro e w1 ⟨hb1, hc⟩
  have HB1 := hidd hb1
  have HO1 := hidd (own_below HO.out hb1)
  clear hb1 HIx
  rcases hc with ⟨rfl, hall⟩ | ⟨i, rfl, hi, hneg, hfst⟩
  · have HFin : Hid (DlPost zs base (.slice ad zs.length cap) w (.returned (.slice ad zs.length cap)) w1) := by
      have e : posZ zs = zs := posZ_all fun x hx => by
        obtain ⟨j, hj, rfl⟩ := List.getElem_of_mem hx
        have := hall j hj
        unfold atZ at this
        rw [List.getD_eq_getElem?_getD, List.getElem?_eq_getElem hj] at this
        exact this
      refine ⟨_, rfl, by rw [e]; exact HO1.out, But.of_below HB1.out⟩
    clear hall
    go_wp2_with fail
    go_ret
    exact HFin.out
  · obtain ⟨g, cp, hgg⟩ := own_posk HO1.out (by omega)
    simp only [Value.slice.injEq, true_and] at hgg
    obtain ⟨rfl, rfl⟩ := hgg
    have hiz : ((i : Int) == -1) = false := by rw [beq_eq_false_iff_ne]; omega
    have HS0 : Hid (i < i + 1 ∧ i + 1 ≤ zs.length ∧ zs.take i = posZ (zs.take (i + 1)) ∧ i = (posZ (zs.take (i + 1))).length) := by
      have e1 : posZ (zs.take i) = zs.take i := posZ_all fun x hx => by
        obtain ⟨j, hj, rfl⟩ := List.getElem_of_mem hx
        have hj2 : j < i := by simp at hj; omega
        have := hfst j hj2
        unfold atZ at this
        rw [List.getD_eq_getElem?_getD, List.getElem?_eq_getElem (by omega)] at this
        rw [List.getElem_take]
        exact this
      have e2 : posZ (zs.take (i + 1)) = zs.take i := by
        rw [take_pos hi, if_neg (by unfold atZ at hneg; omega), e1]
      exact ⟨by omega, by omega, e2.symm, by rw [e2]; simp; omega⟩
    clear hneg hfst HO
    go_wp2_with fail
    go_loopw [5, 6] (fun iv jv wx => ∃ (i j : Nat) (ys : List Int), iv = .int .i64 (i : Int) ∧ jv = .int .i64 (j : Int) ∧ i < j ∧ j ≤ zs.length ∧ ys.length = zs.length ∧ wx.ownsRow base 3 1 (.slice (some ⟨g, 0, none⟩) zs.length cap) zs.length (zI ys) ∧ ys.take i = posZ (zs.take j) ∧ i = (posZ (zs.take j)).length ∧ ys.drop j = zs.drop j ∧ But (fun b => b = g) w1 wx) (fun _ jv _ => zs.length - (intOf jv).toNat)
    case atStart => exact ⟨i, i + 1, zs, rfl, by go_num, HS0.out.1, HS0.out.2.1, rfl, HO1.out, HS0.out.2.2.1, HS0.out.2.2.2, rfl, But.refl _ _⟩
    case round =>
      clear HS0 HO1
      obtain ⟨i, j, ys, rfl, rfl, hij, hjn, hyl, hown, htk, hil, hdr, hbut⟩ := hrel
      have HOw := hidd hown
      have HTk := hidd htk
      have HIl := hidd hil
      have HDr := hidd hdr
      have HBu := hidd hbut
      have HYl := hidd hyl
      obtain ⟨_, cur, hcur⟩ := own_blk hown (b := g) rfl
      have fz := fun k => blkf hcur k
      have HCur := hidd hcur
      by_cases hlt : j < zs.length
      · have hltz : (j : Int) < (zs.length : Int) := by omega
        have hyj : ys.getD j 0 = zs.getD j 0 := by
          have h1 := hdr
          rw [drop_cons (by omega), drop_cons hlt] at h1
          exact (List.cons.inj h1).1
        have hd1 : ys.drop (j + 1) = zs.drop (j + 1) := by
          have h1 := hdr
          rw [drop_cons (by omega), drop_cons hlt] at h1
          exact (List.cons.inj h1).2
        have c1 : wr.cell? ⟨g, j, none⟩ = some (.int .i64 (zs.getD j 0)) := by
          rw [hown.cellAt j (by omega), ← hyj]
          simp [zI, show j < ys.length by omega]
        have c2 : wr.cell? ⟨g, i, none⟩ = some (.int .i64 (ys.getD i 0)) := by
          rw [hown.cellAt i (by omega)]
          simp [zI, show i < ys.length by omega]
        have HTp := hidd (take_pos hlt)
        have HD1 := hidd hd1
        have hiz2 : (i : Int) < (zs.length : Int) := by omega
        clear hown htk hil hdr hbut hyl hcur hyj hd1
        generalize zs.getD j 0 = x at *
        generalize ys.getD i 0 = yi at *
        have HNg := hidd (neg_any x wr)
        by_cases hn : x < 0
        · rw [decide_eq_true hn] at HNg
          have HE : Hid (posZ (zs.take (j + 1)) = posZ (zs.take j)) := by show _ = _; rw [HTp.out, if_neg (by omega)]
          go_wp2_with fail
          refine HNg.out.mono ?_
          rintro e w2 ⟨rfl, rfl⟩
          go_wp2_with fail
          go_roundw
          case rel => exact ⟨i, j + 1, ys, rfl, by go_num, by omega, by omega, HYl.out, HOw.out, by rw [HE.out]; exact HTk.out, by rw [HE.out]; exact HIl.out, HD1.out, HBu.out⟩
          case measure => simp [intOf]; omega
        · rw [decide_eq_false hn] at HNg
          have HE : Hid (posZ (zs.take (j + 1)) = posZ (zs.take j) ++ [x]) := by show _ = _; rw [HTp.out, if_pos (by omega)]
          have HN : Hid ((wr.setCell ⟨g, i, none⟩ (.int .i64 x)).ownsRow base 3 1 (.slice (some ⟨g, 0, none⟩) zs.length cap) zs.length (zI (ys.set i x)) ∧ (ys.set i x).take (i + 1) = posZ (zs.take (j + 1)) ∧ i + 1 = (posZ (zs.take (j + 1))).length ∧ (ys.set i x).drop (j + 1) = zs.drop (j + 1) ∧ But (fun b => b = g) w1 (wr.setCell ⟨g, i, none⟩ (.int .i64 x))) := by
            have hil : i < ys.length := by rw [HYl.out]; omega
            refine ⟨own_setI HOw.out (by omega) x, ?_, by rw [HE.out, List.length_append, List.length_singleton, ← HIl.out], by rw [List.drop_set_of_lt (by omega)]; exact HD1.out, HBu.out.set g i _ rfl⟩
            rw [HE.out, ← HTk.out, List.take_succ_eq_append_getElem (by simpa using hil)]
            simp only [List.take_set, List.getElem_set_self]
            rw [List.set_eq_of_length_le (by simp; omega)]
          go_wp2_with fail
          refine HNg.out.mono ?_
          rintro e w2 ⟨rfl, rfl⟩
          go_wp2_with fail
          go_roundw
          case rel => exact ⟨i + 1, j + 1, ys.set i x, by go_num, by go_num, by omega, by omega, by rw [List.length_set]; exact HYl.out, HN.out.1, HN.out.2.1, HN.out.2.2.1, HN.out.2.2.2.1, HN.out.2.2.2.2⟩
          case measure => simp [intOf]; omega
      · have hltz : ¬ (j : Int) < (zs.length : Int) := by omega
        obtain rfl : j = zs.length := by omega
        obtain ⟨cap', cur', h1, hgb, h3, h4, h5, h6, h7⟩ : ∃ cap' cur', cap = cap' ∧ base ≤ g ∧ wr.heap[g]? = some (.cells cur' 3) ∧ zs.length ≤ cap' ∧ cap' ≤ maxLen ∧ cur'.size = cap' * 1 ∧ cur'.toList.take (zs.length * 1) = zI ys := by
          rcases hown.2 with ⟨h', _⟩ | ⟨g', c', cr, h1, h2, h3, h4, h5, h6, h7⟩
          · simp at h'
          · simp only [Value.slice.injEq, Option.some.injEq, Addr.mk.injEq, and_true, true_and] at h1
            obtain ⟨rfl, rfl⟩ := h1
            exact ⟨cap, cr, rfl, h2, h3, h4, h5, h6, h7⟩
        subst h1
        have hcl : ∀ ty, (Builtin.clear_ #[30] ty #[.slice (some ⟨g, i, none⟩) (zs.length - i) (cap - i)]).run Tryd.prog wr = .ok (.tuple #[]) (wr.setCells g i (List.replicate (zs.length - i) (.int .i64 0))) :=
          fun ty => Lib.run_clear_slice wr _ _ ty _ Tryd.underlying30 HV0.out rfl rfl g i _ _ (by omega) (fun t ht => by
            rw [hown.cellAt (i + t) (by omega)]
            simp [zI, show i + t < ys.length by omega]) (fun t ht => fz _)
        obtain ⟨cs', k1, k2, k3, k4⟩ := setCells_blk (List.replicate (zs.length - i) (.int .i64 0)) i wr cur' h3
        have HFin : Hid (DlPost zs base (.slice (some ⟨g, 0, none⟩) zs.length cap) w (.returned (.slice (some ⟨g, 0, none⟩) i cap)) (wr.setCells g i (List.replicate (zs.length - i) (.int .i64 0)))) := by
          rw [List.take_length] at htk hil
          refine ⟨_, rfl, ?_, ?_⟩
          · rw [← hil]
            refine ⟨by rw [zI_len, ← hil]; omega, Or.inr ⟨g, cap, cs', rfl, hgb, k1, by omega, h5, by rw [k2]; exact h6, ?_⟩⟩
            rw [← htk]
            have e1 : (zI ys).take i = zI (ys.take i) := by simp [zI, List.map_take]
            rw [← e1, ← h7, List.take_take, Nat.mul_one, Nat.mul_one, Nat.min_eq_left (by omega)]
            refine List.ext_getElem? fun t => ?_
            rw [List.getElem?_take, List.getElem?_take]
            by_cases ht : t < i
            · rw [if_pos ht, if_pos ht, Array.getElem?_toList, Array.getElem?_toList, k3 t ht]
            · rw [if_neg ht, if_neg ht]
          · exact ((show But (fun _ => False) w w1 from But.of_below HB1.out).trans (show But (fun b => b = g) w1 _ from HBu.out.trans k4 (fun _ _ h => h) (fun _ _ h => h)) (fun _ _ h => False.elim h) (fun b _ h => by rw [h]; rfl))
        have hci : ¬ cap = i := by omega
        have b1 : (i : Int) ≤ (zs.length : Int) := by omega
        have b2 : (zs.length : Int) ≤ (cap : Int) := by omega
        have b3 : (i : Int) ≤ (cap : Int) := by omega
        have t1 : ((zs.length : Int) - (i : Int)).toNat = zs.length - i := by omega
        have t2 : ((cap : Int) - (i : Int)).toNat = cap - i := by omega
        have n1 : i ≤ zs.length := by omega
        have n2 : i ≤ cap := by omega
        clear hown htk hil hdr hbut hyl hcur h3 h4 h5 h6 h7 k1 k2 k3 k4 HOw HTk HIl HDr HBu HYl HCur fz HB1
        go_wp2_with fail
        go_ret
        exact HFin.out
def SpWPost (w : World) (zs : List Int) (e : Ending) (w' : World) : Prop :=
  ∃ ls vr vy vs vc, RiseZ ls ∧ (∀ y, y ∈ ls ↔ y ∈ zs ∧ 0 ≤ y) ∧ ls.length ≤ zs.length ∧ e = .returned (.agg #[vr, vy, vs, vc]) ∧ HoldI w' vr ls ∧ HoldI w' vy (nat2 (List.range ls.length)) ∧ HoldI w' vs (ls ++ [-1]) ∧ HoldI w' vc (cntA ls.length) ∧ Below w.heap.size w w'
set_option maxHeartbeats 2000000 in
theorem spelledW_any (v : Value) (zs : List Int) (w : World) (hN : zs.length ≤ 1000) (hp : ∀ x ∈ zs, x ≤ 1114111) (hv : HoldI w v zs) :
    Calls Tryd.prog 25 #[v] w (SpWPost w zs) := by
  obtain ⟨ad, cap, rfl, hz⟩ := atZ_hold hv
  have HZ := hidd hz
  have HP := hidd hp
  have HSL := hidd (srtZ_len zs)
  have hsl : (srtZ zs).length ≤ 1000 := by rw [HSL.out]; exact hN
  clear hz hv hp
  go_enter Tryd.func25, Tryd.ntmps25
  go_wp2_with fail
  have hb0 : Below w.heap.size w (w.alloc (.cells #[.slice none 0 0, .slice none 0 0, .slice none 0 0, .slice none 0 0] 59)) := (Below.refl _ _).alloc (Nat.le_refl _) _
  have hr0 : (w.alloc (.cells #[.slice none 0 0, .slice none 0 0, .slice none 0 0, .slice none 0 0] 59)).heap[w.heap.size]? = some (.cells #[.slice none 0 0, .slice none 0 0, .slice none 0 0, .slice none 0 0] 59) := heap_alloc_new _ _
  generalize w.alloc (.cells #[.slice none 0 0, .slice none 0 0, .slice none 0 0, .slice none 0 0] 59) = W0 at *
  refine (valsF_any ad zs.length cap W0).mono ?_
  rintro e w1 ⟨rfl, hw1⟩
  have hb1 : Below W0.heap.size W0 w1 := by rw [hw1]; exact (Below.refl _ _).alloc (Nat.le_refl _) _
  have hn1 : w1.heap[W0.heap.size]? = some (.cells #[.slice ad zs.length cap] 30) := by rw [hw1]; exact heap_alloc_new _ _
  have hbw1 : Below w.heap.size w w1 := hb0.trans (hb1.mono hb0.size)
  have HS := hidd (sorted_any W0.heap.size cap ad zs w1 (by omega) (blkc hn1 0) (fun i hi => by
    obtain ⟨g, off, e1, e2⟩ := HZ.out i hi
    exact ⟨g, off, e1, (hbw1.cell (p := ⟨g, off + i, none⟩) (cell_lt e2)).trans e2⟩))
  have hr1 := blko hr0 hb1
  clear hw1 hn1 HZ hr0 hb0 hb1
  go_wp2_with fail
  refine HS.out.mono ?_
  rintro e w2 ⟨v2, rfl, h2, hb2⟩
  have hbw2 : Below w.heap.size w w2 := hbw1.trans (hb2.mono hbw1.size)
  have hr2 := blko hr1 hb2
  have h2' : w2.ownsRow w1.heap.size 3 1 v2 (srtZ zs).length (zI (srtZ zs)) := by rw [HSL.out]; exact h2
  have hs1 := hbw1.size
  have HD := hidd (deleteNeg_any w1.heap.size v2 (srtZ zs) w2 (by omega) hb2.size h2')
  obtain ⟨ad2, cp2, rfl⟩ := own_sl1 h2'
  have H2 := hidd h2'
  clear h2 h2' HS hb2 hr1 hbw1
  go_wp2_with fail
  refine HD.out.mono ?_
  rintro e w3 ⟨v3, rfl, ho3, hb3⟩
  have hbw3 : Below w.heap.size w w3 := hbw2.trans (hb3.below hbw2.size (fun j hj e => by have := (own_blk H2.out e).1; omega))
  have hr3 : w3.heap[w.heap.size]? = some (.cells #[.slice none 0 0, .slice none 0 0, .slice none 0 0, .slice none 0 0] 59) := by
    rw [hb3.block w.heap.size (Array.getElem?_eq_some_iff.1 hr2).1 (fun e => by
      obtain ⟨_, cur, h5⟩ := own_blk H2.out e
      exact blk_ne hr2 h5 (by decide) rfl)]
    exact hr2
  obtain ⟨ad3, cp3, rfl⟩ := own_sl1 ho3
  have H3 := hidd ho3
  have hpl := posZ_len (srtZ zs)
  have HC := hidd (compRowI_any (posZ (srtZ zs)) w1.heap.size _ w3 (by omega) H3.out)
  clear HD H2 hb3 hr2 hbw2 ho3
  go_wp2_with fail
  refine HC.out.mono ?_
  rintro e w4 ⟨v4, rfl, h4, hg4⟩
  have hbw4 : Below w.heap.size w w4 := grown_below hbw3 H3.out hs1 hg4
  have hr4 : w4.heap[w.heap.size]? = some (.cells #[.slice none 0 0, .slice none 0 0, .slice none 0 0, .slice none 0 0] 59) := by
    rw [hg4.block w.heap.size (Array.getElem?_eq_some_iff.1 hr3).1 (fun e => by
      obtain ⟨_, cur, h5⟩ := own_blk H3.out e.symm
      exact blk_ne hr3 h5 (by decide) rfl)]
    exact hr3
  obtain ⟨ls, hls⟩ : ∃ ls, Lib.compact (posZ (srtZ zs)) = ls := ⟨_, rfl⟩
  have hcr := compact_riseZ (posZ (srtZ zs)) ((sortedZ zs).sublist List.filter_sublist)
  rw [hls] at hcr h4
  have hmem : ∀ y, y ∈ ls ↔ y ∈ zs ∧ 0 ≤ y := fun y => by
    rw [hcr.2]
    unfold posZ
    unfold srtZ
    rw [List.mem_filter, decide_eq_true_eq, (List.mergeSort_perm zs _).mem_iff]
  have h4' : w4.ownsRow w1.heap.size 3 1 v4 ls.length (zI ls) := h4
  have hll : ls.length ≤ zs.length := by
    have h1 := compact_lenZ (posZ (srtZ zs))
    rw [hls] at h1
    have h2 := HSL.out
    omega
  have HRi := hidd hcr.1
  have HMm := hidd hmem
  clear hls
  have HA := hidd (newAlphabet_any v4 ls w4 (by omega) (HRi.out.imp (fun h => by omega)) (fun x hx => ⟨((HMm.out x).1 hx).2, HP.out x ((HMm.out x).1 hx).1⟩) (HoldI.own h4'))
  obtain ⟨ad4, cp4, rfl⟩ := own_sl1 h4'
  have H4 := hidd (HoldI.own h4')
  clear h4 h4' hg4 HC H3 hr3 hbw3 HP
  go_wp2_with fail
  refine HA.out.mono ?_
  rintro e w5 h5
  obtain ⟨vy, vs, vc, rfl, h6, h7, h8, hb5⟩ := al_sub h5
  have hbw5 : Below w.heap.size w w5 := hbw4.trans (hb5.mono hbw4.size)
  have hr5 := blko hr4 hb5
  have H5 := hidd (H4.out.below hb5)
  have H6 := hidd h6
  have H7 := hidd h7
  have H8 := hidd h8
  obtain ⟨ady, cpy, rfl, -⟩ := h6
  obtain ⟨ads, cps, rfl, -⟩ := h7
  obtain ⟨adc, cpc, rfl, -⟩ := h8
  generalize (nat2 (List.range ls.length)).length = ny at *
  generalize (ls ++ [-1]).length = ns at *
  generalize (cntA ls.length).length = nc at *
  generalize hnl : ls.length = nl at *
  have r0 := blkc hr5 0
  have r1 := blkc hr5 1
  have r2 := blkc hr5 2
  have r3 := blkc hr5 3
  have fzr := fun j => frozen_of_row _ _ j _ _ hr5
  have Hfs := hidd (four_set hr5 (.slice ad4 nl cp4) (.slice ady ny cpy) (.slice ads ns cps) (.slice adc nc cpc))
  have HR5 := hidd hr5
  have HB5 := hidd hbw5
  clear h5 hb5 HA H4 hr4 hbw4 hr5 hbw5
  go_wp2_with fail
  have q0 := blkc Hfs.out 0
  have q1 := blkc Hfs.out 1
  have q2 := blkc Hfs.out 2
  have q3 := blkc Hfs.out 3
  have hbf : Below w.heap.size w ((((w5.setCell ⟨w.heap.size, 0, none⟩ (.slice ad4 nl cp4)).setCell ⟨w.heap.size, 1, none⟩ (.slice ady ny cpy)).setCell ⟨w.heap.size, 2, none⟩ (.slice ads ns cps)).setCell ⟨w.heap.size, 3, none⟩ (.slice adc nc cpc)) := (((HB5.out.setCell (p := ⟨w.heap.size, 0, none⟩) (Nat.le_refl _) _).setCell (p := ⟨w.heap.size, 1, none⟩) (Nat.le_refl _) _).setCell (p := ⟨w.heap.size, 2, none⟩) (Nat.le_refl _) _).setCell (p := ⟨w.heap.size, 3, none⟩) (Nat.le_refl _) _
  have keep : ∀ (u : Value) (ys : List Int), HoldI w5 u ys → HoldI ((((w5.setCell ⟨w.heap.size, 0, none⟩ (.slice ad4 nl cp4)).setCell ⟨w.heap.size, 1, none⟩ (.slice ady ny cpy)).setCell ⟨w.heap.size, 2, none⟩ (.slice ads ns cps)).setCell ⟨w.heap.size, 3, none⟩ (.slice adc nc cpc)) u ys := fun u ys hu => hu.off w.heap.size (no_int HR5.out) (fun g hg => by
    rw [heap_set_other _ _ _ _ _ hg, heap_set_other _ _ _ _ _ hg, heap_set_other _ _ _ _ _ hg, heap_set_other _ _ _ _ _ hg]) (by simp [World.setCell])
  have HFin : Hid (SpWPost w zs (.returned (.agg #[.slice ad4 nl cp4, .slice ady ny cpy, .slice ads ns cps, .slice adc nc cpc])) ((((w5.setCell ⟨w.heap.size, 0, none⟩ (.slice ad4 nl cp4)).setCell ⟨w.heap.size, 1, none⟩ (.slice ady ny cpy)).setCell ⟨w.heap.size, 2, none⟩ (.slice ads ns cps)).setCell ⟨w.heap.size, 3, none⟩ (.slice adc nc cpc))) := ⟨ls, _, _, _, _, HRi.out, HMm.out, by rw [hnl]; exact hll, rfl, keep _ _ H5.out, by rw [hnl]; exact keep _ _ H6.out, keep _ _ H7.out, by rw [hnl]; exact keep _ _ H8.out, hbf⟩
  clear hbf keep Hfs H5 H6 H7 H8 r0 r1 r2 r3 fzr HB5 HR5
  generalize ((((w5.setCell ⟨w.heap.size, 0, none⟩ (.slice ad4 nl cp4)).setCell ⟨w.heap.size, 1, none⟩ (.slice ady ny cpy)).setCell ⟨w.heap.size, 2, none⟩ (.slice ads ns cps)).setCell ⟨w.heap.size, 3, none⟩ (.slice adc nc cpc)) = Wf at *
  refine bodyPost_ret (v := .agg #[.slice ad4 nl cp4, .slice ady ny cpy, .slice ads ns cps, .slice adc nc cpc]) (by simp [results, Tryd.results25, go_sem, *]) rfl ?_
  exact HFin.out
end Go.Proofs.YtmnfioghhdgciaaDoor
