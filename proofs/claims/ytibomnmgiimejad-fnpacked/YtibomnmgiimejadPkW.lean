import Derived.Test.YtibomnmgiimejadPkL
import Derived.Test.YtibomnmgiimejadLen
namespace Go.Proofs.Ytibomnmgiimejad
open Go Go.RowKit
set_option linter.unusedVariables false

theorem orL_take (vs : List Nat) (k : Nat) (h : k < vs.length) : orL (vs.take (k + 1)) = orL (vs.take k) ||| vs.getD k 0 := by
  have ht : vs.take (k + 1) = vs.take k ++ [vs.getD k 0] := by rw [List.take_succ_eq_append_getElem h]; simp [h]
  rw [ht, orL, orL, List.foldl_append]
  simp only [List.foldl_cons, List.foldl_nil]
set_option maxHeartbeats 1000000 in
set_option maxRecDepth 100000 in
theorem width_any (vs : List Nat) (w : World) (hl : vs.length = 128) (h : ∀ v ∈ vs, v < 18446744073709551616) :
    Calls Try.prog 96 #[.agg (uArr vs)] w fun e w' => e = .returned (.int .i64 (widthL vs : Nat)) ∧ Below w.heap.size w w' := by
  have Hv := hidd h
  have Hlt : Hid (∀ k, orL (vs.take k) < 18446744073709551616) := fun k => (orL_lt (vs.take k) 64).2 (fun v hv => by have := h v (List.mem_of_mem_take hv); simpa using this)
  clear h
  go_enter Try.func96, Try.ntmps96
  go_wp2_with (first | (refine wpB_box rfl _ rfl vs rfl ?_) | (refine wpB_load rfl _ rfl w.heap.size w.heap.size vs rfl (Blk.new (Nat.le_refl _) hl) ?_))
  go_loop [3, 7] (fun ov i => ∃ k : Nat, k ≤ 128 ∧ i = .int .i64 k ∧ ov = .int .u64 ((orL (vs.take k) : Nat) : Int)) (fun _ i => 128 - (intOf i).toNat)
  case atStart => exact ⟨0, by omega, rfl, rfl⟩
  case round =>
    obtain ⟨k, hk, rfl, rfl⟩ := hrel
    have hor := Hlt.out k
    by_cases hlt : k < 128
    · have hklt : (k : Int) < 128 := by omega
      have hv := Hv.out (vs.getD k 0) (by rw [List.getD_eq_getElem?_getD, List.getElem?_eq_getElem (by omega : k < vs.length)]; exact List.getElem_mem _)
      have hbo := u64_or_nat (orL (vs.take k)) (vs.getD k 0) hor hv
      have Ht := hidd (orL_take vs k (by omega))
      rw [← Ht.out] at hbo
      generalize orL (vs.take k) = x at *
      obtain ⟨v, hvv⟩ : ∃ v, vs.getD k 0 = v := ⟨_, rfl⟩
      have Hvv := hidd hvv
      rw [hvv] at hbo
      clear hvv hv Ht
      go_wp2_with (refine wpB_index rfl _ _ rfl vs k v hl hlt Hvv.out rfl rfl ?_)
      go_round
      case rel => exact ⟨k + 1, by omega, by go_num, rfl⟩
      case measure => simp [intOf]; omega
    · have HK : Hid (vs.take k = vs) := by show _ = _; rw [List.take_of_length_le (by omega)]
      have HW := hidd (orL_width vs Hv.out)
      rw [HK.out] at hor ⊢
      obtain rfl : k = 128 := by omega
      clear hlt hk
      go_wp2_with fail
      refine (Try.bits_Len64 _ _ (by omega) (by omega)).mono ?_
      rintro e w' ⟨rfl, rfl⟩
      go_wp2
      go_ret
      refine ⟨?_, (Below.refl _ _).alloc (Nat.le_refl _) _⟩
      rw [HW.out]
      rfl

def wordsL (M : Nat) : List Nat := (List.range 128).map (wordAt M)
theorem wordsL_length (M : Nat) : (wordsL M).length = 128 := by simp [wordsL]
theorem wordsL_at (M k : Nat) (h : k < 128) : (wordsL M).getD k 0 = wordAt M k := by simp [wordsL, h]
theorem wordsL_zero : wordsL 0 = zeros := by
  apply List.ext_getElem (by rw [wordsL_length, zeros_length])
  intro i h1 h2
  have e : zeros[i] = 0 := by unfold zeros; exact List.getElem_replicate _
  rw [e]
  simp [wordsL, wordAt]
/-- One number more, laid into the words. -/
theorem wordsL_step (N v p : Nat) (h : N < 2 ^ p) (hv : v < 18446744073709551616) (hp : p / 64 + 1 < 128) :
    ((wordsL N).set (p / 64) (wordAt N (p / 64) ||| (v * 2 ^ (p % 64)) % 18446744073709551616)).set (p / 64 + 1) (wordAt N (p / 64 + 1) ||| v / 2 ^ (64 - p % 64)) = wordsL (N + 2 ^ p * v) := by
  apply List.ext_getElem (by simp [wordsL])
  intro i h1 h2
  have hi : i < 128 := by rw [wordsL_length] at h2; exact h2
  rw [List.getElem_set, List.getElem_set]
  have e : ∀ M (hM : i < (wordsL M).length), (wordsL M)[i] = wordAt M i := by intro M hM; simp [wordsL]
  rw [e _ h2]
  by_cases h1 : p / 64 + 1 = i
  · rw [if_pos h1, ← h1, word_next N v p h hv]
  · rw [if_neg h1]
    by_cases h0 : p / 64 = i
    · rw [if_pos h0, ← h0, word_here N v p h]
    · rw [if_neg h0, e _ (by rw [wordsL_length]; exact hi), word_else N v p i h hv (fun e => h0 e.symm) (fun e => h1 e.symm)]

theorem numL_take (w : Nat) (vs : List Nat) (k : Nat) (h : k < vs.length) : numL w (vs.take (k + 1)) = numL w (vs.take k) + 2 ^ (k * w) * vs.getD k 0 := by
  have ht : vs.take (k + 1) = vs.take k ++ [vs.getD k 0] := by rw [List.take_succ_eq_append_getElem h]; simp [h]
  have hl : (vs.take k).length = k := by rw [List.length_take]; omega
  rw [ht, numL_snoc, hl, Nat.mul_comm w k]
set_option maxHeartbeats 2000000 in
set_option maxRecDepth 100000 in
theorem laid_any (vs : List Nat) (width : Nat) (w : World) (hl : vs.length = 128) (hw : width ≤ 62) (h : ∀ v ∈ vs, v < 2 ^ width) :
    Calls Try.prog 97 #[.agg (uArr vs), .int .i64 (width : Int)] w fun e w' => e = .returned (.agg (uArr (wordsL (numL width vs)))) ∧ Below w.heap.size w w' := by
  have Hv := hidd h
  clear h
  go_enter Try.func97, Try.ntmps97
  go_wp2_with (first | (refine wpB_box rfl _ rfl vs rfl ?_) | (refine wpB_alloc rfl rfl ?_) | (refine wpB_load rfl _ rfl w.heap.size w.heap.size vs rfl (((Blk.new (Nat.le_refl _) hl).alloc _).alloc _) ?_))
  go_loopw [11] (fun i wr => ∃ k : Nat, k ≤ 128 ∧ i = .int .i64 k ∧ Blk wr w.heap.size (w.heap.size + 1 + 1) (wordsL (numL width (vs.take k))) ∧ Blk wr w.heap.size (w.heap.size + 1) zeros ∧ Below w.heap.size w wr) (fun i _ => 128 - (intOf i).toNat)
  case atStart =>
    refine ⟨0, by omega, rfl, ?_, ?_, (((Below.refl _ _).alloc (Nat.le_refl _) _).alloc (by simp) _).alloc (by simp; omega) _⟩
    · have : numL width (vs.take 0) = 0 := by simp [numL]
      rw [this, wordsL_zero]
      have := Blk.new (w := (w.alloc (.cells (uArr vs) 112)).alloc (.cells (uArr zeros) 112)) (base := w.heap.size) (by simp; omega) zeros_length
      simpa using this
    · have := (Blk.new (w := w.alloc (.cells (uArr vs) 112)) (base := w.heap.size) (by simp) zeros_length).alloc (.cells (uArr zeros) 112)
      simpa using this
  case round =>
    obtain ⟨k, hk, rfl, hB, hR, hbel⟩ := hrel
    have HB := hidd hB
    have HR := hidd hR
    have Hbel := hidd hbel
    clear hB hR hbel
    by_cases hlt : k < 128
    · have hklt : (k : Int) < 128 := by omega
      have Hvk := hidd (Hv.out (vs.getD k 0) (by rw [List.getD_eq_getElem?_getD, List.getElem?_eq_getElem (by omega : k < vs.length)]; exact List.getElem_mem _))
      have Hn := hidd (numL_take width vs k (by omega))
      have hpw := pow62 width hw
      obtain ⟨v, hvv⟩ : ∃ v, vs.getD k 0 = v := ⟨_, rfl⟩
      have Hvv := hidd hvv
      rw [hvv] at Hvk Hn
      clear hvv
      have hv64 : v < 4611686018427387904 := Nat.lt_of_lt_of_le Hvk.out hpw
      obtain ⟨p, hp⟩ : ∃ p, k * width = p := ⟨_, rfl⟩
      have hp128 : p ≤ 7874 := by rw [← hp]; exact Nat.le_trans (Nat.mul_le_mul (by omega : k ≤ 127) hw) (by omega)
      have hpz : (k : Int) * (width : Int) = (p : Int) := by rw [← hp]; simp
      rw [hp] at Hn
      have HN : Hid (numL width (vs.take k) < 2 ^ p) := by
        show _ < _
        have := numL_lt width (vs.take k) (fun u hu => Hv.out u (List.mem_of_mem_take hu))
        rw [List.length_take, Nat.min_eq_left (by omega), Nat.mul_comm, hp] at this
        exact this
      generalize numL width (vs.take k) = N at *
      clear hp hpw
      obtain ⟨wd, hwd⟩ : ∃ wd, p / 64 = wd := ⟨_, rfl⟩
      obtain ⟨sh, hsh⟩ : ∃ sh, p % 64 = sh := ⟨_, rfl⟩
      have hwd1 : wd ≤ 123 := by omega
      have hsh1 : sh < 64 := by omega
      have hq1 : (p : Int) / 64 = (wd : Int) := by omega
      have hq2 : (p : Int) % 64 = (sh : Int) := by omega
      have HS := hidd (wordsL_step N v p HN.out (by omega) (by omega))
      rw [hwd, hsh] at HS
      have c1 := HB.out.cell wd (by omega)
      rw [wordsL_at N wd (by omega)] at c1
      have f1 := HB.out.frozen wd
      have hA1 := wordAt_lt N wd
      have hA2 := wordAt_lt N (wd + 1)
      generalize hA : wordAt N wd = A at *
      generalize hA' : wordAt N (wd + 1) = A' at *
      have c2 := HB.out.cell (wd + 1) (by omega)
      rw [wordsL_at N (wd + 1) (by omega), hA'] at c2
      have f2 := HB.out.frozen (wd + 1)
      obtain ⟨S, hS, HSS⟩ : ∃ S : Nat, IntKind.u64.wrap ((v : Int) * 2 ^ sh) = (S : Int) ∧ Hid (v * 2 ^ sh % 18446744073709551616 = S) := by
        refine ⟨_, ?_, rfl⟩
        rw [IntKind.wrap_u64]
        have : (v : Int) * 2 ^ sh = ((v * 2 ^ sh : Nat) : Int) := by rw [Int.natCast_mul, Int.natCast_pow]; rfl
        rw [this]; omega
      have hS64 : S < 18446744073709551616 := by rw [← HSS.out]; exact Nat.mod_lt _ (by omega)
      obtain ⟨R1, hR1, HR1⟩ : ∃ R1 : Nat, bits .or .u64 (A : Int) (S : Int) = (R1 : Int) ∧ Hid (A ||| S = R1) := ⟨_, u64_or_nat A S hA1 hS64, rfl⟩
      obtain ⟨T, hT, HTT⟩ : ∃ T : Nat, (v : Int) / 2 ^ (64 - sh) = (T : Int) ∧ Hid (v / 2 ^ (64 - sh) = T) := by
        refine ⟨_, ?_, rfl⟩
        rw [Int.natCast_ediv, Int.natCast_pow]; rfl
      have hT64 : T < 18446744073709551616 := by rw [← HTT.out]; exact Nat.lt_of_le_of_lt (Nat.div_le_self _ _) (by omega)
      obtain ⟨R2, hR2, HR2⟩ : ∃ R2 : Nat, bits .or .u64 (A' : Int) (T : Int) = (R2 : Int) ∧ Hid (A' ||| T = R2) := ⟨_, u64_or_nat A' T hA2 hT64, rfl⟩
      go_wp2_with (refine wpB_index rfl _ _ rfl vs k v hl hlt Hvv.out rfl rfl ?_)
      go_region
      go_wp2
      go_region
      go_wp2
      go_roundw
      case rel =>
        have B1 := HB.out.set wd R1
        have B2 := B1.1.set (wd + 1) R2
        refine ⟨k + 1, by omega, by go_num, ?_, ?_, ?_⟩
        · have B3 := B2.1.drew 2
          rw [← HR1.out, ← HR2.out, ← HSS.out, ← HTT.out, HS.out, ← Hn.out] at B3
          rw [← HR1.out, ← HR2.out, ← HSS.out, ← HTT.out]
          exact B3
        · exact ((HR.out.kept B1.2 (by simp)).kept B2.2 (by simp)).drew 2
        · exact below_drewN ((Hbel.out.setCell (p := ⟨w.heap.size + 1 + 1, wd, none⟩) (by simp; omega) _).setCell (p := ⟨w.heap.size + 1 + 1, wd + 1, none⟩) (by simp; omega) _) 2
      case measure => simp [intOf]; omega
    · have HK : Hid (vs.take k = vs) := by show _ = _; rw [List.take_of_length_le (by omega)]
      rw [HK.out] at HB
      obtain rfl : k = 128 := by omega
      clear hlt hk
      have hwl := wordsL_length (numL width vs)
      generalize hws : wordsL (numL width vs) = ws at *
      have Hws := hidd hws
      clear hws
      go_wp2_with (first | (refine wpB_load rfl _ rfl w.heap.size (w.heap.size + 1 + 1) ws rfl HB.out ?_) | (refine wpB_store rfl _ _ rfl w.heap.size (w.heap.size + 1) zeros ws rfl rfl hwl HR.out ?_; intro W1 hB1 hg1))
      have HB1 := hidd hB1
      have R : Hid (Below w.heap.size w W1) := Hbel.out.grown hg1 Hbel.out.size (fun j e => by cases e; omega)
      clear hB1 hg1
      refine bodyPost_ret (v := .agg (uArr ws)) ?_ rfl ⟨by rw [Hws.out], R.out⟩
      exact results_cell_row rfl _ W1 (w.heap.size + 1) 112 (uArr ws) (0, 0) _ rfl HB1.out.heap Try.underlying112 rfl (by rw [uArr_size, hwl]; exact blockSize)
end Go.Proofs.Ytibomnmgiimejad
