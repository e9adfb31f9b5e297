import Derived.Test.YtibomnmgiimejadPkT
import Derived.Deep.RegionHeld3
import Derived.Deep.MidRow
import Derived.Laws.ResultCell
namespace Go.Proofs.Ytibomnmgiimejad
open Go Go.RowKit
set_option linter.unusedVariables false

theorem bytesFor_any (n width : Nat) (w : World) (hn : n ≤ 4096) (hw : width ≤ 62) :
    Calls Try.prog 98 #[.int .i64 (n : Int), .int .i64 (width : Int)] w fun e w' => e = .returned (.int .i64 ((sizeL n width : Nat) : Int)) ∧ w' = w := by
  obtain ⟨p, hp⟩ : ∃ p, n * width = p := ⟨_, rfl⟩
  have hp1 : p ≤ 253952 := by rw [← hp]; exact Nat.le_trans (Nat.mul_le_mul hn hw) (by omega)
  have hpz : (n : Int) * (width : Int) = (p : Int) := by rw [← hp]; simp
  have HE : Hid (((sizeL n width : Nat) : Int) = ((p : Int) + 7) / 8) := by show _ = _; unfold sizeL; rw [hp]; omega
  clear hp
  go_enter Try.func98, Try.ntmps98
  go_wp2
  go_ret
  rw [HE.out]
  exact ⟨rfl, rfl⟩
theorem sizeL_le (n width : Nat) (hn : n ≤ 128) (hw : width ≤ 62) : sizeL n width ≤ 992 := by
  have : n * width ≤ 128 * 62 := Nat.mul_le_mul hn hw
  unfold sizeL; omega

/-- One byte more, laid into the words. -/
theorem wordsL_byte (N c k : Nat) (h : N < 2 ^ (8 * k)) (hc : c < 256) (hk : k < 1016) :
    (wordsL N).set (k / 8) (wordAt N (k / 8) ||| (c * 2 ^ (k % 8 * 8)) % 18446744073709551616) = wordsL (N + 2 ^ (8 * k) * c) := by
  have h1 := wordsL_step N c (8 * k) h (by omega) (by omega)
  have e1 : 8 * k / 64 = k / 8 := by omega
  have e2 : 8 * k % 64 = k % 8 * 8 := by omega
  rw [e1, e2] at h1
  have e3 : c / 2 ^ (64 - k % 8 * 8) = 0 := Nat.div_eq_of_lt (Nat.lt_of_lt_of_le hc (by
    have : 2 ^ 8 ≤ 2 ^ (64 - k % 8 * 8) := Nat.pow_le_pow_right (by omega) (by omega)
    simpa using this))
  rw [e3, Nat.or_zero] at h1
  rw [← h1]
  apply List.ext_getElem (by simp)
  intro i hi1 hi2
  rw [List.getElem_set (i := k / 8 + 1)]
  by_cases hh : k / 8 + 1 = i
  · subst hh
    rw [if_pos rfl, List.getElem_set_ne (by omega)]
    simp [wordsL]
  · rw [if_neg hh]
theorem leNum_take (bs : List UInt8) (k : Nat) (h : k < bs.length) : leNum (bs.take (k + 1)) = leNum (bs.take k) + 2 ^ (8 * k) * (bs.getD k 0).toNat := by
  have ht : bs.take (k + 1) = bs.take k ++ [bs.getD k 0] := by rw [List.take_succ_eq_append_getElem h]; simp [h]
  have hl : (bs.take k).length = k := by rw [List.length_take]; omega
  rw [ht, leNum_snoc, hl]
theorem leNum_take_lt (bs : List UInt8) (k : Nat) : leNum (bs.take k) < 2 ^ (8 * k) :=
  Nat.lt_of_lt_of_le (leNum_lt _) (Nat.pow_le_pow_right (by omega) (by rw [List.length_take]; omega))
theorem leNum_take_all (bs : List UInt8) (k j : Nat) (h : j ≤ k) : (bs.take k).take j = bs.take j := by rw [List.take_take, Nat.min_eq_left h]

theorem blk_load {W : World} {base g : Nat} {vs : List Nat} (h : Blk W base g vs) : (loadVar 112 ⟨g, 0, none⟩).run Try.prog W = .ok (.agg (uArr vs)) W :=
  run_loadVar_row (P := Try.prog) W g 112 112 (uArr vs) (0, 0) _ h.heap Try.underlying112 rfl (by rw [uArr_size, h.len]; exact blockSize)
/-- What is asked of a call of leadingBlock. -/
def BlockOut (bs : List UInt8) (n : Nat) (X : List Nat) (s : Int) : Prop :=
  X.length = 128 ∧ ((readBlock bs n = none ∧ s = 0) ∨ ∃ vs r, readBlock bs n = some (vs, r) ∧ X = padL vs ∧ s = (r : Int))

set_option maxHeartbeats 2000000 in
set_option maxRecDepth 100000 in
theorem leadingBlock_bad (v : Value) (n : Nat) (bs : List UInt8) (w : World) (hn : n ≤ 128)
    (h : (∃ ao cap, v = .slice ao 0 cap ∧ bs = []) ∨ ∃ b off cap, v = .slice (some ⟨b, off, none⟩) bs.length cap ∧ 0 < bs.length ∧ bs.length ≤ 1048576 ∧ BytesAt w b off bs ∧ (62 < (bs.getD 0 0).toNat ∨ bs.length < 1 + sizeL n (bs.getD 0 0).toNat)) :
    Calls Try.prog 71 #[v, .int .i64 (n : Int)] w fun e w' => Below w.heap.size w w' ∧ e = .returned (.tuple #[.agg (uArr zeros), .int .i64 0]) := by
  rcases h with ⟨ao, cap, rfl, rfl⟩ | ⟨b, off, cap, rfl, hpos, hle, hc, hbad⟩
  · go_enter Try.func71, Try.ntmps71
    go_wp2_with (first | (refine wpB_alloc rfl rfl ?_) | (refine wpB_build rfl rfl ?_) | (refine wpB_store rfl _ _ rfl w.heap.size w.heap.size zeros zeros rfl rfl zeros_length (Blk.new (Nat.le_refl _) zeros_length) ?_; intro W1 hB1 hg1))
    have HB : Hid (Below w.heap.size w W1) := ((Below.refl _ _).alloc (Nat.le_refl _) _).grown hg1 (by simp) (fun j e => by cases e; exact Nat.le_refl _)
    have hld := blk_load hB1
    refine bodyPost_ret (v := .tuple #[.agg (uArr zeros), .int .i64 0]) ?_ rfl ⟨HB.out, rfl⟩
    rw [results_cell_tmp rfl]
    simp [asAddr, Result.andThen, hld]
  · have Hc := hidd hc
    have g0 := hc 0 hpos
    have hc256 : (bs.getD 0 0).toNat < 256 := UInt8.toNat_lt _
    rw [Nat.add_zero] at g0
    have hlz : ¬ (bs.length : Int) = 0 := by omega
    have hlz2 : ((bs.length : Int) == 0) = false := beq_false_of_ne hlz
    generalize bs.getD 0 0 = c0 at *
    have g1 := (((Below.refl w.heap.size w).alloc (Nat.le_refl _) (.cells (uArr zeros) 112)).cell (p := ⟨b, off, none⟩) (cell_lt g0)).trans g0
    clear hc
    by_cases h62 : 62 < c0.toNat
    · have h62z : (62 : Int) < (c0.toNat : Int) := by omega
      clear hbad
      go_enter Try.func71, Try.ntmps71
      go_wp2_with (first | (refine wpB_alloc rfl rfl ?_) | (refine wpB_build rfl rfl ?_) | (refine wpB_store rfl _ _ rfl w.heap.size w.heap.size zeros zeros rfl rfl zeros_length (Blk.new (Nat.le_refl _) zeros_length) ?_; intro W1 hB1 hg1))
      have HB : Hid (Below w.heap.size w W1) := ((Below.refl _ _).alloc (Nat.le_refl _) _).grown hg1 (by simp) (fun j e => by cases e; exact Nat.le_refl _)
      have hld := blk_load hB1
      refine bodyPost_ret (v := .tuple #[.agg (uArr zeros), .int .i64 0]) ?_ rfl ⟨HB.out, rfl⟩
      rw [results_cell_tmp rfl]
      simp [asAddr, Result.andThen, hld]
    · have h62z : ¬ (62 : Int) < (c0.toNat : Int) := by omega
      have hsz : bs.length < 1 + sizeL n c0.toNat := by omega
      have hsl := sizeL_le n c0.toNat hn (by omega)
      have HW := hidd (bytesFor_any n c0.toNat)
      clear hbad h62
      generalize sizeL n c0.toNat = sz at *
      have hszz : (bs.length : Int) < 1 + (sz : Int) := by omega
      go_enter Try.func71, Try.ntmps71
      go_wp2_with (first | (go_at_call 98; refine (HW.out _ (by omega) (by omega)).mono ?_; rintro e w' ⟨rfl, hw'⟩; obtain rfl := hw'.symm; clear hw') | (refine wpB_alloc rfl rfl ?_) | (refine wpB_build rfl rfl ?_) | (refine wpB_store rfl _ _ rfl w.heap.size w.heap.size zeros zeros rfl rfl zeros_length (Blk.new (Nat.le_refl _) zeros_length) ?_; intro W1 hB1 hg1))
      have HB : Hid (Below w.heap.size w W1) := ((Below.refl _ _).alloc (Nat.le_refl _) _).grown hg1 (by simp) (fun j e => by cases e; exact Nat.le_refl _)
      have hld := blk_load hB1
      refine bodyPost_ret (v := .tuple #[.agg (uArr zeros), .int .i64 0]) ?_ rfl ⟨HB.out, rfl⟩
      rw [results_cell_tmp rfl]
      simp [asAddr, Result.andThen, hld]
end Go.Proofs.Ytibomnmgiimejad
