import Derived.Test.YtefhmbnhhkgifaaPkM
import Derived.Test.YtefhmbnhhkgifaaPkP
namespace Go.Proofs.Ytefhmbnhhkgifaa
open Go Go.RowKit
set_option linter.unusedVariables false

set_option maxHeartbeats 1000000 in
set_option maxRecDepth 100000 in
theorem appendInt_any (base n : Nat) (v : Value) (l : List UInt8) (x : Nat) (w : World) (hx : x < 4611686018427387904) (hl : l.length = n) (hn : n ≤ 1099511627776) (hb : base ≤ w.heap.size) (h : w.ownsRow base 5 1 v n (Lib.byteCells l)) :
    Calls Try.prog 37 #[v, .int .i64 (x : Int)] w fun e w' => ∃ v', e = .returned v' ∧ w'.ownsRow base 5 1 v' (n + (putL x).length) (Lib.byteCells (l ++ putL x)) ∧ Grew w w' v v' ∧ v' ≠ .slice none 0 0 := by
  obtain ⟨i0, hi, hz0, hz1, hz2⟩ := info_parts Try.infoByte
  have HO := hidd h
  clear h
  go_enter Try.func37, Try.ntmps37
  go_wp2
  go_loopw [0, 5] (fun u r wr => ∃ (y : Nat) (q : List UInt8), y ≤ x ∧ r = .int .u64 (y : Int) ∧ q ++ putL y = l ++ putL x ∧ wr.ownsRow base 5 1 u q.length (Lib.byteCells q) ∧ Grew w wr v u) (fun _ r _ => (intOf r).toNat)
  case atStart => exact ⟨x, l, Nat.le_refl _, by go_num, rfl, by rw [hl]; exact HO.out, Grew.refl _ _⟩
  case round =>
    obtain ⟨y, q, hy, rfl, hq, hown, hg⟩ := hrel
    have HO2 := hidd hown
    have HG := hidd hg
    have Hq := hidd hq
    have hlen : q.length ≤ n + 9 := by
      have := congrArg List.length hq
      rw [List.length_append, List.length_append] at this
      have := putL_length9 x hx
      have := putL_pos y
      omega
    clear hown hg hq
    by_cases hlt : y < 128
    · have hlz : ¬ (127 : Int) < (y : Int) := by omega
      go_wp2_with (at_builtin; refine wpList_append_own_at _ rfl _ _ 28 rfl base 5 i0 (.int .u8 0) 1 1 Try.underlying28 hi hz0 hz1 hz2 rfl (by decide) _ _ _ rfl (HO2.out.alloc _) ⟨wr.heap.size, 0, none⟩ 1 1 [.int .u8 (y : Int)] rfl rfl ?c1 ?c2 ?c3 ?c4 ?c5 ?_)
      try case c1 =>
        intro j u hj
        match j, hj with
        | 0, hj => simp at hj; subst hj; simp [Addr.add]
      case c2 => first | rfl | (intro u hu; simp at hu; subst hu; rfl)
      case c3 => unfold maxLen; omega
      case c4 => omega
      case c5 => have := HG.out.1.size; simp; omega
      intro v' w5 hown' hgrow hne hat
      have R : Hid (w5.ownsRow base 5 1 v' (n + (putL x).length) (Lib.byteCells (l ++ putL x)) ∧ Grew w w5 v v' ∧ v' ≠ .slice none 0 0) := by
        refine ⟨?_, HG.out.trans (((Grew.refl wr u0).alloc _).of hgrow (by simpa using hat)), ?_⟩
        · rw [← Hq.out, putL_small y hlt, Lib.byteCells_append, byte_cell1 y (by omega)]
          have e : n + (putL x).length = q.length + 1 := by
            have := congrArg List.length Hq.out
            rw [List.length_append, List.length_append, putL_small y hlt] at this
            simp at this; omega
          rw [e]; exact hown'
        · first | exact hne | (intro e; have := (hne.1 e).2; omega)
      clear hown' hgrow hat hne
      go_wp2
      go_ret
      exact ⟨_, rfl, R.out.1, R.out.2.1, R.out.2.2⟩
    · have hlz : (127 : Int) < (y : Int) := by omega
      obtain ⟨z, hz, hbz⟩ : ∃ z : Nat, z = 128 + y % 128 ∧ bits .or .u64 (bits .and .u64 (y : Int) 127) 128 = (z : Int) := by
        refine ⟨_, rfl, ?_⟩
        have h1 : bits .and .u64 (y : Int) 127 = ((y % 128 : Nat) : Int) := by
          have := u64_and_nat y 127 (by omega) (by omega)
          rw [nat_mask7] at this
          exact this
        have h2 : bits .or .u64 ((y % 128 : Nat) : Int) 128 = ((128 + y % 128 : Nat) : Int) := by
          have h3 := u64_or_nat (y % 128) 128 (by omega) (by omega)
          rw [Nat.or_comm, nat_join 7 128 (y % 128) (by decide) (by omega)] at h3
          exact h3
        rw [h1, h2]
      have hz256 : z < 256 := by omega
      have Hz := hidd hz
      clear hz
      go_wp2_with (at_builtin; refine wpList_append_own_at _ rfl _ _ 28 rfl base 5 i0 (.int .u8 0) 1 1 Try.underlying28 hi hz0 hz1 hz2 rfl (by decide) _ _ _ rfl (HO2.out.alloc _) ⟨wr.heap.size, 0, none⟩ 1 1 [.int .u8 (z : Int)] rfl rfl ?d1 ?d2 ?d3 ?d4 ?d5 ?_)
      try case d1 =>
        intro j u hj
        match j, hj with
        | 0, hj => simp at hj; subst hj; simp [Addr.add]
      case d2 => first | rfl | (intro u hu; simp at hu; subst hu; rfl)
      case d3 => unfold maxLen; omega
      case d4 => omega
      case d5 => have := HG.out.1.size; simp; omega
      intro v' w5 hown' hgrow hne hat
      have R : Hid (w5.ownsRow base 5 1 v' (q ++ [UInt8.ofNat (128 + y % 128)]).length (Lib.byteCells (q ++ [UInt8.ofNat (128 + y % 128)])) ∧ Grew w w5 v v' ∧ (q ++ [UInt8.ofNat (128 + y % 128)]) ++ putL (y / 128) = l ++ putL x) := by
        refine ⟨?_, HG.out.trans (((Grew.refl wr u0).alloc _).of hgrow (by simpa using hat)), ?_⟩
        · rw [Lib.byteCells_append, byte_cell1 _ (by omega), List.length_append, ← Hz.out]
          exact hown'
        · rw [← Hq.out, putL_big y hlt]; simp
      clear hown' hgrow hat hne HG HO2 Hq
      go_wp2
      go_roundw
      case rel => exact ⟨y / 128, _, by omega, by go_num, R.out.2.2, R.out.1, R.out.2.1⟩
      case measure => simp [intOf]; omega
end Go.Proofs.Ytefhmbnhhkgifaa
