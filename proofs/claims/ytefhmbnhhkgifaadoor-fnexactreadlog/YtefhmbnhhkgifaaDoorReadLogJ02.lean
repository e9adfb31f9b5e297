import Derived.Test.YtefhmbnhhkgifaaDoorProg
import Derived.Test.YtefhmbnhhkgifaaDoorReadLogJ00
import Derived.Maps.AppendAt
import Derived.Lib.BufferWrite
import Derived.WalkLawsBesides
import Derived.Laws.BitsAllLaws
import Derived.BigQuiet
import Derived.Deep.QuietTactic
import Derived.Test.YtefhmbnhhkgifaaDoorReadLogJ01
import Derived.Laws.ShiftsVar
namespace Go.Proofs.YtefhmbnhhkgifaaDoor
open Go Go.RowKit
set_option linter.unusedVariables false
theorem Tryd.infoByte : (Tryd.prog.info? 5).map (fun i => (i.zero, i.size, i.bytes)) = some (some (.int .u8 0), 1, 1) := by kernel_rfl

/-- A row of one's own that has grown: what lay elsewhere lies as it lay; the row lies in the old block or in a new one. -/
def Grew (w w' : World) (v v' : Value) : Prop := w.grownBy w' v.ownBlock ∧ (v'.ownBlock = v.ownBlock ∨ ∃ k, v'.ownBlock = some k ∧ w.heap.size ≤ k)
theorem Grew.refl (w : World) (v : Value) : Grew w w v v := ⟨grown_refl _ _, Or.inl rfl⟩
theorem Grew.trans {a b c : World} {u v x : Value} (h : Grew a b u v) (k : Grew b c v x) : Grew a c u x := by
  obtain ⟨h1, h2⟩ := h
  obtain ⟨k1, k2⟩ := k
  refine ⟨⟨k1.os.trans h1.os, k1.tape.trans h1.tape, k1.output.trans h1.output, Nat.le_trans h1.size k1.size, fun i hi hne => ?_⟩, ?_⟩
  · refine (k1.block i (Nat.lt_of_lt_of_le hi h1.size) ?_).trans (h1.block i hi hne)
    rcases h2 with e | ⟨k, e, hk⟩
    · rw [e]; exact hne
    · rw [e]; intro e2; cases e2; omega
  · rcases k2 with e | ⟨k, e, hk⟩
    · rw [e]
      rcases h2 with e2 | ⟨k', e2, hk'⟩
      · exact Or.inl e2
      · exact Or.inr ⟨k', e2, hk'⟩
    · exact Or.inr ⟨k, e, Nat.le_trans h1.size hk⟩
theorem Grew.alloc {a b : World} {u v : Value} (h : Grew a b u v) (o : Obj) : Grew a (b.alloc o) u v :=
  ⟨⟨h.1.os, h.1.tape, h.1.output, by have := h.1.size; simp; omega, fun i hi hne => by rw [Below.heap_alloc _ _ _ (Nat.lt_of_lt_of_le hi h.1.size)]; exact h.1.block i hi hne⟩, h.2⟩
theorem Grew.below {a b : World} {u v : Value} {base e n : Nat} {xs : List Value} (h : Grew a b u v) (hb : base ≤ a.heap.size) (ho : a.ownsRow base e 1 u n xs) : Below base a b :=
  (Below.refl _ _).grown h.1 hb (own_block ho)
theorem Grew.of {w w1 w' : World} {v v' : Value} (h1 : Grew w w1 v v) (hg : w1.grownBy w' v.ownBlock) (ha : v'.ownBlock = v.ownBlock ∨ v'.ownBlock = some w1.heap.size) : Grew w w' v v' := by
  refine h1.trans ⟨hg, ?_⟩
  rcases ha with e | e
  · exact Or.inl e
  · exact Or.inr ⟨_, e, Nat.le_refl _⟩
theorem byte_cell1 (x : Nat) (h : x < 256) : Lib.byteCells [UInt8.ofNat x] = [Value.int .u8 (x : Int)] := by
  simp [Lib.byteCells]; omega
theorem byteCells_at (l : List UInt8) (j : Nat) (h : j < l.length) : (Lib.byteCells l)[j]? = some (.int .u8 ((l.getD j 0).toNat : Int)) := by
  simp [Lib.byteCells, h]

/-- A slice of bytes as it lies in a world. -/
def BytesAt (w : World) (b off : Nat) (bs : List UInt8) : Prop := ∀ t, t < bs.length → w.cell? ⟨b, off + t, none⟩ = some (.int .u8 ((bs.getD t 0).toNat : Int))
theorem BytesAt.below {w w' : World} {b off : Nat} {bs : List UInt8} (h : BytesAt w b off bs) (hb : Below w.heap.size w w') : BytesAt w' b off bs :=
  fun t ht => (hb.cell (p := ⟨b, off + t, none⟩) (cell_lt (h t ht))).trans (h t ht)
theorem own_bytes {w : World} {base e g n cap : Nat} {l : List UInt8} (h : w.ownsRow base e 1 (.slice (some ⟨g, 0, none⟩) n cap) n (Lib.byteCells l)) (hl : l.length = n) : BytesAt w g 0 l := by
  intro t ht
  rw [Nat.zero_add, h.cellAt t (by omega)]
  exact byteCells_at l t ht

end Go.Proofs.YtefhmbnhhkgifaaDoor

namespace Go.Proofs.YtefhmbnhhkgifaaDoor
open Go Go.RowKit
set_option linter.unusedVariables false

set_option maxHeartbeats 400000 in
theorem within_any (r lo hi : Int) (w : World) : Calls Tryd.prog 53 #[.int .i64 r, .int .i64 lo, .int .i64 hi] w fun e w' => e = .returned (.bool (decide (lo ≤ r) && decide (r ≤ hi))) ∧ w' = w := by
  by_cases h : lo ≤ r
  · have HB : Hid (decide (lo ≤ r) = true) := decide_eq_true h
    go_enter Tryd.func53, Tryd.ntmps53
    go_wp2
    go_ret
    rw [HB.out, Bool.true_and]
    exact ⟨rfl, rfl⟩
  · have HB : Hid (decide (lo ≤ r) = false) := decide_eq_false h
    go_enter Tryd.func53, Tryd.ntmps53
    go_wp2
    go_ret
    rw [HB.out, Bool.false_and]
    exact ⟨rfl, rfl⟩

end Go.Proofs.YtefhmbnhhkgifaaDoor

namespace Go.Proofs.YtefhmbnhhkgifaaDoor
open Go Go.RowKit
set_option linter.unusedVariables false

def getV (bs : List UInt8) : Int := match getL bs with | none => 0 | some (v, _) => (v : Int)
def getS (bs : List UInt8) : Int := match getL bs with | none => 0 | some (_, s) => (s : Int)
theorem getVS_none {bs : List UInt8} (h : getL bs = none) : getV bs = 0 ∧ getS bs = 0 := by simp [getV, getS, h]
theorem getVS_some {bs : List UInt8} {v s : Nat} (h : getL bs = some (v, s)) : getV bs = v ∧ getS bs = s := by simp [getV, getS, h]

theorem pow128_2 (k : Nat) : 128 ^ k = 2 ^ (7 * k) := by rw [Nat.pow_mul]
theorem lead_step (y k : Nat) (c : UInt8) (hy : y < 128 ^ k) (hk : k ≤ 8) : ∃ m s y2 : Nat, bits .and .u8 (c.toNat : Int) 127 = (m : Int) ∧ IntKind.u64.wrap (m : Int) = (m : Int) ∧ IntKind.u64.wrap ((m : Int) * 2 ^ (7 * k)) = (s : Int) ∧ bits .or .u64 (y : Int) (s : Int) = (y2 : Int) ∧
    m = c.toNat % 128 ∧ y2 = y + c.toNat % 128 * 128 ^ k ∧ y2 < 128 ^ (k + 1) ∧ y2 < 9223372036854775808 := by
  have hc : c.toNat < 256 := c.toNat_lt
  have hP : 128 ^ k ≤ 128 ^ 8 := Nat.pow_le_pow_right (by omega) hk
  have hP8 : (128 : Nat) ^ 8 = 72057594037927936 := by decide
  have hm : c.toNat % 128 < 128 := Nat.mod_lt _ (by omega)
  have hs : c.toNat % 128 * 128 ^ k ≤ 127 * 128 ^ k := Nat.mul_le_mul_right _ (by omega)
  have e2 : ((c.toNat % 128 : Nat) : Int) * 2 ^ (7 * k) = ((c.toNat % 128 * 128 ^ k : Nat) : Int) := by
    rw [pow128_2, Int.natCast_mul, Int.natCast_pow]; rfl
  refine ⟨c.toNat % 128, c.toNat % 128 * 128 ^ k, y + c.toNat % 128 * 128 ^ k, ?_, ?_, ?_, ?_, rfl, rfl, ?_, ?_⟩
  · have := u8_and_nat c.toNat 127 hc (by omega)
    rw [nat_mask7] at this; exact this
  · exact IntWalk.u64_in _ ⟨by omega, by omega⟩
  · rw [e2]; exact IntWalk.u64_in _ ⟨by omega, by omega⟩
  · rw [u64_or_nat y _ (by omega) (by omega), Nat.or_comm, nat_join (7 * k) _ y (by rw [pow128_2]; exact Nat.mul_mod_left _ _) (by rw [← pow128_2]; exact hy), Nat.add_comm]
  · rw [Nat.pow_succ]; omega
  · omega

set_option maxHeartbeats 1000000 in
set_option maxRecDepth 100000 in
theorem leadingInt_some (b off cap : Nat) (bs : List UInt8) (w : World) (hl : bs.length ≤ 1048576) (hc : BytesAt w b off bs) :
    Calls Tryd.prog 40 #[.slice (some ⟨b, off, none⟩) bs.length cap] w fun e w' => e = .returned (.tuple #[.int .i64 (getV bs), .int .i64 (getS bs)]) ∧ w' = w := by
  have Hc := hidd hc
  clear hc
  go_enter Tryd.func40, Tryd.ntmps40
  go_wp2
  go_loop [4, 10] (fun sv i => ∃ k y : Nat, k ≤ bs.length ∧ k ≤ 9 ∧ i = .int .i64 k ∧ sv = .int .u64 (y : Int) ∧ y < 128 ^ k ∧ (k = 9 → getL bs = none) ∧ (k < 9 → getL bs = getGo (bs.drop k) k y)) (fun _ i => bs.length - (intOf i).toNat)
  case atStart => exact ⟨0, 0, Nat.zero_le _, by omega, rfl, rfl, by omega, by omega, fun _ => rfl⟩
  case round =>
    obtain ⟨k, y, hk, hk9, rfl, rfl, hy, h9, hget⟩ := hrel
    by_cases hlt : k < bs.length
    · have g1 := Hc.out k hlt
      have hc256 : (bs.getD k 0).toNat < 256 := UInt8.toNat_lt _
      have Hd : Hid (bs.drop k = bs.getD k 0 :: bs.drop (k + 1)) := by show _ = _; rw [List.drop_eq_getElem_cons hlt]; simp [hlt]
      generalize hcc : bs.getD k 0 = cb at *
      clear hcc
      by_cases hk8 : k = 9
      · have HN := hidd (h9 hk8)
        subst hk8
        clear h9 hget
        go_wp2
        go_ret2
        obtain ⟨e1, e2⟩ := getVS_none HN.out
        rw [e1, e2]; exact ⟨rfl, rfl⟩
      · have HG := hidd (hget (by omega))
        clear h9 hget
        have hsh : ¬ (62 : Int) ≤ 7 * (k : Int) := by omega
        obtain ⟨m, sh, y2, hm1, hm2, hm3, hm4, hm, hy2, hy3, hy4⟩ := lead_step y k cb hy (by omega)
        have Hm := hidd hm
        have Hy2 := hidd hy2
        have Hy3 := hidd hy3
        have Hsome : Hid (¬ 128 ≤ cb.toNat → ¬ 4611686018427387903 < y2 → (k = 0 ∨ 0 < cb.toNat) → getL bs = some (y2, k + 1)) := by
          intro h1 h2 h3
          rw [HG.out, Hd.out, getGo, if_neg, if_pos (by omega), if_pos h3, hy2]
          rintro (h | ⟨rfl, h⟩)
          · omega
          · have : 64 * 128 ^ 8 ≤ cb.toNat % 128 * 128 ^ 8 := Nat.mul_le_mul_right _ (by omega)
            omega
        have Hnone : Hid (¬ 128 ≤ cb.toNat → (4611686018427387903 < y2 ∨ (cb.toNat = 0 ∧ 0 < k)) → getL bs = none) := by
          intro h1 h2
          rw [HG.out, Hd.out, getGo]
          rcases h2 with h2 | ⟨h2, h3⟩
          · rw [if_pos]
            refine Or.inr ?_
            by_cases h8 : k = 8
            · subst h8; exact ⟨rfl, by omega⟩
            · have hP : 128 ^ (k + 1) ≤ 128 ^ 8 := Nat.pow_le_pow_right (by omega) (by omega)
              omega
          · by_cases h8 : 9 ≤ k ∨ k = 8 ∧ 63 < cb.toNat
            · rw [if_pos h8]
            · rw [if_neg h8, if_pos (by omega), if_neg (by omega)]
        have Hnext : Hid (128 ≤ cb.toNat → (k + 1 = 9 → getL bs = none) ∧ (k + 1 < 9 → getL bs = getGo (bs.drop (k + 1)) (k + 1) y2)) := by
          intro h1
          constructor
          · intro h8; rw [HG.out, Hd.out, getGo, if_pos (Or.inr ⟨by omega, by omega⟩)]
          · intro h8; rw [HG.out, Hd.out, getGo, if_neg (by omega), if_neg (by omega), hy2]
        clear hm hy2 hy3 Hd HG hy
        by_cases hbig : 128 ≤ cb.toNat
        · have hbz : (127 : Int) < (cb.toNat : Int) := by omega
          go_wp2
          go_round
          case rel => exact ⟨k + 1, y2, by omega, by omega, by go_num, rfl, Hy3.out, (Hnext.out hbig).1, (Hnext.out hbig).2⟩
          case measure => simp [intOf]; omega
        · have hbz : ¬ (127 : Int) < (cb.toNat : Int) := by omega
          by_cases hmax : 4611686018427387903 < y2
          · have hmz : (4611686018427387903 : Int) < (y2 : Int) := by omega
            have HE := hidd (getVS_none (Hnone.out hbig (Or.inl hmax)))
            skip
            go_wp2
            go_ret2
            rw [HE.out.1, HE.out.2]
            exact ⟨rfl, rfl⟩
          · have hmz : ¬ (4611686018427387903 : Int) < (y2 : Int) := by omega
            by_cases hc0 : cb.toNat = 0
            · have hcz : (cb.toNat : Int) = 0 := by omega
              have hm0 : bits .and .u8 0 127 = (m : Int) := by rw [← hcz]; exact hm1
              clear hm1
              by_cases hk0 : k = 0
              · have hkz : ¬ (0 : Int) < (k : Int) := by omega
                have HE := hidd (getVS_some (Hsome.out hbig hmax (Or.inl hk0)))
                clear hk0
                clear hc0
                go_wp2
                go_ret2
                rw [HE.out.1, HE.out.2]
                exact ⟨by simp, rfl⟩
              · have hkz : (0 : Int) < (k : Int) := by omega
                have HE := hidd (getVS_none (Hnone.out hbig (Or.inr ⟨hc0, by omega⟩)))
                clear hc0
                go_wp2
                go_ret2
                rw [HE.out.1, HE.out.2]
                exact ⟨rfl, rfl⟩
            · have hcz : ¬ (cb.toNat : Int) = 0 := by omega
              have HE := hidd (getVS_some (Hsome.out hbig hmax (Or.inr (by omega))))
              clear hc0
              go_wp2
              go_ret2
              rw [HE.out.1, HE.out.2]
              exact ⟨by simp, rfl⟩
    · have HN : Hid (getL bs = none) := by
        show _ = _
        by_cases hk8 : k = 9
        · exact h9 hk8
        · rw [hget (by omega), List.drop_of_length_le (by omega)]; rfl
      have HE := hidd (getVS_none HN.out)
      clear h9 hget
      go_wp2
      go_ret2
      rw [HE.out.1, HE.out.2]
      exact ⟨rfl, rfl⟩
set_option maxHeartbeats 400000 in
set_option maxRecDepth 100000 in
theorem leadingInt_none (ao : Option Addr) (cap : Nat) (w : World) :
    Calls Tryd.prog 40 #[.slice ao 0 cap] w fun e w' => e = .returned (.tuple #[.int .i64 (getV []), .int .i64 (getS [])]) ∧ w' = w := by
  obtain ⟨e1, e2⟩ := getVS_none (bs := []) rfl
  rw [e1, e2]
  go_enter Tryd.func40, Tryd.ntmps40
  go_wp2
  refine wp_loop_rounds 1 ?_
  rw [rounds_succ]
  go_wp2
  go_ret2
  exact ⟨rfl, rfl⟩
end Go.Proofs.YtefhmbnhhkgifaaDoor
