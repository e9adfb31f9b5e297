import Derived.Test.YtbkedgpligcicaaBuildDictJ10
import Derived.Test.YtbkedgpligcicaaBuildDictJ13
import Derived.Lib.BitFns
import Derived.Lib.ItoaNum
import Derived.Test.YtbkedgpligcicaaBuildDictJ03
namespace Go.Proofs.Ytbkedgpligcicaa
open Go Go.RowKit
set_option linter.unusedVariables false
set_option maxRecDepth 100000

/-- The terms of a dictionary, if it is one. -/
noncomputable def dictT (c : Int) (S : List St) : Option (List Tx) := @dite _ (∃ ts, IsDict (c, S) ts) (Classical.propDecidable _) (fun h => some (Classical.choose h)) (fun _ => none)
theorem dictT_some {c : Int} {S : List St} {ts : List Tx} (h : IsDict (c, S) ts) : dictT c S = some ts := by
  have he : ∃ ts, IsDict (c, S) ts := ⟨ts, h⟩
  unfold dictT
  rw [dif_pos he, (Classical.choose_spec he).uniq h]
theorem dictT_none {c : Int} {S : List St} (h : ¬ ∃ ts, IsDict (c, S) ts) : dictT c S = none := by
  unfold dictT
  rw [dif_neg h]
theorem okD_cases (c : Int) (S : List St) : (okD c S = true ∧ ∃ ts, IsDict (c, S) ts) ∨ (okD c S = false ∧ ¬ ∃ ts, IsDict (c, S) ts) := by
  rcases Classical.em (∃ ts, IsDict (c, S) ts) with h | h
  · exact Or.inl ⟨okD_true h, h⟩
  · exact Or.inr ⟨okD_false h, h⟩
/-- What DictFind tells. -/
def findO (d : Option (List Tx)) (t : Tx) : Int × Int := if 65536 < t.length then (0, 2) else match d with
  | none => (0, 1)
  | some ts => if t ∈ ts then (((ts.idxOf t : Nat) : Int), 0) else (0, 8)
def FindC (fn : Nat) : Prop := ∀ (c : Int) (a : Option Addr) (cap : Nat) (S : List St) (t : Tx) (w : World), S.length ≤ 1048576 → (∀ i, (arcsAt S i).length ≤ 1048576) → HoldS w a S →
  Calls Try.prog fn #[.agg #[.int .i64 c, .slice a S.length cap], .string ⟨t.toArray⟩] w fun e w' => e = .returned (.tuple #[.int .i64 (findO (dictT c S) t).1, .int .i64 (findO (dictT c S) t).2]) ∧ Below w.heap.size w w'
theorem findO_long {d : Option (List Tx)} {t : Tx} (h : 65536 < t.length) : findO d t = (0, 2) := by unfold findO; rw [if_pos h]
theorem findO_none {t : Tx} (h : ¬ 65536 < t.length) : findO none t = (0, 1) := by rw [findO, if_neg h]
theorem findO_in {t : Tx} {ts : List Tx} (h : ¬ 65536 < t.length) (hm : t ∈ ts) : findO (some ts) t = (((ts.idxOf t : Nat) : Int), 0) := by rw [findO, if_neg h]; simp [hm]
theorem findO_out {t : Tx} {ts : List Tx} (h : ¬ 65536 < t.length) (hm : t ∉ ts) : findO (some ts) t = (0, 8) := by rw [findO, if_neg h]; simp [hm]
theorem lst_str (x y : Tx) : ((⟨x.toArray⟩ : ByteArray).toList == (⟨y.toArray⟩ : ByteArray).toList) = decide (x = y) := by
  rw [Lib.toList_data, Lib.toList_data]
  by_cases h : x = y <;> simp [h]

end Go.Proofs.Ytbkedgpligcicaa

namespace Go.Proofs.Ytbkedgpligcicaa
open Go
set_option linter.unusedVariables false

/-! Numbers in bytes of seven bits. -/
def putL (v : Nat) : List UInt8 := if v < 128 then [UInt8.ofNat v] else UInt8.ofNat (128 + v % 128) :: putL (v / 128)
termination_by v
decreasing_by omega
theorem putL_small (v : Nat) (h : v < 128) : putL v = [UInt8.ofNat v] := by rw [putL, if_pos h]
theorem putL_big (v : Nat) (h : ¬ v < 128) : putL v = UInt8.ofNat (128 + v % 128) :: putL (v / 128) := by rw [putL, if_neg h]
theorem putL_pos (v : Nat) : 1 ≤ (putL v).length := by
  by_cases h : v < 128
  · rw [putL_small v h]; simp
  · rw [putL_big v h]; simp
theorem putL_length (k : Nat) : ∀ v, v < 128 ^ (k + 1) → (putL v).length ≤ k + 1 := by
  induction k with
  | zero => intro v h; rw [putL_small v (by simpa using h)]; simp
  | succ k ih =>
    intro v h
    by_cases hv : v < 128
    · rw [putL_small v hv]; simp
    · rw [putL_big v hv]
      have : v / 128 < 128 ^ (k + 1) := Nat.div_lt_of_lt_mul (by rw [Nat.pow_succ] at h; omega)
      have := ih _ this
      simp; omega
theorem putL_length9 (v : Nat) (h : v < 4611686018427387904) : (putL v).length ≤ 9 := putL_length 8 v (Nat.lt_trans h (by decide))

def getGo : List UInt8 → Nat → Nat → Option (Nat × Nat)
  | [], _, _ => none
  | c :: t, n, v =>
    if 9 ≤ n ∨ (n = 8 ∧ 63 < c.toNat) then none
    else if c.toNat < 128 then (if n = 0 ∨ 0 < c.toNat then some (v + c.toNat % 128 * 128 ^ n, n + 1) else none)
    else getGo t (n + 1) (v + c.toNat % 128 * 128 ^ n)
def getL (bs : List UInt8) : Option (Nat × Nat) := getGo bs 0 0

theorem pow128 (n : Nat) (h : 9 ≤ n) : 9223372036854775808 ≤ 128 ^ n := by
  have : 128 ^ 9 ≤ 128 ^ n := Nat.pow_le_pow_right (by omega) h
  simpa using this
theorem pow128_8 (n : Nat) (h : 8 ≤ n) : 72057594037927936 ≤ 128 ^ n := by
  have : 128 ^ 8 ≤ 128 ^ n := Nat.pow_le_pow_right (by omega) h
  simpa using this

theorem ofNat_toNatP (v : Nat) (h : v < 256) : (UInt8.ofNat v).toNat = v := by simp; omega

theorem getGo_put (x : Nat) : ∀ (rest : List UInt8) (n v : Nat), x * 128 ^ n < 4611686018427387904 → (n = 0 ∨ 0 < x) → getGo (putL x ++ rest) n v = some (v + x * 128 ^ n, n + (putL x).length) := by
  induction x using Nat.strongRecOn with
  | _ x ih =>
    intro rest n v hx hn
    by_cases h : x < 128
    · rw [putL_small x h]
      simp only [List.cons_append, List.nil_append, getGo]
      rw [ofNat_toNatP x (by omega)]
      have h1 : ¬ (9 ≤ n ∨ (n = 8 ∧ 63 < x)) := by
        rintro (h9 | ⟨rfl, h8⟩)
        · have := pow128 n h9
          rcases hn with rfl | hp
          · omega
          · have : 1 * 128 ^ n ≤ x * 128 ^ n := Nat.mul_le_mul_right _ hp
            omega
        · omega
      rw [if_neg h1, if_pos h, if_pos hn, Nat.mod_eq_of_lt h]
      simp
    · rw [putL_big x h]
      simp only [List.cons_append, getGo]
      rw [ofNat_toNatP _ (by omega)]
      have h1 : ¬ (9 ≤ n ∨ (n = 8 ∧ 63 < 128 + x % 128)) := by
        intro hh
        have h8 : 8 ≤ n := by omega
        have := pow128_8 n h8
        have : 128 * 128 ^ n ≤ x * 128 ^ n := Nat.mul_le_mul_right _ (by omega)
        omega
      have e := Nat.div_add_mod x 128
      have key : x / 128 * 128 ^ (n + 1) + x % 128 * 128 ^ n = x * 128 ^ n := by rw [Nat.pow_succ]; grind
      rw [if_neg h1, if_neg (by omega), ih (x / 128) (by omega) rest (n + 1) _ (by omega) (by omega)]
      have e2 : (128 + x % 128) % 128 = x % 128 := by omega
      rw [e2]
      simp only [List.length_cons, Option.some.injEq, Prod.mk.injEq]
      omega

theorem getGo_inv (bs : List UInt8) : ∀ (n v v' n' : Nat), getGo bs n v = some (v', n') →
    ∃ x, bs.take (n' - n) = putL x ∧ v' = v + x * 128 ^ n ∧ (n = 0 ∨ 0 < x) ∧ x * 128 ^ n < 4611686018427387904 ∧ n' = n + (putL x).length := by
  induction bs with
  | nil => intro n v v' n' h; simp [getGo] at h
  | cons c t ih =>
    intro n v v' n' h
    rw [getGo] at h
    have hc : c.toNat < 256 := c.toNat_lt
    split at h
    · cases h
    · rename_i h1
      split at h
      · rename_i h2
        split at h
        · rename_i h3
          simp only [Option.some.injEq, Prod.mk.injEq] at h
          obtain ⟨rfl, rfl⟩ := h
          have hp : putL c.toNat = [c] := by rw [putL_small _ h2]; simp
          refine ⟨c.toNat, ?_, by rw [Nat.mod_eq_of_lt h2], h3, ?_, by rw [hp]; rfl⟩
          · rw [hp]; simp
          · by_cases h8 : n = 8
            · subst h8; omega
            · have : 128 ^ n ≤ 128 ^ 7 := Nat.pow_le_pow_right (by omega) (by omega)
              have : c.toNat * 128 ^ n ≤ 127 * 128 ^ 7 := Nat.mul_le_mul (by omega) this
              omega
        · cases h
      · rename_i h2
        obtain ⟨x, h3, rfl, h4, h5, h6⟩ := ih _ _ _ _ h
        have h4' : 0 < x := by omega
        have hp : putL (x * 128 + c.toNat % 128) = c :: putL x := by
          rw [putL_big _ (by omega)]
          have e1 : (x * 128 + c.toNat % 128) % 128 = c.toNat % 128 := by omega
          have e2 : (x * 128 + c.toNat % 128) / 128 = x := by omega
          have e3 : 128 + c.toNat % 128 = c.toNat := by omega
          rw [e1, e2, e3]; simp
        refine ⟨x * 128 + c.toNat % 128, ?_, ?_, Or.inr (by omega), ?_, ?_⟩
        · rw [hp]
          have : n' - n = (n' - (n + 1)) + 1 := by omega
          rw [this, List.take_succ_cons, h3]
        · rw [Nat.pow_succ]; grind
        · by_cases h7 : n ≤ 7
          · have hq : x * 128 ^ n * 128 < 4611686018427387904 := by rw [Nat.pow_succ] at h5; grind
            have hq2 : x * 128 ^ n < 36028797018963968 := by omega
            have e : (x * 128 + c.toNat % 128) * 128 ^ n = x * 128 ^ n * 128 + c.toNat % 128 * 128 ^ n := by grind
            rw [e]
            -- the digits below
            have hP : 0 < 128 ^ n := Nat.pow_pos (by omega)
            have hr : c.toNat % 128 * 128 ^ n < 128 ^ (n + 1) := by
              rw [Nat.pow_succ, Nat.mul_comm (128 ^ n)]
              exact Nat.mul_lt_mul_of_pos_right (by omega) hP
            have hd : 128 ^ (n + 1) ∣ 4611686018427387904 := by
              have : (4611686018427387904 : Nat) = 128 ^ 8 * 64 := by decide
              rw [this]
              exact Nat.dvd_trans (Nat.pow_dvd_pow 128 (by omega)) (Nat.dvd_mul_right _ _)
            obtain ⟨q, hq3⟩ := hd
            have e4 : x * 128 ^ n * 128 = 128 ^ (n + 1) * x := by rw [Nat.pow_succ]; grind
            have hxq : x < q := by
              rw [hq3, e4] at hq
              exact Nat.lt_of_mul_lt_mul_left hq
            have : 128 ^ (n + 1) * (x + 1) ≤ 128 ^ (n + 1) * q := Nat.mul_le_mul_left _ hxq
            rw [e4]
            rw [Nat.mul_add, Nat.mul_one] at this
            omega
          · exfalso
            have h8 : n = 8 := by omega
            subst h8
            omega
        · rw [hp, List.length_cons]; omega

theorem getL_put (x : Nat) (rest : List UInt8) (h : x < 4611686018427387904) : getL (putL x ++ rest) = some (x, (putL x).length) := by
  have := getGo_put x rest 0 0 (by simpa using h) (Or.inl rfl)
  simpa [getL] using this
theorem getL_inv {bs : List UInt8} {v n : Nat} (h : getL bs = some (v, n)) : bs.take n = putL v ∧ v < 4611686018427387904 ∧ n = (putL v).length := by
  obtain ⟨x, h1, h2, h3, h4, h5⟩ := getGo_inv bs 0 0 v n h
  have e : v = x := by simpa using h2
  subst e
  simp at h1 h4 h5
  exact ⟨h1, h4, h5⟩
theorem getL_le {bs : List UInt8} {v n : Nat} (h : getL bs = some (v, n)) : n ≤ bs.length ∧ n ≤ 9 ∧ 1 ≤ n := by
  obtain ⟨h1, h2, h3⟩ := getL_inv h
  have := putL_length9 v h2
  have := putL_pos v
  have : (bs.take n).length = n := by rw [h1, h3]
  rw [List.length_take] at this
  omega
end Go.Proofs.Ytbkedgpligcicaa

namespace Go.Proofs.Ytbkedgpligcicaa
open Go Go.RowKit
set_option linter.unusedVariables false

set_option maxHeartbeats 1000000 in
set_option maxRecDepth 100000 in
theorem appendInt_any (base n : Nat) (v : Value) (l : List UInt8) (x : Nat) (w : World) (hx : x < 4611686018427387904) (hl : l.length = n) (hn : n ≤ 1099511627776) (hb : base ≤ w.heap.size) (h : w.ownsRow base 5 1 v n (Lib.byteCells l)) :
    Calls Try.prog 48 #[v, .int .i64 (x : Int)] w fun e w' => ∃ v', e = .returned v' ∧ w'.ownsRow base 5 1 v' (n + (putL x).length) (Lib.byteCells (l ++ putL x)) ∧ Grew w w' v v' ∧ v' ≠ .slice none 0 0 := by
  obtain ⟨i0, hi, hz0, hz1, hz2⟩ := info_parts Try.infoByte
  have HO := hidd h
  clear h
  go_enter Try.func48, Try.ntmps48
  go_wp2
  go_loopw [0, 5] (fun u r wr => ∃ (y : Nat) (q : List UInt8), y ≤ x ∧ r = .int .u64 (y : Int) ∧ q ++ putL y = l ++ putL x ∧ wr.ownsRow base 5 1 u q.length (Lib.byteCells q) ∧ Grew w wr v u) (fun _ r _ => (intOf r).toNat)
  case atStart => exact ⟨x, l, Nat.le_refl _, by go_num, rfl, by rw [hl]; exact HO.out, Grew.refl _ _⟩
  case round =>
    obtain ⟨y, q, hy, rfl, hq, hown, hg⟩ := hrel
    have HO2 := hidd hown
    have HG := hidd hg
    have Hq := hidd hq
    have hlen : q.length ≤ n + 9 := by
      have := congrArg List.length hq
      rw [List.length_append, List.length_append] at this
      have := putL_length9 x hx
      have := putL_pos y
      omega
    clear hown hg hq
    by_cases hlt : y < 128
    · have hlz : ¬ (127 : Int) < (y : Int) := by omega
      go_wp2_with (at_builtin; refine wpList_append_own_at _ rfl _ _ 22 rfl base 5 i0 (.int .u8 0) 1 1 Try.underlying22 hi hz0 hz1 hz2 rfl (by decide) _ _ _ rfl (HO2.out.alloc _) ⟨wr.heap.size, 0, none⟩ 1 1 [.int .u8 (y : Int)] rfl rfl ?c1 ?c2 ?c3 ?c4 ?c5 ?_)
      try case c1 =>
        intro j u hj
        match j, hj with
        | 0, hj => simp at hj; subst hj; simp [Addr.add]
      case c2 => first | rfl | (intro u hu; simp at hu; subst hu; rfl)
      case c3 => unfold maxLen; omega
      case c4 => omega
      case c5 => have := HG.out.1.size; simp; omega
      intro v' w5 hown' hgrow hne hat
      have R : Hid (w5.ownsRow base 5 1 v' (n + (putL x).length) (Lib.byteCells (l ++ putL x)) ∧ Grew w w5 v v' ∧ v' ≠ .slice none 0 0) := by
        refine ⟨?_, HG.out.trans (((Grew.refl wr u0).alloc _).of hgrow (by simpa using hat)), ?_⟩
        · rw [← Hq.out, putL_small y hlt, Lib.byteCells_append, byte_cell1 y (by omega)]
          have e : n + (putL x).length = q.length + 1 := by
            have := congrArg List.length Hq.out
            rw [List.length_append, List.length_append, putL_small y hlt] at this
            simp at this; omega
          rw [e]; exact hown'
        · first | exact hne | (intro e; have := (hne.1 e).2; omega)
      clear hown' hgrow hat hne
      go_wp2
      go_ret
      exact ⟨_, rfl, R.out.1, R.out.2.1, R.out.2.2⟩
    · have hlz : (127 : Int) < (y : Int) := by omega
      obtain ⟨z, hz, hbz⟩ : ∃ z : Nat, z = 128 + y % 128 ∧ bits .or .u64 (bits .and .u64 (y : Int) 127) 128 = (z : Int) := by
        refine ⟨_, rfl, ?_⟩
        have h1 : bits .and .u64 (y : Int) 127 = ((y % 128 : Nat) : Int) := by
          have := u64_and_nat y 127 (by omega) (by omega)
          rw [nat_mask7] at this
          exact this
        have h2 : bits .or .u64 ((y % 128 : Nat) : Int) 128 = ((128 + y % 128 : Nat) : Int) := by
          have h3 := u64_or_nat (y % 128) 128 (by omega) (by omega)
          rw [Nat.or_comm, nat_join 7 128 (y % 128) (by decide) (by omega)] at h3
          exact h3
        rw [h1, h2]
      have hz256 : z < 256 := by omega
      have Hz := hidd hz
      clear hz
      go_wp2_with (at_builtin; refine wpList_append_own_at _ rfl _ _ 22 rfl base 5 i0 (.int .u8 0) 1 1 Try.underlying22 hi hz0 hz1 hz2 rfl (by decide) _ _ _ rfl (HO2.out.alloc _) ⟨wr.heap.size, 0, none⟩ 1 1 [.int .u8 (z : Int)] rfl rfl ?d1 ?d2 ?d3 ?d4 ?d5 ?_)
      try case d1 =>
        intro j u hj
        match j, hj with
        | 0, hj => simp at hj; subst hj; simp [Addr.add]
      case d2 => first | rfl | (intro u hu; simp at hu; subst hu; rfl)
      case d3 => unfold maxLen; omega
      case d4 => omega
      case d5 => have := HG.out.1.size; simp; omega
      intro v' w5 hown' hgrow hne hat
      have R : Hid (w5.ownsRow base 5 1 v' (q ++ [UInt8.ofNat (128 + y % 128)]).length (Lib.byteCells (q ++ [UInt8.ofNat (128 + y % 128)])) ∧ Grew w w5 v v' ∧ (q ++ [UInt8.ofNat (128 + y % 128)]) ++ putL (y / 128) = l ++ putL x) := by
        refine ⟨?_, HG.out.trans (((Grew.refl wr u0).alloc _).of hgrow (by simpa using hat)), ?_⟩
        · rw [Lib.byteCells_append, byte_cell1 _ (by omega), List.length_append, ← Hz.out]
          exact hown'
        · rw [← Hq.out, putL_big y hlt]; simp
      clear hown' hgrow hat hne HG HO2 Hq
      go_wp2
      go_roundw
      case rel => exact ⟨y / 128, _, by omega, by go_num, R.out.2.2, R.out.1, R.out.2.1⟩
      case measure => simp [intOf]; omega
end Go.Proofs.Ytbkedgpligcicaa

namespace Go.Proofs.Ytbkedgpligcicaa
open Go Go.RowKit
set_option linter.unusedVariables false

def putOK (z : Int) : Bool := decide (0 ≤ z ∧ z ≤ 4611686018427387903)
def putB (z : Int) : List UInt8 := if putOK z then putL z.toNat else []
def putC (z : Int) : Int := if putOK z then 0 else 12
theorem putB_length (z : Int) : (putB z).length ≤ 9 := by
  unfold putB
  split
  · rename_i h; simp [putOK] at h; exact putL_length9 _ (by omega)
  · simp

set_option maxHeartbeats 1000000 in
set_option maxRecDepth 100000 in
theorem specPut_any (x : Nat) : ∀ (w : World), x < 4611686018427387904 →
    Calls Try.prog 92 #[.int .i64 (x : Int)] w fun e w' => ∃ g cap, e = .returned (.slice (some ⟨g, 0, none⟩) (putL x).length cap) ∧ w'.ownsRow w.heap.size 5 1 (.slice (some ⟨g, 0, none⟩) (putL x).length cap) (putL x).length (Lib.byteCells (putL x)) ∧ Below w.heap.size w w' := by
  obtain ⟨i0, hi, hz0, hz1, hz2⟩ := info_parts Try.infoByte
  induction x using Nat.strongRecOn with
  | _ x ih =>
    intro w hx
    by_cases hlt : x < 128
    · have hlz : (x : Int) < 128 := by omega
      have Hp := hidd (putL_small x hlt)
      clear ih
      go_enter Try.func92, Try.ntmps92
      go_wp2
      go_ret
      refine ⟨w.heap.size, 1, ?_, ?_, (Below.refl _ _).alloc (Nat.le_refl _) _⟩
      · rw [Hp.out]; rfl
      · rw [Hp.out, byte_cell1 x (by omega)]
        have := World.ownsRow_lit (base := w.heap.size) (e := 5) (size := 1) w #[.int .u8 (x : Int)] 1 (Nat.le_refl _) (by unfold maxLen; omega) (by simp)
        simpa using this
    · have hlz : ¬ (x : Int) < 128 := by omega
      have IH := hidd (ih (x / 128) (by omega))
      clear ih
      have Hp := hidd (putL_big x hlt)
      go_enter Try.func92, Try.ntmps92
      go_wp2_with fail
      refine (IH.out _ (by omega)).mono ?_
      rintro e w1 ⟨g, cap, rfl, ho, hbl⟩
      have hL : (w.alloc (.cells #[Value.int .u8 (128 + (x : Int) % 128)] 5)).ownsRow w.heap.size 5 1 (.slice (some ⟨w.heap.size, 0, none⟩) 1 1) 1 [.int .u8 (128 + (x : Int) % 128)] := by
        have := World.ownsRow_lit (base := w.heap.size) (e := 5) (size := 1) w #[.int .u8 (128 + (x : Int) % 128)] 1 (Nat.le_refl _) (by unfold maxLen; omega) (by simp)
        simpa using this
      have HL := hidd (own_below hL hbl)
      have HO := hidd ho
      have HB : Hid (Below w.heap.size w w1) := ((Below.refl _ _).alloc (Nat.le_refl _) _).trans (hbl.mono (by simp))
      have Hc : Hid (∀ j u, (Lib.byteCells (putL (x / 128)))[j]? = some u → w1.cell? ((⟨g, 0, none⟩ : Addr).add j) = some u) := by
        intro j u hj
        rw [add_head, ho.cellAt j (by have := (List.getElem?_eq_some_iff.1 hj).1; rw [Lib.byteCells_length] at this; omega)]
        exact hj
      have hp9 := putL_length9 (x / 128) (by omega)
      have hsz := HB.out.size
      clear hL ho hbl
      go_wp2_with (at_builtin; refine wpList_append_own_at _ rfl _ _ 22 rfl w.heap.size 5 i0 (.int .u8 0) 1 1 Try.underlying22 hi hz0 hz1 hz2 rfl (by decide) _ _ _ rfl HL.out ⟨g, 0, none⟩ (putL (x / 128)).length cap (Lib.byteCells (putL (x / 128))) rfl (by rw [Lib.byteCells_length, Nat.mul_one]) Hc.out (Lib.byteCells_one _) ?c3 ?c4 ?c5 ?_)
      case c3 => unfold maxLen; omega
      case c4 => omega
      case c5 => exact hsz
      intro v' w5 hown' hgrow hne hat
      have R : Hid (w5.ownsRow w.heap.size 5 1 v' (putL x).length (Lib.byteCells (putL x)) ∧ Below w.heap.size w w5) := by
        refine ⟨?_, HB.out.grown hgrow hsz (own_block HL.out)⟩
        have e1 : (putL x).length = 1 + (putL (x / 128)).length := by rw [Hp.out, List.length_cons]; omega
        have e2 : Lib.byteCells (putL x) = [.int .u8 (128 + (x : Int) % 128)] ++ Lib.byteCells (putL (x / 128)) := by
          rw [Hp.out]
          show Lib.byteCells ([UInt8.ofNat (128 + x % 128)] ++ putL (x / 128)) = _
          rw [Lib.byteCells_append, byte_cell1 _ (by omega)]
          simp
        rw [e1, e2]; exact hown'
      clear hown' hgrow hat HL HO HB Hc
      have hpos := putL_pos x
      rcases own_cases R.out.1 with ⟨rfl, h0⟩ | ⟨g2, cap2, rfl, _, _⟩
      · omega
      · go_wp2
        go_ret
        exact ⟨g2, cap2, rfl, R.out.1, R.out.2⟩
end Go.Proofs.Ytbkedgpligcicaa

namespace Go.Proofs.Ytbkedgpligcicaa
open Go Go.RowKit
set_option linter.unusedVariables false

theorem setB_step (zs : List UInt8) (k n : Nat) (hk : k < n) (hl : zs.length = n) :
    (Lib.byteCells (zs.take k) ++ List.replicate (n - k) (Value.int .u8 0)).set k (.int .u8 ((zs.getD k 0).toNat : Int)) = Lib.byteCells (zs.take (k + 1)) ++ List.replicate (n - (k + 1)) (Value.int .u8 0) := by
  obtain ⟨m, hm⟩ : ∃ m, n - k = m + 1 := ⟨n - k - 1, by omega⟩
  have hm2 : n - (k + 1) = m := by omega
  have ht : zs.take (k + 1) = zs.take k ++ [zs.getD k 0] := by rw [List.take_succ_eq_append_getElem (by omega)]; simp [hl ▸ hk]
  have e : (Lib.byteCells (zs.take k)).length = k := by rw [Lib.byteCells_length, List.length_take]; omega
  rw [hm, hm2, List.replicate_succ, ht, Lib.byteCells_append, List.set_append_right _ _ (by omega), e, Nat.sub_self]
  simp [Lib.byteCells]
theorem atB_step (zs : List UInt8) (k n : Nat) (hk : k < n) (hl : zs.length = n) :
    (Lib.byteCells (zs.take k) ++ List.replicate (n - k) (Value.int .u8 0))[k]? = some (Value.int .u8 0) := by
  have e : (Lib.byteCells (zs.take k)).length = k := by rw [Lib.byteCells_length, List.length_take]; omega
  rw [List.getElem?_append_right (by omega), e, Nat.sub_self, List.getElem?_replicate, if_pos (by omega)]

set_option maxHeartbeats 400000 in
theorem toBytes_some (b off n cap : Nat) (zs : List UInt8) (w : World) (hn : n ≤ 1048576) (hl : zs.length = n) (hc : BytesAt w b off zs) :
    Calls Try.prog 28 #[.slice (some ⟨b, off, none⟩) n cap] w fun e w' => e = .returned (.slice (some ⟨w.heap.size, 0, none⟩) n n) ∧
      w'.ownsRow w.heap.size 5 1 (.slice (some ⟨w.heap.size, 0, none⟩) n n) n (Lib.byteCells zs) ∧ Below w.heap.size w w' := by
  obtain ⟨i0, hi, hz0, hz1, hz2⟩ := info_parts Try.infoByte
  have Hc := hidd hc
  clear hc
  go_enter Try.func28, Try.ntmps28
  go_wp2_with (at_make; refine wpList_make_full _ rfl _ _ 22 rfl w.heap.size 5 i0 (.int .u8 0) 1 Try.underlying22 hi hz0 hz1 _ _ _ _ n rfl rfl (by omega) (by omega) ?b2 ?b3 (Nat.le_refl _) ?_)
  case b2 => rw [hz2]; omega
  case b3 => unfold maxLen; omega
  intro w0 hown0 hgrow0
  go_wp2
  go_loopw [4] (fun i wr => ∃ k : Nat, k ≤ n ∧ i = .int .i64 k ∧ wr.ownsRow w.heap.size 5 1 (.slice (some ⟨w.heap.size, 0, none⟩) n n) n (Lib.byteCells (zs.take k) ++ List.replicate (n - k) (Value.int .u8 0)) ∧ Below w.heap.size w wr) (fun i _ => n - (intOf i).toNat)
  case atStart =>
    refine ⟨0, Nat.zero_le _, rfl, ?_, (Below.refl _ _).grown hgrow0 (Nat.le_refl _) (fun k h => by cases h)⟩
    have e0 : (madeCells #[Value.int .u8 0] n).toList = List.replicate n (Value.int .u8 0) := toList_madeCells_one _ _
    have h1 := hown0
    rw [e0] at h1
    simpa [Lib.byteCells] using h1
  case round =>
    obtain ⟨k, hk, rfl, hown, hbel⟩ := hrel
    by_cases hlt : k < n
    · have g0 := Hc.out k (by omega)
      have g1 := (hbel.cell (p := ⟨b, off + k, none⟩) (cell_lt g0)).trans g0
      have f1 := hown.frozenAt k
      have q1 : wr.cell? ⟨w.heap.size, k, none⟩ = some (.int .u8 0) := by
        rw [hown.cellAt k (by omega)]
        exact atB_step zs k n hlt hl
      have HO : Hid (wr.ownsRow w.heap.size 5 1 (.slice (some ⟨w.heap.size, 0, none⟩) n n) n (Lib.byteCells (zs.take k) ++ List.replicate (n - k) (Value.int .u8 0))) := hown
      have Hst := hidd (setB_step zs k n hlt hl)
      generalize zs.getD k 0 = cb at *
      clear hown hown0 hgrow0 g0
      go_wp2
      go_roundw
      case rel =>
        have st := (HO.out.stored k (.int .u8 (cb.toNat : Int))).1
        rw [Hst.out] at st
        exact ⟨k + 1, by omega, by go_num, st, hbel.setCell (p := ⟨w.heap.size, k, none⟩) (Nat.le_refl _) _⟩
      case measure => simp [intOf]; omega
    · have HK : Hid (k = n) := by show k = n; omega
      go_wp2
      go_ret
      obtain rfl := HK.out
      refine ⟨rfl, ?_, hbel⟩
      rw [List.take_of_length_le (by omega)] at hown
      simpa using hown
set_option maxHeartbeats 400000 in
theorem toBytes_none (ao : Option Addr) (cap : Nat) (w : World) :
    Calls Try.prog 28 #[.slice ao 0 cap] w fun e w' => e = .returned (.slice (some ⟨w.heap.size, 0, none⟩) 0 0) ∧
      w'.ownsRow w.heap.size 5 1 (.slice (some ⟨w.heap.size, 0, none⟩) 0 0) 0 (Lib.byteCells []) ∧ Below w.heap.size w w' := by
  obtain ⟨i0, hi, hz0, hz1, hz2⟩ := info_parts Try.infoByte
  go_enter Try.func28, Try.ntmps28
  go_wp2_with (at_make; refine wpList_make_full _ rfl _ _ 22 rfl w.heap.size 5 i0 (.int .u8 0) 1 Try.underlying22 hi hz0 hz1 _ _ _ _ 0 rfl rfl (by rfl) (by rfl) ?b2 ?b3 (Nat.le_refl _) ?_)
  case b2 => rw [hz2]; omega
  case b3 => unfold maxLen; omega
  intro w0 hown0 hgrow0
  go_wp2
  refine wp_loop_rounds 1 ?_
  rw [rounds_succ]
  go_wp2
  go_ret
  refine ⟨rfl, ?_, (Below.refl _ _).grown hgrow0 (Nat.le_refl _) (fun k h => by cases h)⟩
  have e0 : (madeCells #[Value.int .u8 0] 0).toList = List.replicate 0 (Value.int .u8 0) := toList_madeCells_one _ _
  rw [e0] at hown0
  exact hown0

set_option maxHeartbeats 400000 in
theorem eqBytes_same (b1 o1 c1 b2 o2 c2 n : Nat) (zs : List UInt8) (w : World) (hn : n ≤ 1099511627776) (hl : zs.length = n) (h1 : BytesAt w b1 o1 zs) (h2 : BytesAt w b2 o2 zs) :
    Calls Try.prog 29 #[.slice (some ⟨b1, o1, none⟩) n c1, .slice (some ⟨b2, o2, none⟩) n c2] w fun e w' => e = .returned (.bool true) ∧ ∃ m, w' = w.drewN m := by
  have H1 := hidd h1
  have H2 := hidd h2
  clear h1 h2
  go_enter Try.func29, Try.ntmps29
  go_wp2
  go_loopw [5] (fun i wr => ∃ k : Nat, k ≤ n ∧ i = .int .i64 k ∧ ∃ m, wr = w.drewN m) (fun i _ => n - (intOf i).toNat)
  case atStart => exact ⟨0, Nat.zero_le _, rfl, 0, rfl⟩
  case round =>
    obtain ⟨k, hk, rfl, m, rfl⟩ := hrel
    by_cases hlt : k < n
    · have g1 := H1.out k (by omega)
      have g2 := H2.out k (by omega)
      go_wp2
      go_quiet (fail)
      go_wp2
      go_roundw
      case rel => exact ⟨k + 1, by omega, by go_num, _, rfl⟩
      case measure => simp [intOf]; omega
    · go_wp2
      go_ret
      exact ⟨rfl, m, rfl⟩

def marksB (c : Int) (n : Nat) : List Value := (List.range n).map fun (i : Nat) => Value.int .u8 ((c + (i : Int)) % 256)
theorem marksB_length (c : Int) (n : Nat) : (marksB c n).length = n := by simp [marksB]
theorem marksB_at (c : Int) (n j : Nat) (h : j < n) : (marksB c n)[j]? = some (Value.int .u8 ((c + (j : Int)) % 256)) := by simp [marksB, h]
theorem marksB_set (c : Int) (k n : Nat) (xs : List Value) (hl : xs.length = n) (hk : k < n) : (marksB c k ++ xs.drop k).set k (.int .u8 ((c + (k : Int)) % 256)) = marksB c (k + 1) ++ xs.drop (k + 1) := by
  have e : (marksB c k).length = k := marksB_length c k
  rw [List.set_append_right _ _ (by omega), e, Nat.sub_self]
  have hd : xs.drop k = xs[k] :: xs.drop (k + 1) := by rw [List.drop_eq_getElem_cons (by omega)]
  rw [hd, List.set_cons_zero]
  simp [marksB, List.range_succ]
set_option maxHeartbeats 400000 in
theorem markBytes_some (base g n cap : Nat) (xs : List Value) (c : Int) (w : World) (hn : n ≤ 1099511627776) (h0 : 0 ≤ c) (h1 : c ≤ 1099511627776) (hown : w.ownsRow base 5 1 (.slice (some ⟨g, 0, none⟩) n cap) n xs) :
    Calls Try.prog 30 #[.slice (some ⟨g, 0, none⟩) n cap, .int .i64 c] w fun e w' => e = .returned (.int .i64 (c + (n : Int))) ∧
      w'.ownsRow base 5 1 (.slice (some ⟨g, 0, none⟩) n cap) n (marksB c n) ∧ w.grownBy w' (some g) := by
  have hl : xs.length = n := by have := hown.1; omega
  have HO := hidd hown
  clear hown
  go_enter Try.func30, Try.ntmps30
  go_wp2
  go_loopw [1, 5] (fun cv i wr => ∃ k : Nat, k ≤ n ∧ i = .int .i64 k ∧ cv = .int .i64 (c + (k : Int)) ∧ wr.ownsRow base 5 1 (.slice (some ⟨g, 0, none⟩) n cap) n (marksB c k ++ xs.drop k) ∧ w.grownBy wr (some g)) (fun _ i _ => n - (intOf i).toNat)
  case atStart => exact ⟨0, Nat.zero_le _, rfl, by simp, by simpa [marksB] using HO.out, grown_refl _ _⟩
  case round =>
    obtain ⟨k, hk, rfl, rfl, hown, hgr⟩ := hrel
    by_cases hlt : k < n
    · have f1 := hown.frozenAt k
      have hex : ∃ u, wr.cell? ⟨g, k, none⟩ = some u := by
        rw [hown.cellAt k (by omega)]
        have hlen : k < (marksB c k ++ xs.drop k).length := by rw [List.length_append, marksB_length, List.length_drop]; omega
        exact ⟨_, List.getElem?_eq_getElem hlen⟩
      obtain ⟨u, q1⟩ := hex
      have st := hidd (hown.stored k (.int .u8 ((c + (k : Int)) % 256)))
      clear hown
      go_wp2
      go_roundw
      case rel =>
        refine ⟨k + 1, by omega, by go_num, by go_num, ?_, grown_trans hgr st.out.2⟩
        have h := st.out.1
        rw [marksB_set c k n xs hl hlt] at h
        exact h
      case measure => simp [intOf]; omega
    · have HK : Hid (k = n) := by show k = n; omega
      go_wp2
      go_ret
      obtain rfl := HK.out
      refine ⟨rfl, ?_, hgr⟩
      rw [List.drop_of_length_le (by omega), List.append_nil] at hown
      exact hown


set_option maxHeartbeats 400000 in
theorem eqBytes_zero (a1 a2 : Option Addr) (c1 c2 : Nat) (w : World) :
    Calls Try.prog 29 #[.slice a1 0 c1, .slice a2 0 c2] w fun e w' => e = .returned (.bool true) ∧ w' = w := by
  go_enter Try.func29, Try.ntmps29
  go_wp2
  refine wp_loop_rounds 1 ?_
  rw [rounds_succ]
  go_wp2
  go_ret
  exact ⟨rfl, rfl⟩
set_option maxHeartbeats 400000 in
theorem markBytes_zero (a1 : Option Addr) (c1 : Nat) (c : Int) (w : World) :
    Calls Try.prog 30 #[.slice a1 0 c1, .int .i64 c] w fun e w' => e = .returned (.int .i64 c) ∧ w' = w := by
  go_enter Try.func30, Try.ntmps30
  go_wp2
  refine wp_loop_rounds 1 ?_
  rw [rounds_succ]
  go_wp2
  go_ret
  exact ⟨rfl, rfl⟩

theorem eqBytes_own (b1 b2 n : Nat) (v1 v2 : Value) (zs : List UInt8) (w : World) (hn : n ≤ 1099511627776) (hl : zs.length = n)
    (h1 : w.ownsRow b1 5 1 v1 n (Lib.byteCells zs)) (h2 : w.ownsRow b2 5 1 v2 n (Lib.byteCells zs)) :
    Calls Try.prog 29 #[v1, v2] w fun e w' => e = .returned (.bool true) ∧ ∃ m, w' = w.drewN m := by
  rcases own_cases h1 with ⟨rfl, rfl⟩ | ⟨g1, c1, rfl, _, _⟩
  · rcases own_cases h2 with ⟨rfl, _⟩ | ⟨g2, c2, rfl, _, _⟩
    · exact (eqBytes_zero _ _ _ _ w).mono fun e w' h => ⟨h.1, 0, h.2⟩
    · exact (eqBytes_zero _ _ _ _ w).mono fun e w' h => ⟨h.1, 0, h.2⟩
  · rcases own_cases h2 with ⟨rfl, rfl⟩ | ⟨g2, c2, rfl, _, _⟩
    · exact (eqBytes_zero _ _ _ _ w).mono fun e w' h => ⟨h.1, 0, h.2⟩
    · exact eqBytes_same g1 0 c1 g2 0 c2 n zs w hn hl (own_bytes h1 hl) (own_bytes h2 hl)
theorem markBytes_own (base n : Nat) (v : Value) (xs : List Value) (c : Int) (w : World) (hn : n ≤ 1099511627776) (h0 : 0 ≤ c) (h1 : c ≤ 1099511627776) (h : w.ownsRow base 5 1 v n xs) :
    Calls Try.prog 30 #[v, .int .i64 c] w fun e w' => e = .returned (.int .i64 (c + (n : Int))) ∧ w'.ownsRow base 5 1 v n (marksB c n) ∧ w.grownBy w' v.ownBlock := by
  rcases own_cases h with ⟨rfl, rfl⟩ | ⟨g1, c1, rfl, _, _⟩
  · refine (markBytes_zero _ _ c w).mono fun e w' h' => ?_
    obtain ⟨rfl, rfl⟩ := h'
    exact ⟨by simp, World.ownsRow_nil _ _ _ _, grown_refl _ _⟩
  · exact markBytes_some base g1 n c1 xs c w hn h0 h1 h

/-- A slice of bytes that was handed in. -/
def RowB (W : World) (a0 : Option Addr) (n : Nat) (bs : List UInt8) : Prop := bs.length = n ∧ (n = 0 ∨ ∃ b off, a0 = some ⟨b, off, none⟩ ∧ BytesAt W b off bs)
theorem RowB.to {W : World} {a0 : Option Addr} {n : Nat} {bs : List UInt8} (h : RowB W a0 n bs) (cap : Nat) (w' : World) (hn : n ≤ 1048576) (hb : Below W.heap.size W w') :
    Calls Try.prog 28 #[.slice a0 n cap] w' fun e w2 => e = .returned (.slice (some ⟨w'.heap.size, 0, none⟩) n n) ∧ w2.ownsRow w'.heap.size 5 1 (.slice (some ⟨w'.heap.size, 0, none⟩) n n) n (Lib.byteCells bs) ∧ Below w'.heap.size w' w2 := by
  obtain ⟨hl, rfl | ⟨b, off, rfl, hc⟩⟩ := h
  · have : bs = [] := List.length_eq_zero_iff.1 hl
    subst this
    exact toBytes_none a0 cap w'
  · exact toBytes_some b off n cap bs w' hn hl (hc.below hb)
end Go.Proofs.Ytbkedgpligcicaa

namespace Go.Proofs.Ytbkedgpligcicaa
open Go Go.RowKit
set_option linter.unusedVariables false

theorem foldl_snoc (f : Nat → UInt8 → Nat) (h0 : Nat) (bs : List UInt8) (k : Nat) (h : k < bs.length) : (bs.take (k + 1)).foldl f h0 = f ((bs.take k).foldl f h0) (bs.getD k 0) := by
  have ht : bs.take (k + 1) = bs.take k ++ [bs.getD k 0] := by rw [List.take_succ_eq_append_getElem h]; simp [h]
  rw [ht, List.foldl_append]
  simp only [List.foldl_cons, List.foldl_nil]
theorem foldl_below (f : Nat → UInt8 → Nat) (n : Nat) (hf : ∀ h b, f h b < n) (bs : List UInt8) : ∀ h, h < n → bs.foldl f h < n := by
  induction bs with
  | nil => intro h hh; exact hh
  | cons x t ih => intro h hh; rw [List.foldl_cons]; exact ih _ (hf _ _)
def sumStep (h : Nat) (b : UInt8) : Nat := (h ^^^ b.toNat) * 16777619 % 4294967296
theorem sumStep_lt (h : Nat) (b : UInt8) : sumStep h b < 4294967296 := Nat.mod_lt _ (by omega)
def sumG (bs : List UInt8) : Nat := bs.foldl sumStep 2166136261
def sumL (bs : List UInt8) : Nat := if 1048576 < bs.length then 0 else sumG bs
theorem sumG_snoc (bs : List UInt8) (k : Nat) (h : k < bs.length) : sumG (bs.take (k + 1)) = sumStep (sumG (bs.take k)) (bs.getD k 0) := foldl_snoc sumStep _ bs k h
theorem sumG_lt (bs : List UInt8) : sumG bs < 4294967296 := foldl_below sumStep _ sumStep_lt bs _ (by omega)
theorem i64_xor_nat (a b : Nat) (ha : a < 4294967296) (hb : b < 4294967296) : bits .xor .i64 (a : Int) (b : Int) = ((a ^^^ b : Nat) : Int) := by
  have hx : a ^^^ b < 2 ^ 32 := Nat.xor_lt_two_pow (by omega) (by omega)
  show IntKind.i64.wrap ((BitVec.ofInt 64 (a : Int) ^^^ BitVec.ofInt 64 (b : Int)).toNat : Int) = _
  rw [BitVec.toNat_xor, ofInt_u64 a (by omega), ofInt_u64 b (by omega), IntKind.wrap_i64]
  omega

set_option maxHeartbeats 1000000 in
theorem specSum_any (b off cap : Nat) (bs : List UInt8) (w : World) (hc : BytesAt w b off bs) :
    Calls Try.prog 94 #[.slice (some ⟨b, off, none⟩) bs.length cap] w fun e w' => e = .returned (.int .i64 (sumL bs : Nat)) ∧ w' = w := by
  have Hc := hidd hc
  clear hc
  by_cases hlong : 1048576 < bs.length
  · have hlz : (1048576 : Int) < (bs.length : Int) := by omega
    have HE : Hid (sumL bs = 0) := by show _ = _; rw [sumL, if_pos hlong]
    go_enter Try.func94, Try.ntmps94
    go_wp2
    go_ret
    rw [HE.out]
    exact ⟨rfl, rfl⟩
  · have hlz : ¬ (1048576 : Int) < (bs.length : Int) := by omega
    have HE : Hid (sumL bs = sumG bs) := by show _ = _; rw [sumL, if_neg hlong]
    go_enter Try.func94, Try.ntmps94
    go_wp2
    go_loop [3, 4] (fun hv i => ∃ k : Nat, k ≤ bs.length ∧ i = .int .i64 k ∧ hv = .int .i64 ((sumG (bs.take k) : Nat) : Int)) (fun _ i => bs.length - (intOf i).toNat)
    case atStart => exact ⟨0, Nat.zero_le _, rfl, rfl⟩
    case round =>
      obtain ⟨k, hk, rfl, rfl⟩ := hrel
      by_cases hlt : k < bs.length
      · have g1 := Hc.out k hlt
        have hc256 : (bs.getD k 0).toNat < 256 := UInt8.toNat_lt _
        have Hs := hidd (sumG_snoc bs k hlt)
        have hlt32 := sumG_lt (bs.take k)
        generalize bs.getD k 0 = cb at *
        generalize sumG (bs.take k) = h at *
        obtain ⟨X, hX, hX32⟩ : ∃ X : Nat, bits .xor .i64 (h : Int) (cb.toNat : Int) = (X : Int) ∧ X < 4294967296 ∧ sumStep h cb = X * 16777619 % 4294967296 := by
          exact ⟨h ^^^ cb.toNat, i64_xor_nat h cb.toNat hlt32 (by omega), Nat.xor_lt_two_pow (n := 32) (by omega) (by omega), rfl⟩
        have HX := hidd hX32.2
        have hX1 := hX32.1
        clear hX32
        go_wp2
        go_round
        case rel => exact ⟨k + 1, by omega, by go_num, by rw [Hs.out, HX.out]; go_num⟩
        case measure => simp [intOf]; omega
      · have HK : Hid (bs.take k = bs) := by show _ = _; rw [List.take_of_length_le (by omega)]
        rw [HK.out]
        go_wp2
        go_ret
        rw [HE.out]
        exact ⟨rfl, rfl⟩
set_option maxHeartbeats 1000000 in
theorem implSum_any (b off cap : Nat) (bs : List UInt8) (w : World) (hc : BytesAt w b off bs) :
    Calls Try.prog 80 #[.slice (some ⟨b, off, none⟩) bs.length cap] w fun e w' => e = .returned (.int .i64 (sumL bs : Nat)) ∧ w' = w := by
  have Hc := hidd hc
  clear hc
  by_cases hlong : 1048576 < bs.length
  · have hlz : (1048576 : Int) < (bs.length : Int) := by omega
    have HE : Hid (sumL bs = 0) := by show _ = _; rw [sumL, if_pos hlong]
    go_enter Try.func80, Try.ntmps80
    go_wp2
    go_ret
    rw [HE.out]
    exact ⟨rfl, rfl⟩
  · have hlz : ¬ (1048576 : Int) < (bs.length : Int) := by omega
    have HE : Hid (sumL bs = sumG bs) := by show _ = _; rw [sumL, if_neg hlong]
    go_enter Try.func80, Try.ntmps80
    go_wp2
    go_loop [3, 11] (fun hv i => ∃ k : Nat, k ≤ bs.length ∧ i = .int .i64 k ∧ hv = .int .u32 ((sumG (bs.take k) : Nat) : Int)) (fun _ i => bs.length - (intOf i).toNat)
    case atStart => exact ⟨0, Nat.zero_le _, rfl, rfl⟩
    case round =>
      obtain ⟨k, hk, rfl, rfl⟩ := hrel
      by_cases hlt : k < bs.length
      · have g1 := Hc.out k hlt
        have hc256 : (bs.getD k 0).toNat < 256 := UInt8.toNat_lt _
        have Hs := hidd (sumG_snoc bs k hlt)
        have hlt32 := sumG_lt (bs.take k)
        generalize bs.getD k 0 = cb at *
        generalize sumG (bs.take k) = h at *
        obtain ⟨X, hX, hX32⟩ : ∃ X : Nat, bits .xor .u32 (h : Int) (cb.toNat : Int) = (X : Int) ∧ X < 4294967296 ∧ sumStep h cb = X * 16777619 % 4294967296 :=
          ⟨h ^^^ cb.toNat, u32_xor_nat h cb.toNat hlt32 (by omega), Nat.xor_lt_two_pow (n := 32) (by omega) (by omega), rfl⟩
        have HX := hidd hX32.2
        have hX1 := hX32.1
        clear hX32
        go_wp2
        go_round
        case rel => exact ⟨k + 1, by omega, by go_num, by rw [Hs.out, HX.out]; go_num⟩
        case measure => simp [intOf]; omega
      · have HK : Hid (bs.take k = bs) := by show _ = _; rw [List.take_of_length_le (by omega)]
        have hlt32 := sumG_lt bs
        rw [HK.out]
        go_wp2
        go_ret
        rw [HE.out]
        exact ⟨rfl, rfl⟩
end Go.Proofs.Ytbkedgpligcicaa

namespace Go.Proofs.Ytbkedgpligcicaa
open Go Go.RowKit
set_option linter.unusedVariables false

/-! The bytes of a dictionary, in plain words. -/
def arB (a : Ar) : List UInt8 := UInt8.ofNat a.1.toNat :: putL a.2.1.toNat
def stB (s : St) : List UInt8 := putL (2 * s.2.length + (if s.1 then 1 else 0)) ++ s.2.flatMap arB
def dB (S : List St) : List UInt8 := putL S.length ++ S.flatMap stB
def four (n : Nat) : List UInt8 := [UInt8.ofNat (n / 16777216), UInt8.ofNat (n / 65536 % 256), UInt8.ofNat (n / 256 % 256), UInt8.ofNat (n % 256)]
def bytesD (S : List St) : List UInt8 := dB S ++ four (sumL (dB S))
/-- What DictBytes tells. -/
def bytesO (S : List St) (d : Option (List Tx)) : List UInt8 × Int := match d with
  | none => ([], 1)
  | some _ => (bytesD S, 0)
theorem sumL_lt (bs : List UInt8) : sumL bs < 4294967296 := by
  unfold sumL
  split
  · omega
  · exact sumG_lt bs
/-- A text so far. -/
def preB (S : List St) (k : Nat) : List UInt8 := putL S.length ++ (S.take k).flatMap stB
def midB (S : List St) (k : Nat) (l : List Ar) (n j : Nat) : List UInt8 := preB S k ++ putL n ++ (l.take j).flatMap arB
theorem preB_zero (S : List St) : preB S 0 = putL S.length := by simp [preB]
theorem preB_all (S : List St) : preB S S.length = dB S := by simp [preB, dB]
theorem take_st {S : List St} {k : Nat} (h : k < S.length) : S.take (k + 1) = S.take k ++ [S.getD k st0] := by
  rw [List.take_succ_eq_append_getElem h]; simp [h]
theorem take_ar {l : List Ar} {k : Nat} (h : k < l.length) : l.take (k + 1) = l.take k ++ [l.getD k ar0] := by
  rw [List.take_succ_eq_append_getElem h]; simp [h]
theorem midB_zero (S : List St) (k : Nat) (l : List Ar) (n : Nat) : midB S k l n 0 = preB S k ++ putL n := by simp [midB]
theorem midB_step {S : List St} {k : Nat} {l : List Ar} {n j : Nat} (h : j < l.length) : midB S k l n (j + 1) = midB S k l n j ++ [UInt8.ofNat (l.getD j ar0).1.toNat] ++ putL (l.getD j ar0).2.1.toNat := by
  unfold midB
  rw [take_ar h]
  simp [arB, List.append_assoc]
theorem midB_all {S : List St} {k : Nat} (h : k < S.length) : midB S k (S.getD k st0).2 (2 * (S.getD k st0).2.length + (if (S.getD k st0).1 then 1 else 0)) (S.getD k st0).2.length = preB S (k + 1) := by
  unfold midB preB
  rw [take_st h]
  simp [stB, List.append_assoc]
theorem arB_len (a : Ar) (h : a.2.1.toNat < 4611686018427387904) : (arB a).length ≤ 10 := by
  have := putL_length9 a.2.1.toNat h
  simp [arB]; omega
theorem arcs_len : ∀ {l : List Ar}, (∀ a ∈ l, a.2.1.toNat < 4611686018427387904) → (l.flatMap arB).length ≤ l.length * 10
  | [], _ => by simp
  | a :: t, h => by
    have h1 := arB_len a (h a (by simp))
    have h2 := arcs_len (l := t) (fun x hx => h x (by simp [hx]))
    simp only [List.flatMap_cons, List.length_append, List.length_cons]
    omega
theorem stB_len (s : St) (h0 : s.2.length ≤ 256) (h : ∀ a ∈ s.2, a.2.1.toNat < 4611686018427387904) : (stB s).length ≤ 2600 := by
  have h1 := arcs_len h
  have h2 := putL_length9 (2 * s.2.length + (if s.1 then 1 else 0)) (by split <;> omega)
  simp only [stB, List.length_append]
  omega
theorem sts_len : ∀ {S : List St}, (∀ s ∈ S, s.2.length ≤ 256 ∧ ∀ a ∈ s.2, a.2.1.toNat < 4611686018427387904) → (S.flatMap stB).length ≤ S.length * 2600
  | [], _ => by simp
  | s :: t, h => by
    have h1 := stB_len s (h s (by simp)).1 (h s (by simp)).2
    have h2 := sts_len (S := t) (fun x hx => h x (by simp [hx]))
    simp only [List.flatMap_cons, List.length_append, List.length_cons]
    omega
/-- The states of a dictionary are small. -/
theorem IsDict.small {c : Int} {S : List St} {ts : List Tx} (h : IsDict (c, S) ts) : Fine S := by
  by_cases e : ts = []
  · subst e
    have e2 := (Prod.mk.inj (IsDict.none.1 h)).2
    intro i hi
    rw [e2] at hi ⊢
    have : i = 0 := by simp at hi; omega
    subst this
    exact ⟨by simp [arcsAt], fun a ha => by simp [arcsAt] at ha⟩
  · exact h.fine e
theorem fine_sts {S : List St} (h : Fine S) (hn : S.length ≤ 16384) : ∀ s ∈ S, s.2.length ≤ 256 ∧ ∀ a ∈ s.2, a.2.1.toNat < 4611686018427387904 := fun s hs => by
  obtain ⟨i, hi, rfl⟩ := List.getElem_of_mem hs
  have e : arcsAt S i = S[i].2 := by simp [arcsAt, hi]
  have := h i hi
  rw [e] at this
  exact ⟨this.1, fun a ha => by have := (this.2 a ha).2.2.2; omega⟩
theorem preB_len {S : List St} (h : Fine S) (hn : S.length ≤ 16384) (k : Nat) : (preB S k).length ≤ 50000000 := by
  have h1 := sts_len (S := S.take k) (fun s hs => fine_sts h hn s (List.mem_of_mem_take hs))
  have h2 := putL_length9 S.length (by omega)
  have h3 : (S.take k).length ≤ S.length := by rw [List.length_take]; exact Nat.min_le_right _ _
  have h4 : (S.take k).length * 2600 ≤ 16384 * 2600 := Nat.mul_le_mul_right _ (by omega)
  simp only [preB, List.length_append]
  omega
theorem midB_len {S : List St} (h : Fine S) (hn : S.length ≤ 16384) {k : Nat} {l : List Ar} (hl : l.length ≤ 256) (ha : ∀ a ∈ l, a.2.1.toNat < 4611686018427387904) {n : Nat} (hn2 : n < 4611686018427387904) (j : Nat) : (midB S k l n j).length ≤ 60000000 := by
  have h1 := preB_len h hn k
  have h2 := arcs_len (l := l.take j) (fun a hx => ha a (List.mem_of_mem_take hx))
  have h3 : (l.take j).length ≤ l.length := by rw [List.length_take]; exact Nat.min_le_right _ _
  have h4 := putL_length9 n hn2
  simp only [midB, List.length_append]
  omega
end Go.Proofs.Ytbkedgpligcicaa

namespace Go.Proofs.Ytbkedgpligcicaa
open Go Go.RowKit
set_option linter.unusedVariables false

/-! The states that stand in bytes, in plain words: n is the bound of an arc's aim. -/
def bareA (a : Ar) : Ar := (a.1, a.2.1, 0)
def bareS (s : St) : St := (s.1, s.2.map bareA)
def rdArcs (n : Nat) : Nat → List UInt8 → Option (List Ar × List UInt8)
  | 0, bs => some ([], bs)
  | _ + 1, [] => none
  | k + 1, b :: bs => (getL bs).bind fun p => if p.1 < n then (rdArcs n k (bs.drop p.2)).map fun q => (((b.toNat : Int), (p.1 : Int), (0 : Int)) :: q.1, q.2) else none
def rdSt (n : Nat) (bs : List UInt8) : Option (St × List UInt8) :=
  (getL bs).bind fun p => if p.1 ≤ 513 then (rdArcs n (p.1 / 2) (bs.drop p.2)).map fun q => ((p.1 % 2 == 1, q.1), q.2) else none
def rdSts (n : Nat) : Nat → List UInt8 → Option (List St × List UInt8)
  | 0, bs => some ([], bs)
  | k + 1, bs => (rdSt n bs).bind fun p => (rdSts n k p.2).map fun q => (p.1 :: q.1, q.2)
/-- An arc's numbers as bytes tell them. -/
def FitA (n : Nat) (a : Ar) : Prop := 0 ≤ a.1 ∧ a.1 < 256 ∧ 0 ≤ a.2.1 ∧ a.2.1 < (n : Int)
def FitS (n : Nat) (s : St) : Prop := s.2.length ≤ 256 ∧ ∀ a ∈ s.2, FitA n a

theorem getL_split {bs : List UInt8} {v s : Nat} (h : getL bs = some (v, s)) : bs = putL v ++ bs.drop s ∧ v < 4611686018427387904 := by
  obtain ⟨h1, h2, h3⟩ := getL_inv h
  refine ⟨?_, h2⟩
  rw [← h1]; exact (List.take_append_drop s bs).symm
theorem arB_bare (a : Ar) : arB (bareA a) = arB a := rfl
theorem arcs_bare (l : List Ar) : (l.map bareA).flatMap arB = l.flatMap arB := by
  induction l with
  | nil => rfl
  | cons a l ih => simp only [List.map_cons, List.flatMap_cons, ih, arB_bare]
theorem stB_bare (s : St) : stB (bareS s) = stB s := by
  unfold stB bareS
  simp only [List.length_map, arcs_bare]
theorem sts_bare (S : List St) : (S.map bareS).flatMap stB = S.flatMap stB := by
  induction S with
  | nil => rfl
  | cons a l ih => simp only [List.map_cons, List.flatMap_cons, ih, stB_bare]
theorem dB_bare (S : List St) : dB (S.map bareS) = dB S := by
  unfold dB
  simp only [List.length_map, sts_bare]
theorem bytesD_bare (S : List St) : bytesD (S.map bareS) = bytesD S := by
  unfold bytesD
  simp only [dB_bare]

theorem rdArcs_inv (n : Nat) : ∀ (k : Nat) (bs : List UInt8) (l : List Ar) (r : List UInt8), rdArcs n k bs = some (l, r) → bs = l.flatMap arB ++ r ∧ l.length = k ∧ (∀ a ∈ l, FitA n a) ∧ l.map bareA = l := by
  intro k
  induction k with
  | zero =>
    intro bs l r h
    simp only [rdArcs, Option.some.injEq, Prod.mk.injEq] at h
    obtain ⟨rfl, rfl⟩ := h
    simp
  | succ k ih =>
    intro bs l r h
    cases bs with
    | nil => simp [rdArcs] at h
    | cons b bs =>
      rw [rdArcs] at h
      cases hg : getL bs with
      | none => rw [hg] at h; simp at h
      | some p =>
        obtain ⟨v, s⟩ := p
        rw [hg, Option.bind_some] at h
        by_cases hv : v < n
        · rw [if_pos hv] at h
          cases hr : rdArcs n k (bs.drop s) with
          | none => rw [hr] at h; simp at h
          | some q =>
            obtain ⟨l', r'⟩ := q
            rw [hr] at h
            simp only [Option.map_some, Option.some.injEq, Prod.mk.injEq] at h
            obtain ⟨rfl, rfl⟩ := h
            obtain ⟨e1, e2, e3, e4⟩ := ih _ _ _ hr
            obtain ⟨g1, g2⟩ := getL_split hg
            have hb : b.toNat < 256 := UInt8.toNat_lt b
            refine ⟨?_, by simp [e2], ?_, ?_⟩
            · rw [List.flatMap_cons, List.append_assoc, ← e1]
              show b :: bs = UInt8.ofNat ((b.toNat : Int).toNat) :: (putL (v : Int).toNat ++ bs.drop s)
              rw [Int.toNat_natCast, Int.toNat_natCast, ← g1, UInt8.ofNat_toNat]
            · intro a ha
              rcases List.mem_cons.mp ha with rfl | ha
              · exact ⟨by show (0 : Int) ≤ (b.toNat : Int); omega, by show (b.toNat : Int) < 256; omega, by show (0 : Int) ≤ (v : Int); omega, by show (v : Int) < (n : Int); omega⟩
              · exact e3 a ha
            · rw [List.map_cons, e4]; rfl
        · rw [if_neg hv] at h; simp at h

theorem rdArcs_put (n : Nat) (hn : n ≤ 4611686018427387904) : ∀ (l : List Ar) (r : List UInt8), (∀ a ∈ l, FitA n a) → rdArcs n l.length (l.flatMap arB ++ r) = some (l.map bareA, r) := by
  intro l
  induction l with
  | nil => intro r h; rfl
  | cons a l ih =>
    intro r h
    obtain ⟨h1, h2, h3, h4⟩ := h a List.mem_cons_self
    have e : (a :: l).flatMap arB ++ r = UInt8.ofNat a.1.toNat :: (putL a.2.1.toNat ++ (l.flatMap arB ++ r)) := by
      rw [List.flatMap_cons, List.append_assoc]; rfl
    rw [e, List.length_cons, rdArcs, getL_put _ _ (by omega), Option.bind_some, if_pos (by show a.2.1.toNat < n; omega)]
    have ed : (putL a.2.1.toNat ++ (l.flatMap arB ++ r)).drop (putL a.2.1.toNat).length = l.flatMap arB ++ r := List.drop_left
    rw [ed, ih r fun x hx => h x (List.mem_cons_of_mem _ hx), Option.map_some, ofNat_toNatP _ (by omega), Int.toNat_of_nonneg h1, Int.toNat_of_nonneg h3]
    rfl

theorem rdSt_inv {n : Nat} {bs : List UInt8} {s : St} {r : List UInt8} (h : rdSt n bs = some (s, r)) : bs = stB s ++ r ∧ FitS n s ∧ bareS s = s := by
  unfold rdSt at h
  cases hg : getL bs with
  | none => rw [hg] at h; simp at h
  | some p =>
    obtain ⟨v, z⟩ := p
    rw [hg, Option.bind_some] at h
    by_cases hv : v ≤ 513
    · rw [if_pos hv] at h
      cases hr : rdArcs n (v / 2) (bs.drop z) with
      | none => rw [hr] at h; simp at h
      | some q =>
        obtain ⟨l, r'⟩ := q
        rw [hr] at h
        simp only [Option.map_some, Option.some.injEq, Prod.mk.injEq] at h
        obtain ⟨rfl, rfl⟩ := h
        obtain ⟨e1, e2, e3, e4⟩ := rdArcs_inv n _ _ _ _ hr
        obtain ⟨g1, g2⟩ := getL_split hg
        refine ⟨?_, ⟨by show l.length ≤ 256; omega, e3⟩, ?_⟩
        · unfold stB
          rw [List.append_assoc]
          show bs = putL (2 * l.length + if (v % 2 == 1) = true then 1 else 0) ++ (l.flatMap arB ++ r')
          rw [← e1, e2]
          have : (2 * (v / 2) + if (v % 2 == 1) = true then 1 else 0) = v := by
            by_cases h1 : v % 2 = 1
            · rw [if_pos (by simp [h1])]; omega
            · rw [if_neg (by simp [h1])]; omega
          rw [this]; exact g1
        · show (_, l.map bareA) = _
          rw [e4]
    · rw [if_neg hv] at h; simp at h

theorem rdSt_put {n : Nat} (hn : n ≤ 4611686018427387904) {s : St} (r : List UInt8) (h : FitS n s) : rdSt n (stB s ++ r) = some (bareS s, r) := by
  obtain ⟨f, l⟩ := s
  obtain ⟨h1, h2⟩ := h
  have h1 : l.length ≤ 256 := h1
  unfold rdSt stB
  obtain ⟨m, hm⟩ : ∃ m : Nat, m = 2 * l.length + (if f = true then 1 else 0) := ⟨_, rfl⟩
  have hm1 : m ≤ 513 := by rw [hm]; split <;> omega
  have hm2 : m / 2 = l.length := by rw [hm]; split <;> omega
  have hm3 : (m % 2 == 1) = f := by
    rw [hm]; cases f
    · simp
    · simp
  show ((getL (putL (2 * l.length + if f = true then 1 else 0) ++ l.flatMap arB ++ r)).bind _) = _
  rw [← hm, List.append_assoc, getL_put _ _ (by omega), Option.bind_some, if_pos hm1]
  have ed : (putL m ++ (l.flatMap arB ++ r)).drop (putL m).length = l.flatMap arB ++ r := List.drop_left
  rw [ed, hm2, rdArcs_put n hn l r h2, Option.map_some, hm3]
  rfl

theorem rdSts_inv (n : Nat) : ∀ (k : Nat) (bs : List UInt8) (S : List St) (r : List UInt8), rdSts n k bs = some (S, r) → bs = S.flatMap stB ++ r ∧ S.length = k ∧ (∀ s ∈ S, FitS n s) ∧ S.map bareS = S := by
  intro k
  induction k with
  | zero =>
    intro bs S r h
    simp only [rdSts, Option.some.injEq, Prod.mk.injEq] at h
    obtain ⟨rfl, rfl⟩ := h
    simp
  | succ k ih =>
    intro bs S r h
    rw [rdSts] at h
    cases hs : rdSt n bs with
    | none => rw [hs] at h; simp at h
    | some p =>
      obtain ⟨s, r1⟩ := p
      rw [hs, Option.bind_some] at h
      cases hr : rdSts n k r1 with
      | none => rw [hr] at h; simp at h
      | some q =>
        obtain ⟨S', r'⟩ := q
        rw [hr] at h
        simp only [Option.map_some, Option.some.injEq, Prod.mk.injEq] at h
        obtain ⟨rfl, rfl⟩ := h
        obtain ⟨e1, e2, e3, e4⟩ := ih _ _ _ hr
        obtain ⟨g1, g2, g3⟩ := rdSt_inv hs
        refine ⟨by rw [List.flatMap_cons, List.append_assoc, ← e1]; exact g1, by simp [e2], ?_, by rw [List.map_cons, e4, g3]⟩
        intro x hx
        rcases List.mem_cons.mp hx with rfl | hx
        · exact g2
        · exact e3 x hx

theorem rdSts_put (n : Nat) (hn : n ≤ 4611686018427387904) : ∀ (S : List St) (r : List UInt8), (∀ s ∈ S, FitS n s) → rdSts n S.length (S.flatMap stB ++ r) = some (S.map bareS, r) := by
  intro S
  induction S with
  | nil => intro r h; rfl
  | cons s S ih =>
    intro r h
    rw [List.flatMap_cons, List.append_assoc, List.length_cons, rdSts, rdSt_put hn _ (h s List.mem_cons_self), Option.bind_some, ih r fun x hx => h x (List.mem_cons_of_mem _ hx)]
    rfl

/-- What impl's statesOf tells. -/
def rdI (bs : List UInt8) : Option (List St) :=
  if 4 ≤ bs.length ∧ four (sumL (bs.take (bs.length - 4))) = bs.drop (bs.length - 4) then
    (getL (bs.take (bs.length - 4))).bind fun p => if p.1 ≤ 16384 then (rdSts 16384 p.1 ((bs.take (bs.length - 4)).drop p.2)).bind fun q => if q.2 = [] then some q.1 else none else none
  else none
/-- What spec's l04Parse tells. -/
def rdP (bs : List UInt8) : Option (List St) :=
  (getL bs).bind fun p => if 1 ≤ p.1 ∧ p.1 ≤ 16384 then (rdSts p.1 p.1 (bs.drop p.2)).map Prod.fst else none

theorem four_len (n : Nat) : (four n).length = 4 := rfl
theorem rdI_inv {bs : List UInt8} {S : List St} (h : rdI bs = some S) : bytesD S = bs ∧ S.length ≤ 16384 ∧ (∀ s ∈ S, FitS 16384 s) ∧ S.map bareS = S := by
  unfold rdI at h
  by_cases hc : 4 ≤ bs.length ∧ four (sumL (bs.take (bs.length - 4))) = bs.drop (bs.length - 4)
  · rw [if_pos hc] at h
    obtain ⟨c1, c2⟩ := hc
    obtain ⟨m, hm⟩ : ∃ m, m = bs.take (bs.length - 4) := ⟨_, rfl⟩
    rw [← hm] at h c2
    cases hg : getL m with
    | none => rw [hg] at h; simp at h
    | some p =>
      obtain ⟨v, z⟩ := p
      rw [hg, Option.bind_some] at h
      by_cases hv : v ≤ 16384
      · rw [if_pos hv] at h
        cases hr : rdSts 16384 v (m.drop z) with
        | none => rw [hr] at h; simp at h
        | some q =>
          obtain ⟨S', r⟩ := q
          rw [hr, Option.bind_some] at h
          by_cases hq : r = []
          · rw [if_pos hq] at h
            have h := Option.some.inj h
            subst hq
            have h : S' = S := h
            subst h
            obtain ⟨e1, e2, e3, e4⟩ := rdSts_inv _ _ _ _ _ hr
            obtain ⟨g1, g2⟩ := getL_split hg
            have hd : dB S' = m := by
              unfold dB
              rw [List.append_nil] at e1
              rw [e2, ← e1]
              exact g1.symm
            refine ⟨?_, by omega, e3, e4⟩
            unfold bytesD
            rw [hd, c2, hm]
            exact List.take_append_drop _ _
          · rw [if_neg hq] at h; simp at h
      · rw [if_neg hv] at h; simp at h
  · rw [if_neg hc] at h; simp at h

theorem rdI_put {S : List St} (hl : S.length ≤ 16384) (hf : ∀ s ∈ S, FitS 16384 s) : rdI (bytesD S) = some (S.map bareS) := by
  have e1 : (bytesD S).length - 4 = (dB S).length := by unfold bytesD; rw [List.length_append, four_len]; omega
  have e2 : (bytesD S).take (dB S).length = dB S := List.take_left
  have e3 : (bytesD S).drop (dB S).length = four (sumL (dB S)) := List.drop_left
  unfold rdI
  rw [e1, e2, e3, if_pos ⟨by unfold bytesD; rw [List.length_append, four_len]; omega, rfl⟩]
  have e4 : getL (dB S) = some (S.length, (putL S.length).length) := getL_put _ _ (by omega)
  have e5 : (dB S).drop (putL S.length).length = S.flatMap stB ++ [] := by rw [List.append_nil]; exact List.drop_left
  rw [e4, Option.bind_some, if_pos hl, e5, rdSts_put 16384 (by omega) S [] hf, Option.bind_some, if_pos rfl]

theorem rdP_put {S : List St} (h1 : 1 ≤ S.length) (hl : S.length ≤ 16384) (hf : ∀ s ∈ S, FitS S.length s) : rdP (bytesD S) = some (S.map bareS) := by
  have e0 : bytesD S = putL S.length ++ (S.flatMap stB ++ four (sumL (dB S))) := by
    show dB S ++ _ = _
    rw [← List.append_assoc]; rfl
  unfold rdP
  have e5 : (putL S.length ++ (S.flatMap stB ++ four (sumL (dB S)))).drop (putL S.length).length = S.flatMap stB ++ four (sumL (dB S)) := List.drop_left
  rw [e0, getL_put _ _ (by omega), Option.bind_some, if_pos ⟨h1, hl⟩, e5, rdSts_put S.length (by omega) S _ hf]
  rfl
theorem rdP_inv {bs : List UInt8} {S : List St} (h : rdP bs = some S) : 1 ≤ S.length ∧ S.length ≤ 16384 ∧ (∀ s ∈ S, FitS S.length s) ∧ S.map bareS = S ∧ dB S <+: bs := by
  unfold rdP at h
  cases hg : getL bs with
  | none => rw [hg] at h; simp at h
  | some p =>
    obtain ⟨v, z⟩ := p
    rw [hg, Option.bind_some] at h
    by_cases hv : 1 ≤ v ∧ v ≤ 16384
    · rw [if_pos hv] at h
      cases hr : rdSts v v (bs.drop z) with
      | none => rw [hr] at h; simp at h
      | some q =>
        obtain ⟨S', r⟩ := q
        rw [hr, Option.map_some] at h
        have h := Option.some.inj h
        have h : S' = S := h
        subst h
        obtain ⟨e1, e2, e3, e4⟩ := rdSts_inv _ _ _ _ _ hr
        obtain ⟨g1, g2⟩ := getL_split hg
        refine ⟨by omega, by omega, by rw [e2]; exact e3, e4, r, ?_⟩
        unfold dB
        rw [e2, List.append_assoc, ← e1]
        exact g1.symm
    · rw [if_neg hv] at h; simp at h
end Go.Proofs.Ytbkedgpligcicaa
