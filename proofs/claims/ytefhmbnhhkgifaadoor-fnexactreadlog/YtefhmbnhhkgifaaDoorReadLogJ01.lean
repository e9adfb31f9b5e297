import Derived.Lib.BitFns
import Derived.Lib.ItoaNum
namespace Go.Proofs.YtefhmbnhhkgifaaDoor
open Go
set_option linter.unusedVariables false

/-! Numbers in bytes of seven bits. -/
def putL (v : Nat) : List UInt8 := if v < 128 then [UInt8.ofNat v] else UInt8.ofNat (128 + v % 128) :: putL (v / 128)
termination_by v
decreasing_by omega
theorem putL_small (v : Nat) (h : v < 128) : putL v = [UInt8.ofNat v] := by rw [putL, if_pos h]
theorem putL_big (v : Nat) (h : ¬ v < 128) : putL v = UInt8.ofNat (128 + v % 128) :: putL (v / 128) := by rw [putL, if_neg h]
theorem putL_pos (v : Nat) : 1 ≤ (putL v).length := by
  by_cases h : v < 128
  · rw [putL_small v h]; simp
  · rw [putL_big v h]; simp
theorem putL_length (k : Nat) : ∀ v, v < 128 ^ (k + 1) → (putL v).length ≤ k + 1 := by
  induction k with
  | zero => intro v h; rw [putL_small v (by simpa using h)]; simp
  | succ k ih =>
    intro v h
    by_cases hv : v < 128
    · rw [putL_small v hv]; simp
    · rw [putL_big v hv]
      have : v / 128 < 128 ^ (k + 1) := Nat.div_lt_of_lt_mul (by rw [Nat.pow_succ] at h; omega)
      have := ih _ this
      simp; omega
theorem putL_length9 (v : Nat) (h : v < 4611686018427387904) : (putL v).length ≤ 9 := putL_length 8 v (Nat.lt_trans h (by decide))

def getGo : List UInt8 → Nat → Nat → Option (Nat × Nat)
  | [], _, _ => none
  | c :: t, n, v =>
    if 9 ≤ n ∨ (n = 8 ∧ 63 < c.toNat) then none
    else if c.toNat < 128 then (if n = 0 ∨ 0 < c.toNat then some (v + c.toNat % 128 * 128 ^ n, n + 1) else none)
    else getGo t (n + 1) (v + c.toNat % 128 * 128 ^ n)
def getL (bs : List UInt8) : Option (Nat × Nat) := getGo bs 0 0

theorem pow128 (n : Nat) (h : 9 ≤ n) : 9223372036854775808 ≤ 128 ^ n := by
  have : 128 ^ 9 ≤ 128 ^ n := Nat.pow_le_pow_right (by omega) h
  simpa using this
theorem pow128_8 (n : Nat) (h : 8 ≤ n) : 72057594037927936 ≤ 128 ^ n := by
  have : 128 ^ 8 ≤ 128 ^ n := Nat.pow_le_pow_right (by omega) h
  simpa using this

theorem ofNat_toNat (v : Nat) (h : v < 256) : (UInt8.ofNat v).toNat = v := by simp; omega

theorem getGo_put (x : Nat) : ∀ (rest : List UInt8) (n v : Nat), x * 128 ^ n < 4611686018427387904 → (n = 0 ∨ 0 < x) → getGo (putL x ++ rest) n v = some (v + x * 128 ^ n, n + (putL x).length) := by
  induction x using Nat.strongRecOn with
  | _ x ih =>
    intro rest n v hx hn
    by_cases h : x < 128
    · rw [putL_small x h]
      simp only [List.cons_append, List.nil_append, getGo]
      rw [ofNat_toNat x (by omega)]
      have h1 : ¬ (9 ≤ n ∨ (n = 8 ∧ 63 < x)) := by
        rintro (h9 | ⟨rfl, h8⟩)
        · have := pow128 n h9
          rcases hn with rfl | hp
          · omega
          · have : 1 * 128 ^ n ≤ x * 128 ^ n := Nat.mul_le_mul_right _ hp
            omega
        · omega
      rw [if_neg h1, if_pos h, if_pos hn, Nat.mod_eq_of_lt h]
      simp
    · rw [putL_big x h]
      simp only [List.cons_append, getGo]
      rw [ofNat_toNat _ (by omega)]
      have h1 : ¬ (9 ≤ n ∨ (n = 8 ∧ 63 < 128 + x % 128)) := by
        intro hh
        have h8 : 8 ≤ n := by omega
        have := pow128_8 n h8
        have : 128 * 128 ^ n ≤ x * 128 ^ n := Nat.mul_le_mul_right _ (by omega)
        omega
      have e := Nat.div_add_mod x 128
      have key : x / 128 * 128 ^ (n + 1) + x % 128 * 128 ^ n = x * 128 ^ n := by rw [Nat.pow_succ]; grind
      rw [if_neg h1, if_neg (by omega), ih (x / 128) (by omega) rest (n + 1) _ (by omega) (by omega)]
      have e2 : (128 + x % 128) % 128 = x % 128 := by omega
      rw [e2]
      simp only [List.length_cons, Option.some.injEq, Prod.mk.injEq]
      omega

theorem getGo_inv (bs : List UInt8) : ∀ (n v v' n' : Nat), getGo bs n v = some (v', n') →
    ∃ x, bs.take (n' - n) = putL x ∧ v' = v + x * 128 ^ n ∧ (n = 0 ∨ 0 < x) ∧ x * 128 ^ n < 4611686018427387904 ∧ n' = n + (putL x).length := by
  induction bs with
  | nil => intro n v v' n' h; simp [getGo] at h
  | cons c t ih =>
    intro n v v' n' h
    rw [getGo] at h
    have hc : c.toNat < 256 := c.toNat_lt
    split at h
    · cases h
    · rename_i h1
      split at h
      · rename_i h2
        split at h
        · rename_i h3
          simp only [Option.some.injEq, Prod.mk.injEq] at h
          obtain ⟨rfl, rfl⟩ := h
          have hp : putL c.toNat = [c] := by rw [putL_small _ h2]; simp
          refine ⟨c.toNat, ?_, by rw [Nat.mod_eq_of_lt h2], h3, ?_, by rw [hp]; rfl⟩
          · rw [hp]; simp
          · by_cases h8 : n = 8
            · subst h8; omega
            · have : 128 ^ n ≤ 128 ^ 7 := Nat.pow_le_pow_right (by omega) (by omega)
              have : c.toNat * 128 ^ n ≤ 127 * 128 ^ 7 := Nat.mul_le_mul (by omega) this
              omega
        · cases h
      · rename_i h2
        obtain ⟨x, h3, rfl, h4, h5, h6⟩ := ih _ _ _ _ h
        have h4' : 0 < x := by omega
        have hp : putL (x * 128 + c.toNat % 128) = c :: putL x := by
          rw [putL_big _ (by omega)]
          have e1 : (x * 128 + c.toNat % 128) % 128 = c.toNat % 128 := by omega
          have e2 : (x * 128 + c.toNat % 128) / 128 = x := by omega
          have e3 : 128 + c.toNat % 128 = c.toNat := by omega
          rw [e1, e2, e3]; simp
        refine ⟨x * 128 + c.toNat % 128, ?_, ?_, Or.inr (by omega), ?_, ?_⟩
        · rw [hp]
          have : n' - n = (n' - (n + 1)) + 1 := by omega
          rw [this, List.take_succ_cons, h3]
        · rw [Nat.pow_succ]; grind
        · by_cases h7 : n ≤ 7
          · have hq : x * 128 ^ n * 128 < 4611686018427387904 := by rw [Nat.pow_succ] at h5; grind
            have hq2 : x * 128 ^ n < 36028797018963968 := by omega
            have e : (x * 128 + c.toNat % 128) * 128 ^ n = x * 128 ^ n * 128 + c.toNat % 128 * 128 ^ n := by grind
            rw [e]
            -- the digits below
            have hP : 0 < 128 ^ n := Nat.pow_pos (by omega)
            have hr : c.toNat % 128 * 128 ^ n < 128 ^ (n + 1) := by
              rw [Nat.pow_succ, Nat.mul_comm (128 ^ n)]
              exact Nat.mul_lt_mul_of_pos_right (by omega) hP
            have hd : 128 ^ (n + 1) ∣ 4611686018427387904 := by
              have : (4611686018427387904 : Nat) = 128 ^ 8 * 64 := by decide
              rw [this]
              exact Nat.dvd_trans (Nat.pow_dvd_pow 128 (by omega)) (Nat.dvd_mul_right _ _)
            obtain ⟨q, hq3⟩ := hd
            have e4 : x * 128 ^ n * 128 = 128 ^ (n + 1) * x := by rw [Nat.pow_succ]; grind
            have hxq : x < q := by
              rw [hq3, e4] at hq
              exact Nat.lt_of_mul_lt_mul_left hq
            have : 128 ^ (n + 1) * (x + 1) ≤ 128 ^ (n + 1) * q := Nat.mul_le_mul_left _ hxq
            rw [e4]
            rw [Nat.mul_add, Nat.mul_one] at this
            omega
          · exfalso
            have h8 : n = 8 := by omega
            subst h8
            omega
        · rw [hp, List.length_cons]; omega

theorem getL_put (x : Nat) (rest : List UInt8) (h : x < 4611686018427387904) : getL (putL x ++ rest) = some (x, (putL x).length) := by
  have := getGo_put x rest 0 0 (by simpa using h) (Or.inl rfl)
  simpa [getL] using this
theorem getL_inv {bs : List UInt8} {v n : Nat} (h : getL bs = some (v, n)) : bs.take n = putL v ∧ v < 4611686018427387904 ∧ n = (putL v).length := by
  obtain ⟨x, h1, h2, h3, h4, h5⟩ := getGo_inv bs 0 0 v n h
  have e : v = x := by simpa using h2
  subst e
  simp at h1 h4 h5
  exact ⟨h1, h4, h5⟩
theorem getL_le {bs : List UInt8} {v n : Nat} (h : getL bs = some (v, n)) : n ≤ bs.length ∧ n ≤ 9 ∧ 1 ≤ n := by
  obtain ⟨h1, h2, h3⟩ := getL_inv h
  have := putL_length9 v h2
  have := putL_pos v
  have : (bs.take n).length = n := by rw [h1, h3]
  rw [List.length_take] at this
  omega
end Go.Proofs.YtefhmbnhhkgifaaDoor

namespace Go.Proofs.YtefhmbnhhkgifaaDoor
open Go
set_option linter.unusedVariables false

/-- The number that v stands for. -/
def sgn (v : Nat) : Int := if v % 2 = 1 then -(((v + 1) / 2 : Nat) : Int) else ((v / 2 : Nat) : Int)
/-- Reading a document's bytes, in plain words: what was read and what is left; none where they do not go on. -/
def rdN (most : Nat) (bs : List UInt8) : Option (Nat × List UInt8) := match getL bs with
  | none => none
  | some (v, s) => if v ≤ most then some (v, bs.drop s) else none
def rdT (bs : List UInt8) : Option (List UInt8 × List UInt8) := match rdN 65536 bs with
  | none => none
  | some (n, r) => if n ≤ r.length then some (r.take n, r.drop n) else none
def rdTs : Nat → List UInt8 → Option (List (List UInt8) × List UInt8)
  | 0, bs => some ([], bs)
  | k + 1, bs => match rdT bs with
    | none => none
    | some (t, r) => match rdTs k r with
      | none => none
      | some (ts, r') => some (t :: ts, r')
def rdZs : Nat → List UInt8 → Option (List Int × List UInt8)
  | 0, bs => some ([], bs)
  | k + 1, bs => match rdN 2000000000000 bs with
    | none => none
    | some (v, r) => match rdZs k r with
      | none => none
      | some (zs, r') => some (sgn v :: zs, r')
def rdV (bs : List UInt8) : Option ((List UInt8 × List (List UInt8) × List Int) × List UInt8) := match rdT bs with
  | none => none
  | some (f, r1) => match rdN 4096 r1 with
    | none => none
    | some (n, r2) => match rdTs n r2 with
      | none => none
      | some (tx, r3) => match rdN 4096 r3 with
        | none => none
        | some (m, r4) => match rdZs m r4 with
          | none => none
          | some (zs, r5) => some ((f, tx, zs), r5)
def rdVs : Nat → List UInt8 → Option (List (List UInt8 × List (List UInt8) × List Int) × List UInt8)
  | 0, bs => some ([], bs)
  | k + 1, bs => match rdV bs with
    | none => none
    | some (v, r) => match rdVs k r with
      | none => none
      | some (vs, r') => some (v :: vs, r')
def rdD (bs : List UInt8) : Option ((List UInt8 × List (List UInt8 × List (List UInt8) × List Int)) × List UInt8) := match rdT bs with
  | none => none
  | some (i, r1) => match rdN 4096 r1 with
    | none => none
    | some (n, r2) => match rdVs n r2 with
      | none => none
      | some (V, r3) => some ((i, V), r3)
/-- The document that these bytes are. -/
def readO (bs : List UInt8) : Option (List UInt8 × List (List UInt8 × List (List UInt8) × List Int)) := match rdD bs with
  | some (d, []) => some d
  | _ => none
theorem rdN_len {most : Nat} {bs : List UInt8} {v : Nat} {r : List UInt8} (h : rdN most bs = some (v, r)) : r.length < bs.length ∧ v ≤ most := by
  unfold rdN at h
  cases hg : getL bs with
  | none => rw [hg] at h; simp at h
  | some p =>
    obtain ⟨v', s⟩ := p
    rw [hg] at h
    have hs := getL_le hg
    simp only at h
    split at h
    · rename_i hle
      simp only [Option.some.injEq, Prod.mk.injEq] at h
      obtain ⟨rfl, rfl⟩ := h
      exact ⟨by rw [List.length_drop]; omega, hle⟩
    · simp at h
theorem rdT_len {bs t r : List UInt8} (h : rdT bs = some (t, r)) : r.length + t.length < bs.length ∧ t.length ≤ 65536 := by
  unfold rdT at h
  cases hg : rdN 65536 bs with
  | none => rw [hg] at h; simp at h
  | some p =>
    obtain ⟨n, r'⟩ := p
    rw [hg] at h
    have hs := rdN_len hg
    simp only at h
    split at h
    · rename_i hle
      simp only [Option.some.injEq, Prod.mk.injEq] at h
      obtain ⟨rfl, rfl⟩ := h
      simp only [List.length_drop, List.length_take]
      omega
    · simp at h
theorem rdTs_len : ∀ (k : Nat) {bs : List UInt8} {ts : List (List UInt8)} {r : List UInt8}, rdTs k bs = some (ts, r) → ts.length = k ∧ r.length ≤ bs.length ∧ ∀ t ∈ ts, t.length ≤ 65536
  | 0, bs, ts, r, h => by simp only [rdTs, Option.some.injEq, Prod.mk.injEq] at h; obtain ⟨rfl, rfl⟩ := h; simp
  | k + 1, bs, ts, r, h => by
    simp only [rdTs] at h
    cases h1 : rdT bs with
    | none => rw [h1] at h; simp at h
    | some p =>
      obtain ⟨t, r1⟩ := p
      rw [h1] at h
      simp only at h
      cases h2 : rdTs k r1 with
      | none => rw [h2] at h; simp at h
      | some q =>
        obtain ⟨ts', r2⟩ := q
        rw [h2] at h
        simp only [Option.some.injEq, Prod.mk.injEq] at h
        obtain ⟨rfl, rfl⟩ := h
        have a := rdT_len h1
        have b := rdTs_len k h2
        refine ⟨by simp [b.1], by omega, fun t' ht => ?_⟩
        rcases List.mem_cons.1 ht with rfl | ht
        · omega
        · exact b.2.2 t' ht
theorem rdZs_len : ∀ (k : Nat) {bs : List UInt8} {ts : List Int} {r : List UInt8}, rdZs k bs = some (ts, r) → ts.length = k ∧ r.length ≤ bs.length
  | 0, bs, ts, r, h => by simp only [rdZs, Option.some.injEq, Prod.mk.injEq] at h; obtain ⟨rfl, rfl⟩ := h; simp
  | k + 1, bs, ts, r, h => by
    simp only [rdZs] at h
    cases h1 : rdN 2000000000000 bs with
    | none => rw [h1] at h; simp at h
    | some p =>
      obtain ⟨t, r1⟩ := p
      rw [h1] at h
      simp only at h
      cases h2 : rdZs k r1 with
      | none => rw [h2] at h; simp at h
      | some q =>
        obtain ⟨ts', r2⟩ := q
        rw [h2] at h
        simp only [Option.some.injEq, Prod.mk.injEq] at h
        obtain ⟨rfl, rfl⟩ := h
        have a := rdN_len h1
        have b := rdZs_len k h2
        exact ⟨by simp [b.1], by omega⟩
end Go.Proofs.YtefhmbnhhkgifaaDoor
