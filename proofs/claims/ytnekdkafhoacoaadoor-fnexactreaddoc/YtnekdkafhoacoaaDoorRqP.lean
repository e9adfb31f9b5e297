import Derived.Test.YtnekdkafhoacoaaDoorPkP
namespace Go.Proofs.YtnekdkafhoacoaaDoor
open Go
set_option linter.unusedVariables false

/-- The number that v stands for. -/
def sgn (v : Nat) : Int := if v % 2 = 1 then -(((v + 1) / 2 : Nat) : Int) else ((v / 2 : Nat) : Int)
/-- Reading a document's bytes, in plain words: what was read and what is left; none where they do not go on. -/
def rdN (most : Nat) (bs : List UInt8) : Option (Nat × List UInt8) := match getL bs with
  | none => none
  | some (v, s) => if v ≤ most then some (v, bs.drop s) else none
def rdT (bs : List UInt8) : Option (List UInt8 × List UInt8) := match rdN 65536 bs with
  | none => none
  | some (n, r) => if n ≤ r.length then some (r.take n, r.drop n) else none
def rdTs : Nat → List UInt8 → Option (List (List UInt8) × List UInt8)
  | 0, bs => some ([], bs)
  | k + 1, bs => match rdT bs with
    | none => none
    | some (t, r) => match rdTs k r with
      | none => none
      | some (ts, r') => some (t :: ts, r')
def rdZs : Nat → List UInt8 → Option (List Int × List UInt8)
  | 0, bs => some ([], bs)
  | k + 1, bs => match rdN 2000000000000 bs with
    | none => none
    | some (v, r) => match rdZs k r with
      | none => none
      | some (zs, r') => some (sgn v :: zs, r')
def rdV (bs : List UInt8) : Option ((List UInt8 × List (List UInt8) × List Int) × List UInt8) := match rdT bs with
  | none => none
  | some (f, r1) => match rdN 4096 r1 with
    | none => none
    | some (n, r2) => match rdTs n r2 with
      | none => none
      | some (tx, r3) => match rdN 4096 r3 with
        | none => none
        | some (m, r4) => match rdZs m r4 with
          | none => none
          | some (zs, r5) => some ((f, tx, zs), r5)
def rdVs : Nat → List UInt8 → Option (List (List UInt8 × List (List UInt8) × List Int) × List UInt8)
  | 0, bs => some ([], bs)
  | k + 1, bs => match rdV bs with
    | none => none
    | some (v, r) => match rdVs k r with
      | none => none
      | some (vs, r') => some (v :: vs, r')
def rdD (bs : List UInt8) : Option ((List UInt8 × List (List UInt8 × List (List UInt8) × List Int)) × List UInt8) := match rdT bs with
  | none => none
  | some (i, r1) => match rdN 4096 r1 with
    | none => none
    | some (n, r2) => match rdVs n r2 with
      | none => none
      | some (V, r3) => some ((i, V), r3)
/-- The document that these bytes are. -/
def readO (bs : List UInt8) : Option (List UInt8 × List (List UInt8 × List (List UInt8) × List Int)) := match rdD bs with
  | some (d, []) => some d
  | _ => none
theorem rdN_len {most : Nat} {bs : List UInt8} {v : Nat} {r : List UInt8} (h : rdN most bs = some (v, r)) : r.length < bs.length ∧ v ≤ most := by
  unfold rdN at h
  cases hg : getL bs with
  | none => rw [hg] at h; simp at h
  | some p =>
    obtain ⟨v', s⟩ := p
    rw [hg] at h
    have hs := getL_le hg
    simp only at h
    split at h
    · rename_i hle
      simp only [Option.some.injEq, Prod.mk.injEq] at h
      obtain ⟨rfl, rfl⟩ := h
      exact ⟨by rw [List.length_drop]; omega, hle⟩
    · simp at h
theorem rdT_len {bs t r : List UInt8} (h : rdT bs = some (t, r)) : r.length + t.length < bs.length ∧ t.length ≤ 65536 := by
  unfold rdT at h
  cases hg : rdN 65536 bs with
  | none => rw [hg] at h; simp at h
  | some p =>
    obtain ⟨n, r'⟩ := p
    rw [hg] at h
    have hs := rdN_len hg
    simp only at h
    split at h
    · rename_i hle
      simp only [Option.some.injEq, Prod.mk.injEq] at h
      obtain ⟨rfl, rfl⟩ := h
      simp only [List.length_drop, List.length_take]
      omega
    · simp at h
theorem rdTs_len : ∀ (k : Nat) {bs : List UInt8} {ts : List (List UInt8)} {r : List UInt8}, rdTs k bs = some (ts, r) → ts.length = k ∧ r.length ≤ bs.length ∧ ∀ t ∈ ts, t.length ≤ 65536
  | 0, bs, ts, r, h => by simp only [rdTs, Option.some.injEq, Prod.mk.injEq] at h; obtain ⟨rfl, rfl⟩ := h; simp
  | k + 1, bs, ts, r, h => by
    simp only [rdTs] at h
    cases h1 : rdT bs with
    | none => rw [h1] at h; simp at h
    | some p =>
      obtain ⟨t, r1⟩ := p
      rw [h1] at h
      simp only at h
      cases h2 : rdTs k r1 with
      | none => rw [h2] at h; simp at h
      | some q =>
        obtain ⟨ts', r2⟩ := q
        rw [h2] at h
        simp only [Option.some.injEq, Prod.mk.injEq] at h
        obtain ⟨rfl, rfl⟩ := h
        have a := rdT_len h1
        have b := rdTs_len k h2
        refine ⟨by simp [b.1], by omega, fun t' ht => ?_⟩
        rcases List.mem_cons.1 ht with rfl | ht
        · omega
        · exact b.2.2 t' ht
theorem rdZs_len : ∀ (k : Nat) {bs : List UInt8} {ts : List Int} {r : List UInt8}, rdZs k bs = some (ts, r) → ts.length = k ∧ r.length ≤ bs.length
  | 0, bs, ts, r, h => by simp only [rdZs, Option.some.injEq, Prod.mk.injEq] at h; obtain ⟨rfl, rfl⟩ := h; simp
  | k + 1, bs, ts, r, h => by
    simp only [rdZs] at h
    cases h1 : rdN 2000000000000 bs with
    | none => rw [h1] at h; simp at h
    | some p =>
      obtain ⟨t, r1⟩ := p
      rw [h1] at h
      simp only at h
      cases h2 : rdZs k r1 with
      | none => rw [h2] at h; simp at h
      | some q =>
        obtain ⟨ts', r2⟩ := q
        rw [h2] at h
        simp only [Option.some.injEq, Prod.mk.injEq] at h
        obtain ⟨rfl, rfl⟩ := h
        have a := rdN_len h1
        have b := rdZs_len k h2
        exact ⟨by simp [b.1], by omega⟩
end Go.Proofs.YtnekdkafhoacoaaDoor
