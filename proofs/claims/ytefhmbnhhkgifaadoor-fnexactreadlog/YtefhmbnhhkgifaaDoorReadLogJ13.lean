import Derived.Test.YtefhmbnhhkgifaaDoorReadLogJ12
import Derived.Test.YtefhmbnhhkgifaaDoorReadLogJ03
namespace Go.Proofs.YtefhmbnhhkgifaaDoor
open Go
set_option linter.unusedVariables false
set_option linter.unusedSimpArgs false

/-- The record with which the bytes begin, whatever its number. -/
def recN (bs : List UInt8) : Option (Rc × List UInt8) := match rdN 1048576 bs with
  | none => none
  | some (n, r) => if n + 4 ≤ r.length ∧ four (sumL (r.take n)) = (r.drop n).take 4 then (match partR (r.take n) with
      | none => none
      | some x => some (x, r.drop (n + 4)))
    else none
theorem nextR_no {bs : List UInt8} (h : recN bs = none) (seq : Nat) : nextR bs seq = none := by
  unfold recN at h
  unfold nextR
  cases h1 : rdN 1048576 bs with
  | none => rfl
  | some p =>
    obtain ⟨n, r⟩ := p
    rw [h1] at h
    simp only at h ⊢
    split at h
    · rename_i h2
      rw [if_pos h2]
      split at h
      · rename_i h3; rw [h3]
      · simp at h
    · rename_i h2
      rw [if_neg h2]
theorem nextR_yes {bs r : List UInt8} {x : Rc} (h : recN bs = some (x, r)) (seq : Nat) : nextR bs seq = if x.2.1 = (seq : Int) then some (x, r) else none := by
  unfold recN at h
  unfold nextR
  cases h1 : rdN 1048576 bs with
  | none => rw [h1] at h; simp at h
  | some p =>
    obtain ⟨n, r'⟩ := p
    rw [h1] at h
    simp only at h ⊢
    split at h
    · rename_i h2
      rw [if_pos h2]
      split at h
      · simp at h
      · rename_i x' h3
        simp only [Option.some.injEq, Prod.mk.injEq] at h
        obtain ⟨rfl, rfl⟩ := h
        rw [h3]
    · simp at h
def nxK : List UInt8 → Nat
  | [] => 0
  | x :: _ => x.toNat
def nxR : List UInt8 → List UInt8
  | [] => []
  | _ :: q => q
def nxS : List UInt8 → Bool
  | [] => true
  | _ :: _ => false
theorem nxR_len (p : List UInt8) : (nxR p).length ≤ p.length := by cases p <;> simp [nxR]
theorem readO_nil : readO [] = none := rfl
theorem numR_len (most : Nat) (bs : List UInt8) (sh : Bool) : (numR most bs sh).2.1.length ≤ bs.length := by
  unfold numR
  split
  · simp
  · split
    · simp
    · simp
theorem partR_put (p : List UInt8) (h : nxK p = 1) : partR p = match readO (numR 4611686018427387903 (nxR p) (nxS p)).2.1 with
    | none => none
    | some d => if rcOK (1, (numR 4611686018427387903 (nxR p) (nxS p)).1, [], d) then some (1, (numR 4611686018427387903 (nxR p) (nxS p)).1, [], d) else none := by
  cases p with
  | nil => simp [nxK] at h
  | cons k q =>
    simp only [nxK] at h
    simp only [nxR, nxS, partR]
    cases hg : getL q with
    | none => simp only [numR, hg, readO_nil]
    | some y =>
      obtain ⟨s, c⟩ := y
      have hi := (getL_inv hg).2.1
      have hs : s ≤ 4611686018427387903 := by omega
      simp only [numR, hg, if_pos hs, if_pos h]
      cases readO (List.drop c q) <;> rfl
theorem rcOK_zero (kd : Int) (id : List UInt8) (d : Dc) : rcOK (kd, 0, id, d) = false := by simp [rcOK, seqOK]
theorem partR_del (p : List UInt8) (h : nxK p ≠ 1) : partR p = if rcOK ((nxK p : Int), (numR 4611686018427387903 (nxR p) (nxS p)).1, (numR 4611686018427387903 (nxR p) (nxS p)).2.1, ([], [])) then some ((nxK p : Int), (numR 4611686018427387903 (nxR p) (nxS p)).1, (numR 4611686018427387903 (nxR p) (nxS p)).2.1, ([], [])) else none := by
  cases p with
  | nil => simp only [partR, nxK, nxR, nxS, numR, getL, getGo]; rw [rcOK_zero]; rfl
  | cons k q =>
    simp only [nxK] at h
    simp only [nxR, nxS, nxK, partR]
    cases hg : getL q with
    | none => simp only [numR, hg]; rw [rcOK_zero]; rfl
    | some y =>
      obtain ⟨s, c⟩ := y
      have hi := (getL_inv hg).2.1
      have hs : s ≤ 4611686018427387903 := by omega
      simp only [numR, hg, if_pos hs, if_neg h]
end Go.Proofs.YtefhmbnhhkgifaaDoor
