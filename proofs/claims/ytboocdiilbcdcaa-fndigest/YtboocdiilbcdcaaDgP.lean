import Derived.Test.YtboocdiilbcdcaaPlain
namespace Go.Proofs.Ytboocdiilbcdcaa
open Go
set_option linter.unusedVariables false

/-! Digests, plain. -/
def DgHd (s p c : Int) (n : Nat) : Prop := 1 ≤ s ∧ s ≤ 4096 ∧ 1 ≤ p ∧ p ≤ 4096 ∧ 0 ≤ c ∧ c ≤ 4611686018427387903 ∧ n ≤ 512 ∧ (n : Int) ≤ c ∧ (c + s - 1) / s ≤ (n : Int) ∧ (n : Int) ≤ (c + p * (s - 1)) / s
def NumZ (x : Int) : Prop := -1000000000000 ≤ x ∧ x ≤ 1000000000000
def PtN (zs : List Int) : Prop := ∀ i, i < zs.length → NumZ (zs.getD i 0)
def PtS (zs : List Int) : Prop := ∀ i, i + 1 < zs.length → zs.getD i 0 ≤ zs.getD (i + 1) 0
def DgOK (s p c : Int) (zs : List Int) : Prop := DgHd s p c zs.length ∧ PtN zs ∧ PtS zs
open Classical in
noncomputable def dgB (s p c : Int) (zs : List Int) : Bool := decide (DgOK s p c zs)
theorem dgB_t {s p c : Int} {zs : List Int} (h : DgOK s p c zs) : dgB s p c zs = true := by unfold dgB; simpa using h
theorem dgB_f {s p c : Int} {zs : List Int} (h : ¬ DgOK s p c zs) : dgB s p c zs = false := by unfold dgB; simpa using h
theorem dgB_ok {s p c : Int} {zs : List Int} (h : dgB s p c zs = true) : DgOK s p c zs := by unfold dgB at h; simpa using h
/-- The numbers that both come by. -/
theorem dg_nums (s p c : Nat) (hs : 1 ≤ s) (hs2 : s ≤ 4096) (hp2 : p ≤ 4096) : ∃ m q r L U : Nat, (p : Int) * ((s : Int) - 1) = (m : Int) ∧ m ≤ 16773120 ∧ (c : Int) / (s : Int) = (q : Int) ∧ (c : Int) % (s : Int) = (r : Int) ∧ q ≤ c ∧ (0 < r → L = q + 1) ∧ (r = 0 → L = q) ∧
    ((c : Int) + (s : Int) - 1) / (s : Int) = (L : Int) ∧ ((c : Int) + (m : Int)) / (s : Int) = (U : Int) := by
  refine ⟨p * (s - 1), c / s, c % s, (c + s - 1) / s, (c + p * (s - 1)) / s, ?_, ?_, by simp, by simp, Nat.div_le_self _ _, ?_, ?_, ?_, by simp⟩
  · rw [Int.natCast_mul]; congr 1; omega
  · exact Nat.le_trans (Nat.mul_le_mul hp2 (show s - 1 ≤ 4095 by omega)) (by omega)
  · intro h
    have h1 : c = s * (c / s) + c % s := (Nat.div_add_mod c s).symm
    have h2 : c % s < s := Nat.mod_lt _ (by omega)
    generalize c / s = q at *
    generalize c % s = r at *
    have e : c + s - 1 = (r - 1) + s * (q + 1) := by rw [Nat.mul_add]; omega
    rw [e, Nat.add_mul_div_left _ _ (by omega), Nat.div_eq_of_lt (by omega), Nat.zero_add]
  · intro h
    have h1 : c = s * (c / s) + c % s := (Nat.div_add_mod c s).symm
    generalize c / s = q at *
    generalize c % s = r at *
    have e : c + s - 1 = (s - 1) + s * q := by omega
    rw [e, Nat.add_mul_div_left _ _ (by omega), Nat.div_eq_of_lt (by omega), Nat.zero_add]
  · have e : (c : Int) + (s : Int) - 1 = ((c + s - 1 : Nat) : Int) := by omega
    rw [e]; simp
/-- Of a header within its bounds. -/
theorem dgHd_iff (s p c n m L U : Nat) (hs : 1 ≤ s) (hs2 : s ≤ 4096) (hp : 1 ≤ p) (hp2 : p ≤ 4096) (hc2 : c ≤ 4611686018427387903) (hm : (p : Int) * ((s : Int) - 1) = (m : Int)) (hL : ((c : Int) + (s : Int) - 1) / (s : Int) = (L : Int)) (hU : ((c : Int) + (m : Int)) / (s : Int) = (U : Int)) :
    DgHd (s : Int) (p : Int) (c : Int) n ↔ (n ≤ 512 ∧ n ≤ c ∧ L ≤ n ∧ n ≤ U) := by
  unfold DgHd
  rw [hm, hL, hU]
  omega
end Go.Proofs.Ytboocdiilbcdcaa
