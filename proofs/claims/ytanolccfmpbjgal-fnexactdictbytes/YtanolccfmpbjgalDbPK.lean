import Derived.Test.YtanolccfmpbjgalDfHK
import Derived.Test.YtanolccfmpbjgalPkB1K
import Derived.Test.YtanolccfmpbjgalSumAK
namespace Go.Proofs.Ytanolccfmpbjgal
open Go Go.RowKit
set_option linter.unusedVariables false

/-! The bytes of a dictionary, in plain words. -/
def arB (a : Ar) : List UInt8 := UInt8.ofNat a.1.toNat :: putL a.2.1.toNat
def stB (s : St) : List UInt8 := putL (2 * s.2.length + (if s.1 then 1 else 0)) ++ s.2.flatMap arB
def dB (S : List St) : List UInt8 := putL S.length ++ S.flatMap stB
def four (n : Nat) : List UInt8 := [UInt8.ofNat (n / 16777216), UInt8.ofNat (n / 65536 % 256), UInt8.ofNat (n / 256 % 256), UInt8.ofNat (n % 256)]
def bytesD (S : List St) : List UInt8 := dB S ++ four (sumL (dB S))
/-- What DictBytes tells. -/
def bytesO (S : List St) (d : Option (List Tx)) : List UInt8 × Int := match d with
  | none => ([], 1)
  | some _ => (bytesD S, 0)
theorem sumL_lt (bs : List UInt8) : sumL bs < 4294967296 := by
  unfold sumL
  split
  · omega
  · exact sumG_lt bs
/-- A text so far. -/
def preB (S : List St) (k : Nat) : List UInt8 := putL S.length ++ (S.take k).flatMap stB
def midB (S : List St) (k : Nat) (l : List Ar) (n j : Nat) : List UInt8 := preB S k ++ putL n ++ (l.take j).flatMap arB
theorem preB_zero (S : List St) : preB S 0 = putL S.length := by simp [preB]
theorem preB_all (S : List St) : preB S S.length = dB S := by simp [preB, dB]
theorem take_st {S : List St} {k : Nat} (h : k < S.length) : S.take (k + 1) = S.take k ++ [S.getD k st0] := by
  rw [List.take_succ_eq_append_getElem h]; simp [h]
theorem take_ar {l : List Ar} {k : Nat} (h : k < l.length) : l.take (k + 1) = l.take k ++ [l.getD k ar0] := by
  rw [List.take_succ_eq_append_getElem h]; simp [h]
theorem midB_zero (S : List St) (k : Nat) (l : List Ar) (n : Nat) : midB S k l n 0 = preB S k ++ putL n := by simp [midB]
theorem midB_step {S : List St} {k : Nat} {l : List Ar} {n j : Nat} (h : j < l.length) : midB S k l n (j + 1) = midB S k l n j ++ [UInt8.ofNat (l.getD j ar0).1.toNat] ++ putL (l.getD j ar0).2.1.toNat := by
  unfold midB
  rw [take_ar h]
  simp [arB, List.append_assoc]
theorem midB_all {S : List St} {k : Nat} (h : k < S.length) : midB S k (S.getD k st0).2 (2 * (S.getD k st0).2.length + (if (S.getD k st0).1 then 1 else 0)) (S.getD k st0).2.length = preB S (k + 1) := by
  unfold midB preB
  rw [take_st h]
  simp [stB, List.append_assoc]
theorem arB_len (a : Ar) (h : a.2.1.toNat < 4611686018427387904) : (arB a).length ≤ 10 := by
  have := putL_length9 a.2.1.toNat h
  simp [arB]; omega
theorem arcs_len : ∀ {l : List Ar}, (∀ a ∈ l, a.2.1.toNat < 4611686018427387904) → (l.flatMap arB).length ≤ l.length * 10
  | [], _ => by simp
  | a :: t, h => by
    have h1 := arB_len a (h a (by simp))
    have h2 := arcs_len (l := t) (fun x hx => h x (by simp [hx]))
    simp only [List.flatMap_cons, List.length_append, List.length_cons]
    omega
theorem stB_len (s : St) (h0 : s.2.length ≤ 256) (h : ∀ a ∈ s.2, a.2.1.toNat < 4611686018427387904) : (stB s).length ≤ 2600 := by
  have h1 := arcs_len h
  have h2 := putL_length9 (2 * s.2.length + (if s.1 then 1 else 0)) (by split <;> omega)
  simp only [stB, List.length_append]
  omega
theorem sts_len : ∀ {S : List St}, (∀ s ∈ S, s.2.length ≤ 256 ∧ ∀ a ∈ s.2, a.2.1.toNat < 4611686018427387904) → (S.flatMap stB).length ≤ S.length * 2600
  | [], _ => by simp
  | s :: t, h => by
    have h1 := stB_len s (h s (by simp)).1 (h s (by simp)).2
    have h2 := sts_len (S := t) (fun x hx => h x (by simp [hx]))
    simp only [List.flatMap_cons, List.length_append, List.length_cons]
    omega
/-- The states of a dictionary are small. -/
theorem IsDict.small {c : Int} {S : List St} {ts : List Tx} (h : IsDict (c, S) ts) : Fine S := by
  by_cases e : ts = []
  · subst e
    have e2 := (Prod.mk.inj (IsDict.none.1 h)).2
    intro i hi
    rw [e2] at hi ⊢
    have : i = 0 := by simp at hi; omega
    subst this
    exact ⟨by simp [arcsAt], fun a ha => by simp [arcsAt] at ha⟩
  · exact h.fine e
theorem fine_sts {S : List St} (h : Fine S) (hn : S.length ≤ 16384) : ∀ s ∈ S, s.2.length ≤ 256 ∧ ∀ a ∈ s.2, a.2.1.toNat < 4611686018427387904 := fun s hs => by
  obtain ⟨i, hi, rfl⟩ := List.getElem_of_mem hs
  have e : arcsAt S i = S[i].2 := by simp [arcsAt, hi]
  have := h i hi
  rw [e] at this
  exact ⟨this.1, fun a ha => by have := (this.2 a ha).2.2.2; omega⟩
theorem preB_len {S : List St} (h : Fine S) (hn : S.length ≤ 16384) (k : Nat) : (preB S k).length ≤ 50000000 := by
  have h1 := sts_len (S := S.take k) (fun s hs => fine_sts h hn s (List.mem_of_mem_take hs))
  have h2 := putL_length9 S.length (by omega)
  have h3 : (S.take k).length ≤ S.length := by rw [List.length_take]; exact Nat.min_le_right _ _
  have h4 : (S.take k).length * 2600 ≤ 16384 * 2600 := Nat.mul_le_mul_right _ (by omega)
  simp only [preB, List.length_append]
  omega
theorem midB_len {S : List St} (h : Fine S) (hn : S.length ≤ 16384) {k : Nat} {l : List Ar} (hl : l.length ≤ 256) (ha : ∀ a ∈ l, a.2.1.toNat < 4611686018427387904) {n : Nat} (hn2 : n < 4611686018427387904) (j : Nat) : (midB S k l n j).length ≤ 60000000 := by
  have h1 := preB_len h hn k
  have h2 := arcs_len (l := l.take j) (fun a hx => ha a (List.mem_of_mem_take hx))
  have h3 : (l.take j).length ≤ l.length := by rw [List.length_take]; exact Nat.min_le_right _ _
  have h4 := putL_length9 n hn2
  simp only [midB, List.length_append]
  omega
end Go.Proofs.Ytanolccfmpbjgal
