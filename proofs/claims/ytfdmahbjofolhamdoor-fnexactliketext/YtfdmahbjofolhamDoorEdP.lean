import Derived.Test.YtfdmahbjofolhamDoorPlain
namespace Go.Proofs.YtfdmahbjofolhamDoor
open Go

/-! The least number of changes, in plain words: over the characters from the last one on. -/
def ne1 (x y : Int) : Nat := if x = y then 0 else 1
def ed : List Int → List Int → Nat
  | [], b => b.length
  | a, [] => a.length
  | x :: a, y :: b => min (ed a b + ne1 x y) (min (ed a (y :: b) + 1) (ed (x :: a) b + 1))
termination_by a b => a.length + b.length
theorem ed_nil (b : List Int) : ed [] b = b.length := by rw [ed]
theorem ed_nil_right (a : List Int) : ed a [] = a.length := by cases a <;> simp [ed]
theorem ed_cons (x : Int) (a : List Int) (y : Int) (b : List Int) : ed (x :: a) (y :: b) = min (ed a b + ne1 x y) (min (ed a (y :: b) + 1) (ed (x :: a) b + 1)) := by rw [ed]
theorem ne1_le (x y : Int) : ne1 x y ≤ 1 := by unfold ne1; split <;> omega
theorem ne1_comm (x y : Int) : ne1 x y = ne1 y x := by
  unfold ne1
  by_cases h : x = y
  · rw [if_pos h, if_pos h.symm]
  · rw [if_neg h, if_neg (fun e => h e.symm)]
theorem ne1_tri (x y z : Int) : ne1 x z ≤ ne1 x y + ne1 y z := by
  simp only [ne1]
  by_cases h : x = y <;> by_cases h2 : y = z <;> simp_all
  split <;> omega
theorem ed_comm (a b : List Int) : ed a b = ed b a := by
  match a, b with
  | [], b => rw [ed_nil, ed_nil_right]
  | x :: a, [] => rw [ed_nil, ed_nil_right]
  | x :: a, y :: b =>
    rw [ed_cons, ed_cons, ed_comm a b, ed_comm a (y :: b), ed_comm (x :: a) b, ne1_comm x y]
    omega
termination_by a.length + b.length
/-- One character more at one side changes by at most one. -/
theorem ed_near (a b : List Int) : (∀ x, ed (x :: a) b ≤ ed a b + 1) ∧ (∀ x, ed a b ≤ ed (x :: a) b + 1) := by
  match a, b with
  | a, [] => simp only [ed_nil_right, List.length_cons]; exact ⟨fun _ => by omega, fun _ => by omega⟩
  | [], y :: b =>
    have h := ed_near [] b
    refine ⟨fun x => ?_, fun x => ?_⟩
    · rw [ed_cons]; omega
    · rw [ed_cons]
      have h1 := h.2 x
      simp only [ed_nil, List.length_cons] at h1 ⊢
      omega
  | z :: a, y :: b =>
    refine ⟨fun x => ?_, fun x => ?_⟩
    · rw [ed_cons x]; omega
    · have h1 := (ed_near (z :: a) b).2 x
      have h2 := (ed_near a (y :: b)).1 z
      have h3 := ed_cons z a y b
      rw [ed_cons x]
      omega
termination_by a.length + b.length
theorem ed_near_r (a b : List Int) : (∀ y, ed a (y :: b) ≤ ed a b + 1) ∧ (∀ y, ed a b ≤ ed a (y :: b) + 1) := by
  have h := ed_near b a
  refine ⟨fun y => ?_, fun y => ?_⟩
  · rw [ed_comm a, ed_comm a b]; exact h.1 y
  · rw [ed_comm a, ed_comm a (y :: b)]; exact h.2 y
theorem ed_same (x : Int) (a b : List Int) : ed (x :: a) (x :: b) = ed a b := by
  have h1 := (ed_near_r a b).2 x
  have h2 := (ed_near a b).2 x
  have h0 : ne1 x x = 0 := by simp [ne1]
  rw [ed_cons, h0]
  omega
theorem ed_other {x y : Int} (h : ¬ x = y) (a b : List Int) : ed (x :: a) (y :: b) = 1 + min (ed a b) (min (ed (x :: a) b) (ed a (y :: b))) := by
  have h0 : ne1 x y = 1 := by simp [ne1, h]
  rw [ed_cons, h0]
  omega
theorem ed_tri (a b c : List Int) : ed a c ≤ ed a b + ed b c := by
  match a, b, c with
  | [], b, c =>
    have : ∀ (b c : List Int), c.length ≤ b.length + ed b c := by
      intro b
      induction b with
      | nil => intro c; rw [ed_nil]; omega
      | cons y b ih =>
        intro c
        have h1 := ih c
        have h2 := (ed_near b c).2 y
        simp only [List.length_cons]
        omega
    rw [ed_nil, ed_nil]
    exact this b c
  | x :: a, b, [] =>
    have : ∀ (b a : List Int), a.length ≤ ed a b + b.length := by
      intro b
      induction b with
      | nil => intro a; rw [ed_nil_right]; omega
      | cons y b ih =>
        intro a
        have h1 := ih a
        have h2 := (ed_near_r a b).2 y
        simp only [List.length_cons]
        omega
    rw [ed_nil_right, ed_nil_right]
    exact this b (x :: a)
  | x :: a, [], z :: c =>
    have h1 := ed_tri a [] c
    have h2 := ne1_le x z
    rw [ed_cons]
    simp only [ed_nil, ed_nil_right, List.length_cons] at h1 ⊢
    omega
  | x :: a, y :: b, z :: c =>
    have t1 := ed_tri a b c
    have t2 := ed_tri a (y :: b) (z :: c)
    have t3 := ed_tri (x :: a) (y :: b) c
    have t4 := ed_tri a b (z :: c)
    have t5 := ed_tri (x :: a) b c
    have t6 := ed_tri (x :: a) b (z :: c)
    have h1 := ed_cons x a y b
    have h2 := ed_cons y b z c
    have h3 := ed_cons x a z c
    have h4 := ne1_tri x y z
    omega
termination_by a.length + b.length + c.length
theorem ed_self (a : List Int) : ed a a = 0 := by
  induction a with
  | nil => rw [ed_nil]; rfl
  | cons x a ih => rw [ed_same, ih]
theorem ed_zero (a b : List Int) (h : ed a b = 0) : a = b := by
  match a, b with
  | [], b => rw [ed_nil] at h; exact (List.length_eq_zero_iff.1 h).symm
  | x :: a, [] => rw [ed_nil_right] at h; simp at h
  | x :: a, y :: b =>
    by_cases e : x = y
    · subst e
      rw [ed_same] at h
      rw [ed_zero a b h]
    · rw [ed_other e] at h
      omega
termination_by a.length + b.length
theorem ed_le (a b : List Int) : ed a b ≤ a.length + b.length := by
  have := ed_tri a [] b
  rw [ed_nil, ed_nil_right] at this
  exact this

/-- Behind i characters of a: what makes the first k of b of them. -/
def edAt (a b : List Int) (i k : Nat) : Nat := ed (a.take i).reverse (b.take k).reverse
theorem edAt_zero_left (a b : List Int) (k : Nat) (h : k ≤ b.length) : edAt a b 0 k = k := by simp [edAt, ed_nil]; omega
theorem edAt_zero_right (a b : List Int) (i : Nat) (h : i ≤ a.length) : edAt a b i 0 = i := by simp [edAt, ed_nil_right]; omega
theorem rev_take (a : List Int) (i : Nat) (h : i < a.length) : (a.take (i + 1)).reverse = a.getD i 0 :: (a.take i).reverse := by
  rw [take_snoc a i h, List.reverse_append]
  rfl
theorem edAt_same (a b : List Int) (i k : Nat) (hi : i < a.length) (hk : k < b.length) (h : a.getD i 0 = b.getD k 0) : edAt a b (i + 1) (k + 1) = edAt a b i k := by
  rw [edAt, rev_take a i hi, rev_take b k hk, h, ed_same, edAt]
theorem edAt_other (a b : List Int) (i k : Nat) (hi : i < a.length) (hk : k < b.length) (h : ¬ a.getD i 0 = b.getD k 0) : edAt a b (i + 1) (k + 1) = 1 + min (edAt a b i k) (min (edAt a b (i + 1) k) (edAt a b i (k + 1))) := by
  rw [edAt, edAt, edAt, edAt, rev_take a i hi, rev_take b k hk, ed_other h]
theorem edAt_step (a b : List Int) (i k : Nat) (hi : i < a.length) (hk : k < b.length) : edAt a b (i + 1) (k + 1) = min (edAt a b i k + ne1 (a.getD i 0) (b.getD k 0)) (min (edAt a b i (k + 1) + 1) (edAt a b (i + 1) k + 1)) := by
  rw [edAt, edAt, edAt, edAt, rev_take a i hi, rev_take b k hk, ed_cons]
theorem edAt_le (a b : List Int) (i k : Nat) : edAt a b i k ≤ a.length + b.length := by
  have h := ed_le (a.take i).reverse (b.take k).reverse
  have h1 := List.length_take_le i a
  have h2 := List.length_take_le k b
  simp only [List.length_reverse] at h
  have h3 : (a.take i).length ≤ a.length := by simp [List.length_take]; omega
  have h4 : (b.take k).length ≤ b.length := by simp [List.length_take]; omega
  unfold edAt
  omega
def edits (a b : List Int) : Nat := edAt a b a.length b.length
theorem edits_eq (a b : List Int) : edits a b = ed a.reverse b.reverse := by simp [edits, edAt]
theorem edits_comm (a b : List Int) : edits a b = edits b a := by rw [edits_eq, edits_eq, ed_comm]
theorem edits_zero (a b : List Int) : edits a b = 0 ↔ a = b := by
  rw [edits_eq]
  constructor
  · intro h
    have := congrArg List.reverse (ed_zero _ _ h)
    simpa using this
  · intro h; rw [h, ed_self]
theorem edits_tri (a b c : List Int) : edits a c ≤ edits a b + edits b c := by rw [edits_eq, edits_eq, edits_eq]; exact ed_tri _ _ _
end Go.Proofs.YtfdmahbjofolhamDoor
