import Derived.Test.YtifgcimmlonagaaDoorSuggestJ00
import Derived.Test.YtifgcimmlonagaaDoorProg
import Derived.WalkLawsBesides
namespace Go.Proofs.YtifgcimmlonagaaDoor
open Go

/-! The least number of changes, in plain words: over the characters from the last one on. -/
def ne1 (x y : Int) : Nat := if x = y then 0 else 1
def ed : List Int → List Int → Nat
  | [], b => b.length
  | a, [] => a.length
  | x :: a, y :: b => min (ed a b + ne1 x y) (min (ed a (y :: b) + 1) (ed (x :: a) b + 1))
termination_by a b => a.length + b.length
theorem ed_nil (b : List Int) : ed [] b = b.length := by rw [ed]
theorem ed_nil_right (a : List Int) : ed a [] = a.length := by cases a <;> simp [ed]
theorem ed_cons (x : Int) (a : List Int) (y : Int) (b : List Int) : ed (x :: a) (y :: b) = min (ed a b + ne1 x y) (min (ed a (y :: b) + 1) (ed (x :: a) b + 1)) := by rw [ed]
theorem ne1_le (x y : Int) : ne1 x y ≤ 1 := by unfold ne1; split <;> omega
theorem ne1_comm (x y : Int) : ne1 x y = ne1 y x := by
  unfold ne1
  by_cases h : x = y
  · rw [if_pos h, if_pos h.symm]
  · rw [if_neg h, if_neg (fun e => h e.symm)]
theorem ne1_tri (x y z : Int) : ne1 x z ≤ ne1 x y + ne1 y z := by
  simp only [ne1]
  by_cases h : x = y <;> by_cases h2 : y = z <;> simp_all
  split <;> omega
theorem ed_comm (a b : List Int) : ed a b = ed b a := by
  match a, b with
  | [], b => rw [ed_nil, ed_nil_right]
  | x :: a, [] => rw [ed_nil, ed_nil_right]
  | x :: a, y :: b =>
    rw [ed_cons, ed_cons, ed_comm a b, ed_comm a (y :: b), ed_comm (x :: a) b, ne1_comm x y]
    omega
termination_by a.length + b.length
/-- One character more at one side changes by at most one. -/
theorem ed_near (a b : List Int) : (∀ x, ed (x :: a) b ≤ ed a b + 1) ∧ (∀ x, ed a b ≤ ed (x :: a) b + 1) := by
  match a, b with
  | a, [] => simp only [ed_nil_right, List.length_cons]; exact ⟨fun _ => by omega, fun _ => by omega⟩
  | [], y :: b =>
    have h := ed_near [] b
    refine ⟨fun x => ?_, fun x => ?_⟩
    · rw [ed_cons]; omega
    · rw [ed_cons]
      have h1 := h.2 x
      simp only [ed_nil, List.length_cons] at h1 ⊢
      omega
  | z :: a, y :: b =>
    refine ⟨fun x => ?_, fun x => ?_⟩
    · rw [ed_cons x]; omega
    · have h1 := (ed_near (z :: a) b).2 x
      have h2 := (ed_near a (y :: b)).1 z
      have h3 := ed_cons z a y b
      rw [ed_cons x]
      omega
termination_by a.length + b.length
theorem ed_near_r (a b : List Int) : (∀ y, ed a (y :: b) ≤ ed a b + 1) ∧ (∀ y, ed a b ≤ ed a (y :: b) + 1) := by
  have h := ed_near b a
  refine ⟨fun y => ?_, fun y => ?_⟩
  · rw [ed_comm a, ed_comm a b]; exact h.1 y
  · rw [ed_comm a, ed_comm a (y :: b)]; exact h.2 y
theorem ed_same (x : Int) (a b : List Int) : ed (x :: a) (x :: b) = ed a b := by
  have h1 := (ed_near_r a b).2 x
  have h2 := (ed_near a b).2 x
  have h0 : ne1 x x = 0 := by simp [ne1]
  rw [ed_cons, h0]
  omega
theorem ed_other {x y : Int} (h : ¬ x = y) (a b : List Int) : ed (x :: a) (y :: b) = 1 + min (ed a b) (min (ed (x :: a) b) (ed a (y :: b))) := by
  have h0 : ne1 x y = 1 := by simp [ne1, h]
  rw [ed_cons, h0]
  omega
theorem ed_tri (a b c : List Int) : ed a c ≤ ed a b + ed b c := by
  match a, b, c with
  | [], b, c =>
    have : ∀ (b c : List Int), c.length ≤ b.length + ed b c := by
      intro b
      induction b with
      | nil => intro c; rw [ed_nil]; omega
      | cons y b ih =>
        intro c
        have h1 := ih c
        have h2 := (ed_near b c).2 y
        simp only [List.length_cons]
        omega
    rw [ed_nil, ed_nil]
    exact this b c
  | x :: a, b, [] =>
    have : ∀ (b a : List Int), a.length ≤ ed a b + b.length := by
      intro b
      induction b with
      | nil => intro a; rw [ed_nil_right]; omega
      | cons y b ih =>
        intro a
        have h1 := ih a
        have h2 := (ed_near_r a b).2 y
        simp only [List.length_cons]
        omega
    rw [ed_nil_right, ed_nil_right]
    exact this b (x :: a)
  | x :: a, [], z :: c =>
    have h1 := ed_tri a [] c
    have h2 := ne1_le x z
    rw [ed_cons]
    simp only [ed_nil, ed_nil_right, List.length_cons] at h1 ⊢
    omega
  | x :: a, y :: b, z :: c =>
    have t1 := ed_tri a b c
    have t2 := ed_tri a (y :: b) (z :: c)
    have t3 := ed_tri (x :: a) (y :: b) c
    have t4 := ed_tri a b (z :: c)
    have t5 := ed_tri (x :: a) b c
    have t6 := ed_tri (x :: a) b (z :: c)
    have h1 := ed_cons x a y b
    have h2 := ed_cons y b z c
    have h3 := ed_cons x a z c
    have h4 := ne1_tri x y z
    omega
termination_by a.length + b.length + c.length
theorem ed_le (a b : List Int) : ed a b ≤ a.length + b.length := by
  have := ed_tri a [] b
  rw [ed_nil, ed_nil_right] at this
  exact this
/-- Behind i characters of a: what makes the first k of b of them. -/
def edAt (a b : List Int) (i k : Nat) : Nat := ed (a.take i).reverse (b.take k).reverse
theorem edAt_zero_left (a b : List Int) (k : Nat) (h : k ≤ b.length) : edAt a b 0 k = k := by simp [edAt, ed_nil]; omega
theorem edAt_zero_right (a b : List Int) (i : Nat) (h : i ≤ a.length) : edAt a b i 0 = i := by simp [edAt, ed_nil_right]; omega
theorem rev_take (a : List Int) (i : Nat) (h : i < a.length) : (a.take (i + 1)).reverse = a.getD i 0 :: (a.take i).reverse := by
  rw [take_snoc a i h, List.reverse_append]
  rfl
theorem edAt_same (a b : List Int) (i k : Nat) (hi : i < a.length) (hk : k < b.length) (h : a.getD i 0 = b.getD k 0) : edAt a b (i + 1) (k + 1) = edAt a b i k := by
  rw [edAt, rev_take a i hi, rev_take b k hk, h, ed_same, edAt]
theorem edAt_other (a b : List Int) (i k : Nat) (hi : i < a.length) (hk : k < b.length) (h : ¬ a.getD i 0 = b.getD k 0) : edAt a b (i + 1) (k + 1) = 1 + min (edAt a b i k) (min (edAt a b (i + 1) k) (edAt a b i (k + 1))) := by
  rw [edAt, edAt, edAt, edAt, rev_take a i hi, rev_take b k hk, ed_other h]
theorem edAt_step (a b : List Int) (i k : Nat) (hi : i < a.length) (hk : k < b.length) : edAt a b (i + 1) (k + 1) = min (edAt a b i k + ne1 (a.getD i 0) (b.getD k 0)) (min (edAt a b i (k + 1) + 1) (edAt a b (i + 1) k + 1)) := by
  rw [edAt, edAt, edAt, edAt, rev_take a i hi, rev_take b k hk, ed_cons]
theorem edAt_le (a b : List Int) (i k : Nat) : edAt a b i k ≤ a.length + b.length := by
  have h := ed_le (a.take i).reverse (b.take k).reverse
  have h1 := List.length_take_le i a
  have h2 := List.length_take_le k b
  simp only [List.length_reverse] at h
  have h3 : (a.take i).length ≤ a.length := by simp [List.length_take]; omega
  have h4 : (b.take k).length ≤ b.length := by simp [List.length_take]; omega
  unfold edAt
  omega
def edits (a b : List Int) : Nat := edAt a b a.length b.length
theorem edits_eq (a b : List Int) : edits a b = ed a.reverse b.reverse := by simp [edits, edAt]
end Go.Proofs.YtifgcimmlonagaaDoor

namespace Go.Proofs.YtifgcimmlonagaaDoor
open Go
set_option linter.unusedVariables false

/-! What is near to a text, in plain words: of the beginnings of a text up to two shorter or longer than what was read, how many changes, up to three. -/
def dd (a b : List Int) (s : Nat) : Nat := ed (a.take s).reverse b.reverse
theorem ed_low : ∀ (a b : List Int), a.length ≤ b.length + ed a b ∧ b.length ≤ a.length + ed a b
  | [], b => by rw [ed_nil]; simp
  | x :: a, [] => by rw [ed_nil_right]; simp
  | x :: a, y :: b => by
    have h1 := ed_low a b
    have h2 := ed_low a (y :: b)
    have h3 := ed_low (x :: a) b
    rw [ed_cons]
    simp only [List.length_cons] at *
    omega
termination_by a b => a.length + b.length
theorem dd_low (a b : List Int) (s : Nat) (h : s ≤ a.length) : s ≤ b.length + dd a b s ∧ b.length ≤ s + dd a b s := by
  have h1 := ed_low (a.take s).reverse b.reverse
  simp only [List.length_reverse, List.length_take, Nat.min_eq_left h] at h1
  exact h1
theorem dd_zero (a b : List Int) : dd a b 0 = b.length := by simp [dd, ed_nil]
theorem dd_nil (a : List Int) (s : Nat) (h : s ≤ a.length) : dd a [] s = s := by simp [dd, ed_nil_right, h]
theorem dd_step (a b : List Int) (r : Int) (s : Nat) (h : s < a.length) : dd a (b ++ [r]) (s + 1) = min (dd a b s + ne1 (a.getD s 0) r) (min (dd a (b ++ [r]) s + 1) (dd a b (s + 1) + 1)) := by
  unfold dd
  rw [rev_take a s h, List.reverse_append]
  exact ed_cons _ _ _ _
theorem dd_full (a b : List Int) : dd a b a.length = edits a b := by rw [dd, edits_eq, List.take_length]
/-- Of place i (2 for as many as were read). -/
def bnd (a b : List Int) (i : Nat) : Nat := if 2 ≤ b.length + i ∧ b.length + i ≤ a.length + 2 then min 3 (dd a b (b.length + i - 2)) else 3
theorem bnd_le (a b : List Int) (i : Nat) : bnd a b i ≤ 3 := by unfold bnd; split <;> omega
theorem bnd_out (a b : List Int) (i : Nat) (h : ¬ (2 ≤ b.length + i ∧ b.length + i ≤ a.length + 2)) : bnd a b i = 3 := by rw [bnd, if_neg h]
theorem bnd_in (a b : List Int) (i s : Nat) (h : b.length + i = s + 2) (hs : s ≤ a.length) : bnd a b i = min 3 (dd a b s) := by
  rw [bnd, if_pos (by omega), show b.length + i - 2 = s by omega]
theorem bnd_nil (a : List Int) (i : Nat) : bnd a [] i = if 2 ≤ i ∧ i ≤ a.length + 2 then min 3 (i - 2) else 3 := by
  unfold bnd
  simp only [List.length_nil, Nat.zero_add]
  split
  · rw [dd_nil _ _ (by omega)]
  · rfl
/-- One character more: what was put in, and what is left out. -/
def up1 (a b : List Int) (r : Int) (i : Nat) : Nat := min (if i < 4 then bnd a b (i + 1) + 1 else 3) (if 0 < i then bnd a (b ++ [r]) (i - 1) + 1 else 3)
theorem bnd_zero (a b : List Int) (r : Int) (i : Nat) (hi : i < 5) (hs : b.length + 1 + i = 2) : bnd a (b ++ [r]) i = min 3 (up1 a b r i) := by
  rw [bnd_in a (b ++ [r]) i 0 (by simp; omega) (by omega), dd_zero, up1, if_pos (by omega), bnd_in a b (i + 1) 0 (by omega) (by omega), dd_zero]
  have h2 : 0 < i → bnd a (b ++ [r]) (i - 1) = 3 := fun h => bnd_out _ _ _ (by simp; omega)
  by_cases h : 0 < i
  · rw [if_pos h, h2 h]; simp; omega
  · rw [if_neg h]; simp; omega
theorem bnd_next (a b : List Int) (r : Int) (i s : Nat) (hi : i < 5) (hs : b.length + 1 + i = s + 3) (h : s < a.length) : bnd a (b ++ [r]) i = min 3 (min (bnd a b i + ne1 (a.getD s 0) r) (up1 a b r i)) := by
  have hn := ne1_le (a.getD s 0) r
  rw [bnd_in a (b ++ [r]) i (s + 1) (by simp; omega) (by omega), dd_step a b r s h, bnd_in a b i s (by omega) (by omega), up1]
  have e1 : (if i < 4 then bnd a b (i + 1) + 1 else 3) = min 3 (dd a b (s + 1)) + 1 ∨ (3 ≤ dd a b (s + 1) ∧ 3 ≤ (if i < 4 then bnd a b (i + 1) + 1 else 3)) := by
    by_cases h4 : i < 4
    · rw [if_pos h4, bnd_in a b (i + 1) (s + 1) (by omega) (by omega)]; exact .inl rfl
    · rw [if_neg h4]
      have := dd_low a b (s + 1) (by omega)
      exact .inr ⟨by omega, by omega⟩
  have e2 : (if 0 < i then bnd a (b ++ [r]) (i - 1) + 1 else 3) = min 3 (dd a (b ++ [r]) s) + 1 ∨ (3 ≤ dd a (b ++ [r]) s ∧ 3 ≤ (if 0 < i then bnd a (b ++ [r]) (i - 1) + 1 else 3)) := by
    by_cases h4 : 0 < i
    · rw [if_pos h4, bnd_in a (b ++ [r]) (i - 1) s (by simp; omega) (by omega)]; exact .inl rfl
    · rw [if_neg h4]
      have := dd_low a (b ++ [r]) s (by omega)
      simp only [List.length_append, List.length_cons, List.length_nil] at this
      exact .inr ⟨by omega, by omega⟩
  omega
/-- Where nothing is near, nothing near comes. -/
def dead (a b : List Int) : Prop := ∀ i, i < 5 → bnd a b i = 3
theorem dead_next (a b : List Int) (r : Int) (h : dead a b) : dead a (b ++ [r]) := by
  intro i
  induction i with
  | zero =>
    intro hi
    by_cases h1 : b.length + 1 + 0 = 2
    · rw [bnd_zero a b r 0 hi h1, up1, if_pos (by omega), h _ (by omega), if_neg (by omega)]; omega
    · by_cases h2 : 2 ≤ b.length + 1 + 0 ∧ b.length + 1 + 0 ≤ a.length + 2
      · rw [bnd_next a b r 0 (b.length - 2) hi (by omega) (by omega), up1, if_pos (by omega), h _ (by omega), h _ (by omega), if_neg (by omega)]; omega
      · exact bnd_out _ _ _ (by simp; omega)
  | succ i ih =>
    intro hi
    have hp := ih (by omega)
    by_cases h1 : b.length + 1 + (i + 1) = 2
    · rw [bnd_zero a b r (i + 1) hi h1, up1, if_pos (by omega : 0 < i + 1), Nat.add_sub_cancel, hp]
      split
      · rw [h _ (by omega)]; omega
      · omega
    · by_cases h2 : 2 ≤ b.length + 1 + (i + 1) ∧ b.length + 1 + (i + 1) ≤ a.length + 2
      · rw [bnd_next a b r (i + 1) (b.length + 1 + (i + 1) - 3) hi (by omega) (by omega), up1, if_pos (by omega : 0 < i + 1), Nat.add_sub_cancel, hp, h _ hi]
        split
        · rw [h _ (by omega)]; omega
        · omega
      · exact bnd_out _ _ _ (by simp; omega)
theorem dead_more (a b : List Int) (h : dead a b) : ∀ c : List Int, dead a (b ++ c)
  | [] => by rw [List.append_nil]; exact h
  | r :: c => by
    have := dead_more a (b ++ [r]) (dead_next a b r h) c
    rw [List.append_assoc] at this
    exact this
/-- What the place of the whole text tells: the edits, up to three. -/
theorem near_end (a b : List Int) (i : Nat) (h : b.length + i = a.length + 2) : bnd a b i = min 3 (edits a b) := by
  rw [bnd_in a b i a.length h (Nat.le_refl _), dd_full]
theorem far_end (a b : List Int) (h : ¬ ∃ i, i < 5 ∧ b.length + i = a.length + 2) : 3 ≤ edits a b := by
  have h1 := dd_low a b a.length (Nat.le_refl _)
  rw [dd_full] at h1
  by_cases h2 : b.length ≤ a.length + 2
  · by_cases h3 : a.length + 2 - b.length < 5
    · exact absurd ⟨a.length + 2 - b.length, h3, by omega⟩ h
    · omega
  · omega
theorem dead_far (a b : List Int) (h : dead a b) : 3 ≤ edits a b := by
  by_cases h1 : ∃ i, i < 5 ∧ b.length + i = a.length + 2
  · obtain ⟨i, hi, e⟩ := h1
    have := near_end a b i e
    rw [h i hi] at this
    omega
  · exact far_end a b h1
end Go.Proofs.YtifgcimmlonagaaDoor

namespace Go.Proofs.YtifgcimmlonagaaDoor
open Go Go.RowKit
set_option linter.unusedVariables false

set_option maxHeartbeats 400000 in
theorem within_any (r lo hi : Int) (w : World) : Calls Tryd.prog 26 #[.int .i64 r, .int .i64 lo, .int .i64 hi] w fun e w' => e = .returned (.bool (decide (lo ≤ r) && decide (r ≤ hi))) ∧ w' = w := by
  by_cases h : lo ≤ r
  · have HB : Hid (decide (lo ≤ r) = true) := decide_eq_true h
    go_enter Tryd.func26, Tryd.ntmps26
    go_wp2
    go_ret
    rw [HB.out, Bool.true_and]
    exact ⟨rfl, rfl⟩
  · have HB : Hid (decide (lo ≤ r) = false) := decide_eq_false h
    go_enter Tryd.func26, Tryd.ntmps26
    go_wp2
    go_ret
    rw [HB.out, Bool.false_and]
    exact ⟨rfl, rfl⟩
end Go.Proofs.YtifgcimmlonagaaDoor
