import Derived.Test.YtionicjnoogpjaaGreatDoorAnalyzJ05
import Derived.Test.YtionicjnoogpjaaGreatDoorProg
import Derived.Test.YtionicjnoogpjaaGreatDoorAnalyzJ02
import Derived.Test.YtionicjnoogpjaaGreatDoorAnalyzJ00
import Derived.WalkLawsBesides
import Derived.Test.YtionicjnoogpjaaGreatDoorAnalyzJ06
namespace Go.Proofs.YtionicjnoogpjaaGreatDoor
open Go
set_option linter.unusedVariables false

theorem toks_num : ∀ (f : Nat) (l : List Int) (a n k : Nat), k < (toks f l a n).length → ((toks f l a n).getD k tk0).2.1 = n + k
  | 0, _, _, _, k => by intro h; simp [toks] at h
  | f + 1, [], _, _, k => by intro h; rw [toks_nil] at h; simp at h
  | f + 1, r :: t, a, n, k => by
    by_cases h : wordK (r :: t) = 0
    · rw [toks_skip _ _ _ _ _ h]; exact toks_num f t _ n k
    · rw [toks_word _ _ _ _ _ h]
      intro hk
      cases k with
      | zero => simp
      | succ k =>
        rw [List.length_cons] at hk
        rw [List.getD_cons_succ]
        have := toks_num f ((r :: t).drop (wordK (r :: t))) (a + blen ((r :: t).take (wordK (r :: t)))) (n + 1) k (by omega)
        rw [this]; omega
theorem brkList_num (s : ByteArray) (k : Nat) (h : k < (brkList s).length) : ((brkList s).getD k tk0).2.1 = k := by
  revert h
  unfold brkList
  split
  · split
    · intro h; simp at h
    · intro h
      have := toks_num _ _ _ _ k h
      unfold allToks
      omega
  · intro h; simp at h
theorem addOne_short (o : List (List UInt8)) (t : List UInt8) (ho : ∀ x ∈ o, x.length ≤ 64) : ∀ x ∈ addOne o t, x.length ≤ 64 := by
  unfold addOne
  split
  · rename_i h
    simp only [Bool.and_eq_true, decide_eq_true_eq] at h
    intro x hx
    rcases List.mem_append.1 hx with hx | hx
    · exact ho x hx
    · rw [List.mem_singleton] at hx; rw [hx]; exact h.1
  · exact ho
theorem addT_short : ∀ (l o : List (List UInt8)), (∀ x ∈ o, x.length ≤ 64) → ∀ x ∈ addT o l, x.length ≤ 64
  | [], o, ho => ho
  | t :: l, o, ho => by
    have e : addT o (t :: l) = addT (addOne o t) l := rfl
    rw [e]
    exact addT_short l _ (addOne_short o t ho)
theorem formsGo_short (st ph : Bool) (lo hi : Int) : ∀ (l o : List (List UInt8)), (∀ x ∈ o, x.length ≤ 64) → ∀ x ∈ (formsGo st ph lo hi o l).1, x.length ≤ 64
  | [], o, ho => by rw [formsGo]; exact ho
  | t :: l, o, ho => by
    rw [formsGo]
    split
    · exact formsGo_short st ph lo hi l _ (addT_short _ _ ho)
    · intro x hx; simp at hx
theorem formsOf_short (fo st ph : Bool) (stops : List (List UInt8)) (syns : List (List UInt8 × List UInt8)) (lo hi : Int) (t : List UInt8) : ∀ x ∈ (formsOf fo st ph stops syns lo hi t).1, x.length ≤ 64 := by
  unfold formsOf
  split
  · intro x hx; simp at hx
  · exact formsGo_short _ _ _ _ _ _ (fun x hx => by simp at hx)
/-- A term with the place and the ends of a word. -/
def tkGood (words : List Tk) (t : Tk) : Prop := t.2.1 < words.length ∧ t.2 = (words.getD t.2.1 tk0).2 ∧ t.1.length ≤ 64
theorem azGo_good (F : List UInt8 → List (List UInt8) × Int) (hF : ∀ y, ∀ x ∈ (F y).1, x.length ≤ 64) (words : List Tk) (hw : ∀ k, k < words.length → (words.getD k tk0).2.1 = k) : ∀ (m j : Nat) (o : List Tk), j + m = words.length → (∀ t ∈ o, tkGood words t ∧ t.2.1 < j) → o.Pairwise (fun a b => a.2.1 ≤ b.2.1) →
    (∀ t ∈ (azGo F o (words.drop j)).1, tkGood words t) ∧ (azGo F o (words.drop j)).1.Pairwise (fun a b => a.2.1 ≤ b.2.1)
  | 0, j, o, hj, ho, hp => by
    rw [List.drop_of_length_le (by omega), azGo]
    exact ⟨fun t ht => (ho t ht).1, hp⟩
  | m + 1, j, o, hj, ho, hp => by
    rw [azGo_drop F o words j (by omega)]
    split
    · split
      · have hj2 := hw j (by omega)
        refine azGo_good F hF words hw m (j + 1) _ (by omega) (fun t ht => ?_) ?_
        · rcases List.mem_append.1 ht with ht | ht
          · exact ⟨(ho t ht).1, by have := (ho t ht).2; omega⟩
          · rw [withT, List.mem_map] at ht
            obtain ⟨x, hx, rfl⟩ := ht
            exact ⟨⟨by show (words.getD j tk0).2.1 < _; omega, by show (words.getD j tk0).2 = (words.getD (words.getD j tk0).2.1 tk0).2; rw [hj2], hF _ x hx⟩, by show (words.getD j tk0).2.1 < _; omega⟩
        · rw [List.pairwise_append]
          refine ⟨hp, ?_, fun a ha b hb => ?_⟩
          · rw [withT, List.pairwise_map]
            exact List.pairwise_of_forall (fun a b => Nat.le_refl _)
          · rw [withT, List.mem_map] at hb
            obtain ⟨x, hx, rfl⟩ := hb
            show a.2.1 ≤ (words.getD j tk0).2.1
            have := (ho a ha).2
            omega
      · exact ⟨fun t ht => by simp at ht, List.Pairwise.nil⟩
    · exact ⟨fun t ht => by simp at ht, List.Pairwise.nil⟩
theorem anOf_good (fo st ph : Bool) (stops : List (List UInt8)) (syns : List (List UInt8 × List UInt8)) (lo hi : Int) (s : ByteArray) :
    (∀ t ∈ (anOf fo st ph stops syns lo hi s).1, tkGood (brkList s) t) ∧ (anOf fo st ph stops syns lo hi s).1.Pairwise (fun a b => a.2.1 ≤ b.2.1) := by
  unfold anOf
  split
  · exact ⟨fun t ht => by simp at ht, List.Pairwise.nil⟩
  · split
    · split
      · have := azGo_good (formsOf fo st ph stops syns lo hi) (fun y => formsOf_short _ _ _ _ _ _ _ y) (brkList s) (fun k hk => brkList_num s k hk) (brkList s).length 0 [] (by omega) (fun t ht => by simp at ht) List.Pairwise.nil
        rw [List.drop_zero] at this
        exact this
      · exact ⟨fun t ht => by simp at ht, List.Pairwise.nil⟩
    · exact ⟨fun t ht => by simp at ht, List.Pairwise.nil⟩
/-- The tokens of words that are folded alone, without stop words. -/
def leftT (stops : List (List UInt8)) (k : Tk) : Bool := decide (64 < (foldL k.1).length) || hasT stops (foldL k.1)
def keptT (stops : List (List UInt8)) (l : List Tk) : List Tk := l.filterMap fun k => if leftT stops k = true then none else some (foldL k.1, k.2)
theorem keptT_snoc (stops : List (List UInt8)) (l : List Tk) (k : Nat) (h : k < l.length) : keptT stops (l.take (k + 1)) = if leftT stops (l.getD k tk0) = true then keptT stops (l.take k) else keptT stops (l.take k) ++ [(foldL (l.getD k tk0).1, (l.getD k tk0).2)] := by
  have e : l.getD k tk0 = l[k] := by rw [List.getD_eq_getElem?_getD, List.getElem?_eq_getElem h, Option.getD_some]
  rw [keptT, List.take_succ_eq_append_getElem h, List.filterMap_append, e]
  by_cases hc : leftT stops l[k] = true
  · simp [hc, keptT]
  · simp [hc, keptT]
theorem keptT_len (stops : List (List UInt8)) (l : List Tk) : (keptT stops l).length ≤ l.length := List.length_filterMap_le _ _
theorem keptT_cut (stops : List (List UInt8)) (l : List Tk) (k : Nat) : keptT stops l = keptT stops (l.take k) ++ keptT stops (l.drop k) := by
  rw [keptT, keptT, keptT, ← List.filterMap_append, List.take_append_drop]
theorem forms_fold (stops : List (List UInt8)) (k : Tk) : formsOf true false false stops [] 0 0 k.1 = if leftT stops k = true then ([], 0) else ([foldL k.1], 0) := by
  have e1 : formsGo false false 0 0 [] (rawOf [] (foldL k.1)) = if 64 < (foldL k.1).length then ([], 0) else ([foldL k.1], 0) := by
    have e2 : rawOf [] (foldL k.1) = [foldL k.1] := rfl
    rw [e2]
    simp only [formsGo, stemIf, phoneIf, codeOf, listOf, addT, addOne, hasT, List.foldl_cons, List.foldl_nil, List.any_nil, Bool.not_false, Bool.and_true, Bool.false_and, Bool.false_eq_true, if_false, Int.lt_irrefl, if_true, decide_eq_true_eq, List.nil_append]
    by_cases h : (foldL k.1).length ≤ 64
    · rw [if_pos h, if_neg (by omega)]
    · rw [if_neg h, if_pos (by omega)]
  unfold formsOf leftT
  simp only [foldIf, if_true]
  by_cases h : hasT stops (foldL k.1) = true
  · simp [h]
  · simp only [h, Bool.false_eq_true, if_false, Bool.or_false, decide_eq_true_eq]
    exact e1
theorem azGo_fold (stops : List (List UInt8)) (words : List Tk) (hlen : words.length ≤ 8192) : ∀ (m j : Nat) (o : List Tk), j + m = words.length → o.length ≤ j →
    azGo (formsOf true false false stops [] 0 0) o (words.drop j) = (o ++ keptT stops (words.drop j), 0)
  | 0, j, o, hj, ho => by
    rw [List.drop_of_length_le (by omega), azGo]
    simp [keptT]
  | m + 1, j, o, hj, ho => by
    rw [azGo_drop _ o words j (by omega), forms_fold]
    have hd : words.drop j = words.getD j tk0 :: words.drop (j + 1) := by
      rw [List.drop_eq_getElem_cons (by omega), List.getD_eq_getElem?_getD, List.getElem?_eq_getElem (by omega), Option.getD_some]
    have hk : keptT stops (words.drop j) = if leftT stops (words.getD j tk0) = true then keptT stops (words.drop (j + 1)) else (foldL (words.getD j tk0).1, (words.getD j tk0).2) :: keptT stops (words.drop (j + 1)) := by
      rw [hd]
      by_cases hc : leftT stops (words.getD j tk0) = true
      · rw [if_pos hc]; simp only [keptT, List.filterMap_cons, hc, if_true]
      · rw [if_neg hc]; simp only [keptT, List.filterMap_cons, hc, Bool.false_eq_true, if_false]
    rw [hk]
    by_cases hc : leftT stops (words.getD j tk0) = true
    · rw [if_pos hc, if_pos hc, if_pos rfl, if_pos (by simp [withT]; omega)]
      simp only [withT, List.map_nil, List.append_nil]
      exact azGo_fold stops words hlen m (j + 1) o (by omega) (by omega)
    · rw [if_neg hc, if_neg hc, if_pos rfl, if_pos (by simp [withT]; omega)]
      simp only [withT, List.map_cons, List.map_nil]
      rw [azGo_fold stops words hlen m (j + 1) _ (by omega) (by simp; omega)]
      simp
theorem azOK_part {stops : List (List UInt8)} {syns : List (List UInt8 × List UInt8)} {lo hi : Int} (h : azOK stops syns lo hi = true) : azOK stops [] 0 0 = true := by
  simp only [azOK, Bool.and_eq_true] at h ⊢
  obtain ⟨⟨⟨⟨h1, h2⟩, h3⟩, h4⟩, h5⟩ := h
  exact ⟨⟨⟨⟨h1, by simp⟩, h3⟩, rfl⟩, rfl⟩
theorem azOK_none : azOK [] [] 0 0 = true := rfl
/-- What Analyze tells with folding and stop words alone. -/
theorem anOf_fold (stops : List (List UInt8)) (s : ByteArray) (h1 : ¬ 65536 < s.size) (h2 : azOK stops [] 0 0 = true) (h3 : brkCode s = 0) : anOf true false false stops [] 0 0 s = (keptT stops (brkList s), 0) := by
  unfold anOf
  rw [if_neg h1, if_pos h2, if_pos h3]
  have := azGo_fold stops (brkList s) (brkList_len s) (brkList s).length 0 [] (by omega) (by simp)
  rw [List.drop_zero, List.nil_append] at this
  exact this
/-- What is known where Analyze tells no code. -/
theorem anOf_ok {fo st ph : Bool} {stops : List (List UInt8)} {syns : List (List UInt8 × List UInt8)} {lo hi : Int} {s : ByteArray} (h : (anOf fo st ph stops syns lo hi s).2 = 0) : ¬ 65536 < s.size ∧ azOK stops syns lo hi = true ∧ brkCode s = 0 := by
  unfold anOf at h
  split at h
  · simp at h
  · rename_i h1
    split at h
    · rename_i h2
      split at h
      · rename_i h3
        exact ⟨h1, h2, h3⟩
      · rename_i h3
        exact absurd h h3
    · simp at h
end Go.Proofs.YtionicjnoogpjaaGreatDoor

namespace Go.Proofs.YtionicjnoogpjaaGreatDoor
open Go Go.RowKit
set_option linter.unusedVariables false

set_option maxHeartbeats 400000 in
theorem small_w0 (a : Int) (w : World) (u : a ≤ 64) : Calls Tryz.prog 166 #[.int .i64 a] w fun e w' => e = .returned (.int .i64 (smlZ a)) ∧ w' = w := by
  have HV : Hid (smlZ a = a) := by show _ = _; unfold smlZ; repeat (first | rw [if_pos (by omega)] | rw [if_neg (by omega)])
  have e215 : (a == 215) = false := beq_eq_false_iff_ne.2 (by omega)
  have e930 : (a == 930) = false := beq_eq_false_iff_ne.2 (by omega)
  go_enter Tryz.func166, Tryz.ntmps166
  go_wp2
  go_ret
  rw [HV.out]
  exact ⟨rfl, rfl⟩
set_option maxHeartbeats 400000 in
theorem small_w1 (a : Int) (w : World) (l : 65 ≤ a) (u : a ≤ 90) : Calls Tryz.prog 166 #[.int .i64 a] w fun e w' => e = .returned (.int .i64 (smlZ a)) ∧ w' = w := by
  have HV : Hid (smlZ a = a + 32) := by show _ = _; unfold smlZ; repeat (first | rw [if_pos (by omega)] | rw [if_neg (by omega)])
  have e215 : (a == 215) = false := beq_eq_false_iff_ne.2 (by omega)
  have e930 : (a == 930) = false := beq_eq_false_iff_ne.2 (by omega)
  go_enter Tryz.func166, Tryz.ntmps166
  go_wp2
  go_ret
  rw [HV.out]
  exact ⟨rfl, rfl⟩
set_option maxHeartbeats 400000 in
theorem small_w2 (a : Int) (w : World) (l : 91 ≤ a) (u : a ≤ 191) : Calls Tryz.prog 166 #[.int .i64 a] w fun e w' => e = .returned (.int .i64 (smlZ a)) ∧ w' = w := by
  have HV : Hid (smlZ a = a) := by show _ = _; unfold smlZ; repeat (first | rw [if_pos (by omega)] | rw [if_neg (by omega)])
  have e215 : (a == 215) = false := beq_eq_false_iff_ne.2 (by omega)
  have e930 : (a == 930) = false := beq_eq_false_iff_ne.2 (by omega)
  go_enter Tryz.func166, Tryz.ntmps166
  go_wp2
  go_ret
  rw [HV.out]
  exact ⟨rfl, rfl⟩
set_option maxHeartbeats 400000 in
theorem small_w3 (a : Int) (w : World) (l : 192 ≤ a) (u : a ≤ 214) : Calls Tryz.prog 166 #[.int .i64 a] w fun e w' => e = .returned (.int .i64 (smlZ a)) ∧ w' = w := by
  have HV : Hid (smlZ a = a + 32) := by show _ = _; unfold smlZ; repeat (first | rw [if_pos (by omega)] | rw [if_neg (by omega)])
  have e215 : (a == 215) = false := beq_eq_false_iff_ne.2 (by omega)
  have e930 : (a == 930) = false := beq_eq_false_iff_ne.2 (by omega)
  go_enter Tryz.func166, Tryz.ntmps166
  go_wp2
  go_ret
  rw [HV.out]
  exact ⟨rfl, rfl⟩
set_option maxHeartbeats 400000 in
theorem small_w4 (w : World) : Calls Tryz.prog 166 #[.int .i64 215] w fun e w' => e = .returned (.int .i64 (smlZ 215)) ∧ w' = w := by
  have HV : Hid (smlZ 215 = 215) := by show _ = _; decide
  go_enter Tryz.func166, Tryz.ntmps166
  go_wp2
  go_ret
  rw [HV.out]
  exact ⟨rfl, rfl⟩
set_option maxHeartbeats 400000 in
theorem small_w5 (a : Int) (w : World) (l : 216 ≤ a) (u : a ≤ 222) : Calls Tryz.prog 166 #[.int .i64 a] w fun e w' => e = .returned (.int .i64 (smlZ a)) ∧ w' = w := by
  have HV : Hid (smlZ a = a + 32) := by show _ = _; unfold smlZ; repeat (first | rw [if_pos (by omega)] | rw [if_neg (by omega)])
  have e215 : (a == 215) = false := beq_eq_false_iff_ne.2 (by omega)
  have e930 : (a == 930) = false := beq_eq_false_iff_ne.2 (by omega)
  go_enter Tryz.func166, Tryz.ntmps166
  go_wp2
  go_ret
  rw [HV.out]
  exact ⟨rfl, rfl⟩
set_option maxHeartbeats 400000 in
theorem small_w6 (a : Int) (w : World) (l : 223 ≤ a) (u : a ≤ 912) : Calls Tryz.prog 166 #[.int .i64 a] w fun e w' => e = .returned (.int .i64 (smlZ a)) ∧ w' = w := by
  have HV : Hid (smlZ a = a) := by show _ = _; unfold smlZ; repeat (first | rw [if_pos (by omega)] | rw [if_neg (by omega)])
  have e215 : (a == 215) = false := beq_eq_false_iff_ne.2 (by omega)
  have e930 : (a == 930) = false := beq_eq_false_iff_ne.2 (by omega)
  go_enter Tryz.func166, Tryz.ntmps166
  go_wp2
  go_ret
  rw [HV.out]
  exact ⟨rfl, rfl⟩
set_option maxHeartbeats 400000 in
theorem small_w7 (a : Int) (w : World) (l : 913 ≤ a) (u : a ≤ 929) : Calls Tryz.prog 166 #[.int .i64 a] w fun e w' => e = .returned (.int .i64 (smlZ a)) ∧ w' = w := by
  have HV : Hid (smlZ a = a + 32) := by show _ = _; unfold smlZ; repeat (first | rw [if_pos (by omega)] | rw [if_neg (by omega)])
  have e215 : (a == 215) = false := beq_eq_false_iff_ne.2 (by omega)
  have e930 : (a == 930) = false := beq_eq_false_iff_ne.2 (by omega)
  go_enter Tryz.func166, Tryz.ntmps166
  go_wp2
  go_ret
  rw [HV.out]
  exact ⟨rfl, rfl⟩
set_option maxHeartbeats 400000 in
theorem small_w8 (w : World) : Calls Tryz.prog 166 #[.int .i64 930] w fun e w' => e = .returned (.int .i64 (smlZ 930)) ∧ w' = w := by
  have HV : Hid (smlZ 930 = 930) := by show _ = _; decide
  go_enter Tryz.func166, Tryz.ntmps166
  go_wp2
  go_ret
  rw [HV.out]
  exact ⟨rfl, rfl⟩
set_option maxHeartbeats 400000 in
theorem small_w9 (a : Int) (w : World) (l : 931 ≤ a) (u : a ≤ 939) : Calls Tryz.prog 166 #[.int .i64 a] w fun e w' => e = .returned (.int .i64 (smlZ a)) ∧ w' = w := by
  have HV : Hid (smlZ a = a + 32) := by show _ = _; unfold smlZ; repeat (first | rw [if_pos (by omega)] | rw [if_neg (by omega)])
  have e215 : (a == 215) = false := beq_eq_false_iff_ne.2 (by omega)
  have e930 : (a == 930) = false := beq_eq_false_iff_ne.2 (by omega)
  go_enter Tryz.func166, Tryz.ntmps166
  go_wp2
  go_ret
  rw [HV.out]
  exact ⟨rfl, rfl⟩
set_option maxHeartbeats 400000 in
theorem small_w10 (a : Int) (w : World) (l : 940 ≤ a) (u : a ≤ 1023) : Calls Tryz.prog 166 #[.int .i64 a] w fun e w' => e = .returned (.int .i64 (smlZ a)) ∧ w' = w := by
  have HV : Hid (smlZ a = a) := by show _ = _; unfold smlZ; repeat (first | rw [if_pos (by omega)] | rw [if_neg (by omega)])
  have e215 : (a == 215) = false := beq_eq_false_iff_ne.2 (by omega)
  have e930 : (a == 930) = false := beq_eq_false_iff_ne.2 (by omega)
  go_enter Tryz.func166, Tryz.ntmps166
  go_wp2
  go_ret
  rw [HV.out]
  exact ⟨rfl, rfl⟩
set_option maxHeartbeats 400000 in
theorem small_w11 (a : Int) (w : World) (l : 1024 ≤ a) (u : a ≤ 1039) : Calls Tryz.prog 166 #[.int .i64 a] w fun e w' => e = .returned (.int .i64 (smlZ a)) ∧ w' = w := by
  have HV : Hid (smlZ a = a + 80) := by show _ = _; unfold smlZ; repeat (first | rw [if_pos (by omega)] | rw [if_neg (by omega)])
  have e215 : (a == 215) = false := beq_eq_false_iff_ne.2 (by omega)
  have e930 : (a == 930) = false := beq_eq_false_iff_ne.2 (by omega)
  go_enter Tryz.func166, Tryz.ntmps166
  go_wp2
  go_ret
  rw [HV.out]
  exact ⟨rfl, rfl⟩
set_option maxHeartbeats 400000 in
theorem small_w12 (a : Int) (w : World) (l : 1040 ≤ a) (u : a ≤ 1071) : Calls Tryz.prog 166 #[.int .i64 a] w fun e w' => e = .returned (.int .i64 (smlZ a)) ∧ w' = w := by
  have HV : Hid (smlZ a = a + 32) := by show _ = _; unfold smlZ; repeat (first | rw [if_pos (by omega)] | rw [if_neg (by omega)])
  have e215 : (a == 215) = false := beq_eq_false_iff_ne.2 (by omega)
  have e930 : (a == 930) = false := beq_eq_false_iff_ne.2 (by omega)
  go_enter Tryz.func166, Tryz.ntmps166
  go_wp2
  go_ret
  rw [HV.out]
  exact ⟨rfl, rfl⟩
set_option maxHeartbeats 400000 in
theorem small_w13 (a : Int) (w : World) (l : 1072 ≤ a) : Calls Tryz.prog 166 #[.int .i64 a] w fun e w' => e = .returned (.int .i64 (smlZ a)) ∧ w' = w := by
  have HV : Hid (smlZ a = a) := by show _ = _; unfold smlZ; repeat (first | rw [if_pos (by omega)] | rw [if_neg (by omega)])
  have e215 : (a == 215) = false := beq_eq_false_iff_ne.2 (by omega)
  have e930 : (a == 930) = false := beq_eq_false_iff_ne.2 (by omega)
  go_enter Tryz.func166, Tryz.ntmps166
  go_wp2
  go_ret
  rw [HV.out]
  exact ⟨rfl, rfl⟩
theorem small_any (a : Int) (w : World) : Calls Tryz.prog 166 #[.int .i64 a] w fun e w' => e = .returned (.int .i64 (smlZ a)) ∧ w' = w := by
  by_cases c0 : a < 65
  · exact small_w0 a w (by omega)
  by_cases c1 : a < 91
  · exact small_w1 a w (by omega) (by omega)
  by_cases c2 : a < 192
  · exact small_w2 a w (by omega) (by omega)
  by_cases c3 : a < 215
  · exact small_w3 a w (by omega) (by omega)
  by_cases c4 : a < 216
  · obtain rfl : a = 215 := by omega
    exact small_w4 w
  by_cases c5 : a < 223
  · exact small_w5 a w (by omega) (by omega)
  by_cases c6 : a < 913
  · exact small_w6 a w (by omega) (by omega)
  by_cases c7 : a < 930
  · exact small_w7 a w (by omega) (by omega)
  by_cases c8 : a < 931
  · obtain rfl : a = 930 := by omega
    exact small_w8 w
  by_cases c9 : a < 940
  · exact small_w9 a w (by omega) (by omega)
  by_cases c10 : a < 1024
  · exact small_w10 a w (by omega) (by omega)
  by_cases c11 : a < 1040
  · exact small_w11 a w (by omega) (by omega)
  by_cases c12 : a < 1072
  · exact small_w12 a w (by omega) (by omega)
  exact small_w13 a w (by omega)
end Go.Proofs.YtionicjnoogpjaaGreatDoor

namespace Go.Proofs.YtionicjnoogpjaaGreatDoor
open Go Go.RowKit
set_option linter.unusedVariables false

set_option maxHeartbeats 400000 in
theorem accent_w0 (a : Int) (w : World) (u : a ≤ 223) : Calls Tryz.prog 165 #[.int .i64 a] w fun e w' => e = .returned (.int .i64 (accZ a)) ∧ w' = w := by
  have HV : Hid (accZ a = a) := by show _ = _; unfold accZ; repeat (first | rw [if_pos (by omega)] | rw [if_neg (by omega)])
  have e231 : (a == 231) = false := beq_eq_false_iff_ne.2 (by omega)
  have e241 : (a == 241) = false := beq_eq_false_iff_ne.2 (by omega)
  have e248 : (a == 248) = false := beq_eq_false_iff_ne.2 (by omega)
  have e253 : (a == 253) = false := beq_eq_false_iff_ne.2 (by omega)
  have e255 : (a == 255) = false := beq_eq_false_iff_ne.2 (by omega)
  go_enter Tryz.func165, Tryz.ntmps165
  go_wp2
  go_ret
  rw [HV.out]
  exact ⟨rfl, rfl⟩
set_option maxHeartbeats 400000 in
theorem accent_w1 (a : Int) (w : World) (l : 224 ≤ a) (u : a ≤ 229) : Calls Tryz.prog 165 #[.int .i64 a] w fun e w' => e = .returned (.int .i64 (accZ a)) ∧ w' = w := by
  have HV : Hid (accZ a = 97) := by show _ = _; unfold accZ; repeat (first | rw [if_pos (by omega)] | rw [if_neg (by omega)])
  have e231 : (a == 231) = false := beq_eq_false_iff_ne.2 (by omega)
  have e241 : (a == 241) = false := beq_eq_false_iff_ne.2 (by omega)
  have e248 : (a == 248) = false := beq_eq_false_iff_ne.2 (by omega)
  have e253 : (a == 253) = false := beq_eq_false_iff_ne.2 (by omega)
  have e255 : (a == 255) = false := beq_eq_false_iff_ne.2 (by omega)
  go_enter Tryz.func165, Tryz.ntmps165
  go_wp2
  go_ret
  rw [HV.out]
  exact ⟨rfl, rfl⟩
set_option maxHeartbeats 400000 in
theorem accent_w2 (w : World) : Calls Tryz.prog 165 #[.int .i64 230] w fun e w' => e = .returned (.int .i64 (accZ 230)) ∧ w' = w := by
  have HV : Hid (accZ 230 = 230) := by show _ = _; decide
  go_enter Tryz.func165, Tryz.ntmps165
  go_wp2
  go_ret
  rw [HV.out]
  exact ⟨rfl, rfl⟩
set_option maxHeartbeats 400000 in
theorem accent_w3 (w : World) : Calls Tryz.prog 165 #[.int .i64 231] w fun e w' => e = .returned (.int .i64 (accZ 231)) ∧ w' = w := by
  have HV : Hid (accZ 231 = 99) := by show _ = _; decide
  go_enter Tryz.func165, Tryz.ntmps165
  go_wp2
  go_ret
  rw [HV.out]
  exact ⟨rfl, rfl⟩
set_option maxHeartbeats 400000 in
theorem accent_w4 (a : Int) (w : World) (l : 232 ≤ a) (u : a ≤ 235) : Calls Tryz.prog 165 #[.int .i64 a] w fun e w' => e = .returned (.int .i64 (accZ a)) ∧ w' = w := by
  have HV : Hid (accZ a = 101) := by show _ = _; unfold accZ; repeat (first | rw [if_pos (by omega)] | rw [if_neg (by omega)])
  have e231 : (a == 231) = false := beq_eq_false_iff_ne.2 (by omega)
  have e241 : (a == 241) = false := beq_eq_false_iff_ne.2 (by omega)
  have e248 : (a == 248) = false := beq_eq_false_iff_ne.2 (by omega)
  have e253 : (a == 253) = false := beq_eq_false_iff_ne.2 (by omega)
  have e255 : (a == 255) = false := beq_eq_false_iff_ne.2 (by omega)
  go_enter Tryz.func165, Tryz.ntmps165
  go_wp2
  go_ret
  rw [HV.out]
  exact ⟨rfl, rfl⟩
set_option maxHeartbeats 400000 in
theorem accent_w5 (a : Int) (w : World) (l : 236 ≤ a) (u : a ≤ 239) : Calls Tryz.prog 165 #[.int .i64 a] w fun e w' => e = .returned (.int .i64 (accZ a)) ∧ w' = w := by
  have HV : Hid (accZ a = 105) := by show _ = _; unfold accZ; repeat (first | rw [if_pos (by omega)] | rw [if_neg (by omega)])
  have e231 : (a == 231) = false := beq_eq_false_iff_ne.2 (by omega)
  have e241 : (a == 241) = false := beq_eq_false_iff_ne.2 (by omega)
  have e248 : (a == 248) = false := beq_eq_false_iff_ne.2 (by omega)
  have e253 : (a == 253) = false := beq_eq_false_iff_ne.2 (by omega)
  have e255 : (a == 255) = false := beq_eq_false_iff_ne.2 (by omega)
  go_enter Tryz.func165, Tryz.ntmps165
  go_wp2
  go_ret
  rw [HV.out]
  exact ⟨rfl, rfl⟩
set_option maxHeartbeats 400000 in
theorem accent_w6 (w : World) : Calls Tryz.prog 165 #[.int .i64 240] w fun e w' => e = .returned (.int .i64 (accZ 240)) ∧ w' = w := by
  have HV : Hid (accZ 240 = 240) := by show _ = _; decide
  go_enter Tryz.func165, Tryz.ntmps165
  go_wp2
  go_ret
  rw [HV.out]
  exact ⟨rfl, rfl⟩
set_option maxHeartbeats 400000 in
theorem accent_w7 (w : World) : Calls Tryz.prog 165 #[.int .i64 241] w fun e w' => e = .returned (.int .i64 (accZ 241)) ∧ w' = w := by
  have HV : Hid (accZ 241 = 110) := by show _ = _; decide
  go_enter Tryz.func165, Tryz.ntmps165
  go_wp2
  go_ret
  rw [HV.out]
  exact ⟨rfl, rfl⟩
set_option maxHeartbeats 400000 in
theorem accent_w8 (a : Int) (w : World) (l : 242 ≤ a) (u : a ≤ 246) : Calls Tryz.prog 165 #[.int .i64 a] w fun e w' => e = .returned (.int .i64 (accZ a)) ∧ w' = w := by
  have HV : Hid (accZ a = 111) := by show _ = _; unfold accZ; repeat (first | rw [if_pos (by omega)] | rw [if_neg (by omega)])
  have e231 : (a == 231) = false := beq_eq_false_iff_ne.2 (by omega)
  have e241 : (a == 241) = false := beq_eq_false_iff_ne.2 (by omega)
  have e248 : (a == 248) = false := beq_eq_false_iff_ne.2 (by omega)
  have e253 : (a == 253) = false := beq_eq_false_iff_ne.2 (by omega)
  have e255 : (a == 255) = false := beq_eq_false_iff_ne.2 (by omega)
  go_enter Tryz.func165, Tryz.ntmps165
  go_wp2
  go_ret
  rw [HV.out]
  exact ⟨rfl, rfl⟩
set_option maxHeartbeats 400000 in
theorem accent_w9 (w : World) : Calls Tryz.prog 165 #[.int .i64 247] w fun e w' => e = .returned (.int .i64 (accZ 247)) ∧ w' = w := by
  have HV : Hid (accZ 247 = 247) := by show _ = _; decide
  go_enter Tryz.func165, Tryz.ntmps165
  go_wp2
  go_ret
  rw [HV.out]
  exact ⟨rfl, rfl⟩
set_option maxHeartbeats 400000 in
theorem accent_w10 (w : World) : Calls Tryz.prog 165 #[.int .i64 248] w fun e w' => e = .returned (.int .i64 (accZ 248)) ∧ w' = w := by
  have HV : Hid (accZ 248 = 111) := by show _ = _; decide
  go_enter Tryz.func165, Tryz.ntmps165
  go_wp2
  go_ret
  rw [HV.out]
  exact ⟨rfl, rfl⟩
set_option maxHeartbeats 400000 in
theorem accent_w11 (a : Int) (w : World) (l : 249 ≤ a) (u : a ≤ 252) : Calls Tryz.prog 165 #[.int .i64 a] w fun e w' => e = .returned (.int .i64 (accZ a)) ∧ w' = w := by
  have HV : Hid (accZ a = 117) := by show _ = _; unfold accZ; repeat (first | rw [if_pos (by omega)] | rw [if_neg (by omega)])
  have e231 : (a == 231) = false := beq_eq_false_iff_ne.2 (by omega)
  have e241 : (a == 241) = false := beq_eq_false_iff_ne.2 (by omega)
  have e248 : (a == 248) = false := beq_eq_false_iff_ne.2 (by omega)
  have e253 : (a == 253) = false := beq_eq_false_iff_ne.2 (by omega)
  have e255 : (a == 255) = false := beq_eq_false_iff_ne.2 (by omega)
  go_enter Tryz.func165, Tryz.ntmps165
  go_wp2
  go_ret
  rw [HV.out]
  exact ⟨rfl, rfl⟩
set_option maxHeartbeats 400000 in
theorem accent_w12 (w : World) : Calls Tryz.prog 165 #[.int .i64 253] w fun e w' => e = .returned (.int .i64 (accZ 253)) ∧ w' = w := by
  have HV : Hid (accZ 253 = 121) := by show _ = _; decide
  go_enter Tryz.func165, Tryz.ntmps165
  go_wp2
  go_ret
  rw [HV.out]
  exact ⟨rfl, rfl⟩
set_option maxHeartbeats 400000 in
theorem accent_w13 (w : World) : Calls Tryz.prog 165 #[.int .i64 254] w fun e w' => e = .returned (.int .i64 (accZ 254)) ∧ w' = w := by
  have HV : Hid (accZ 254 = 254) := by show _ = _; decide
  go_enter Tryz.func165, Tryz.ntmps165
  go_wp2
  go_ret
  rw [HV.out]
  exact ⟨rfl, rfl⟩
set_option maxHeartbeats 400000 in
theorem accent_w14 (w : World) : Calls Tryz.prog 165 #[.int .i64 255] w fun e w' => e = .returned (.int .i64 (accZ 255)) ∧ w' = w := by
  have HV : Hid (accZ 255 = 121) := by show _ = _; decide
  go_enter Tryz.func165, Tryz.ntmps165
  go_wp2
  go_ret
  rw [HV.out]
  exact ⟨rfl, rfl⟩
set_option maxHeartbeats 400000 in
theorem accent_w15 (a : Int) (w : World) (l : 256 ≤ a) : Calls Tryz.prog 165 #[.int .i64 a] w fun e w' => e = .returned (.int .i64 (accZ a)) ∧ w' = w := by
  have HV : Hid (accZ a = a) := by show _ = _; unfold accZ; repeat (first | rw [if_pos (by omega)] | rw [if_neg (by omega)])
  have e231 : (a == 231) = false := beq_eq_false_iff_ne.2 (by omega)
  have e241 : (a == 241) = false := beq_eq_false_iff_ne.2 (by omega)
  have e248 : (a == 248) = false := beq_eq_false_iff_ne.2 (by omega)
  have e253 : (a == 253) = false := beq_eq_false_iff_ne.2 (by omega)
  have e255 : (a == 255) = false := beq_eq_false_iff_ne.2 (by omega)
  go_enter Tryz.func165, Tryz.ntmps165
  go_wp2
  go_ret
  rw [HV.out]
  exact ⟨rfl, rfl⟩
theorem accent_any (a : Int) (w : World) : Calls Tryz.prog 165 #[.int .i64 a] w fun e w' => e = .returned (.int .i64 (accZ a)) ∧ w' = w := by
  by_cases c0 : a < 224
  · exact accent_w0 a w (by omega)
  by_cases c1 : a < 230
  · exact accent_w1 a w (by omega) (by omega)
  by_cases c2 : a < 231
  · obtain rfl : a = 230 := by omega
    exact accent_w2 w
  by_cases c3 : a < 232
  · obtain rfl : a = 231 := by omega
    exact accent_w3 w
  by_cases c4 : a < 236
  · exact accent_w4 a w (by omega) (by omega)
  by_cases c5 : a < 240
  · exact accent_w5 a w (by omega) (by omega)
  by_cases c6 : a < 241
  · obtain rfl : a = 240 := by omega
    exact accent_w6 w
  by_cases c7 : a < 242
  · obtain rfl : a = 241 := by omega
    exact accent_w7 w
  by_cases c8 : a < 247
  · exact accent_w8 a w (by omega) (by omega)
  by_cases c9 : a < 248
  · obtain rfl : a = 247 := by omega
    exact accent_w9 w
  by_cases c10 : a < 249
  · obtain rfl : a = 248 := by omega
    exact accent_w10 w
  by_cases c11 : a < 253
  · exact accent_w11 a w (by omega) (by omega)
  by_cases c12 : a < 254
  · obtain rfl : a = 253 := by omega
    exact accent_w12 w
  by_cases c13 : a < 255
  · obtain rfl : a = 254 := by omega
    exact accent_w13 w
  by_cases c14 : a < 256
  · obtain rfl : a = 255 := by omega
    exact accent_w14 w
  exact accent_w15 a w (by omega)
end Go.Proofs.YtionicjnoogpjaaGreatDoor

namespace Go.Proofs.YtionicjnoogpjaaGreatDoor
open Go Go.RowKit
set_option maxHeartbeats 400000 in
theorem implFold_any (a : Int) (w : World) : Calls Tryz.prog 146 #[.int .i64 a] w fun e w' => e = .returned (.int .i64 (foldZ a)) ∧ w' = w := by
  unfold foldZ
  go_enter Tryz.func146, Tryz.ntmps146
  go_wp2_with fail
  refine (small_any _ _).mono ?_
  rintro e w1 ⟨rfl, rfl⟩
  go_wp2_with fail
  refine (accent_any _ _).mono ?_
  rintro e w1 ⟨rfl, rfl⟩
  go_wp2
  go_ret
  exact ⟨rfl, rfl⟩
end Go.Proofs.YtionicjnoogpjaaGreatDoor

namespace Go.Proofs
open Go.Shelf
def Tryz.lays168_ren : Go.Shelf.Ren := ⟨fun | 168 => 145 | 240 => 162 | 242 => 164 | 276 => 172 | 278 => 174 | n => n, fun | 0 => 0 | 3 => 3 | 4 => 4 | 5 => 5 | 9 => 9 | 20 => 20 | 21 => 21 | 37 => 22 | 46 => 128 | 51 => 188 | 70 => 168 | 72 => 170 | 75 => 173 | 80 => 114 | 164 => 186 | n => n, fun | n => n⟩
theorem Tryz.lays168 : Go.Proofs.Lays.n168 Tryz.prog Tryz.lays168_ren := {
  mixed := by kernel_rfl
  f168 := Tryz.func145.trans (congrArg some (by kernel_rfl))
  f240 := Tryz.func162.trans (congrArg some (by kernel_rfl))
  f242 := Tryz.func164.trans (congrArg some (by kernel_rfl))
  f276 := Tryz.func172.trans (congrArg some (by kernel_rfl))
  f278 := Tryz.func174.trans (congrArg some (by kernel_rfl))
  t0 := Tryz.underlying0
  a0 := Tryz.isAgg0
  z0 := Tryz.sizeOf0
  v0 := Tryz.zeroValue0
  t3 := Tryz.underlying3
  a3 := Tryz.isAgg3
  z3 := Tryz.sizeOf3
  v3 := Tryz.zeroValue3
  t4 := Tryz.underlying4
  a4 := Tryz.isAgg4
  z4 := Tryz.sizeOf4
  v4 := Tryz.zeroValue4
  t5 := Tryz.underlying5
  a5 := Tryz.isAgg5
  z5 := Tryz.sizeOf5
  v5 := Tryz.zeroValue5
  t9 := Tryz.underlying9
  a9 := Tryz.isAgg9
  z9 := Tryz.sizeOf9
  v9 := Tryz.zeroValue9
  t20 := Tryz.underlying20
  a20 := Tryz.isAgg20
  z20 := Tryz.sizeOf20
  v20 := Tryz.zeroValue20
  t21 := Tryz.underlying21
  a21 := Tryz.isAgg21
  z21 := Tryz.sizeOf21
  v21 := Tryz.zeroValue21
  t37 := Tryz.underlying22
  a37 := Tryz.isAgg22
  z37 := Tryz.sizeOf22
  v37 := Tryz.zeroValue22
  t46 := Tryz.underlying128
  a46 := Tryz.isAgg128
  z46 := Tryz.sizeOf128
  v46 := Tryz.zeroValue128
  t51 := Tryz.underlying188
  a51 := Tryz.isAgg188
  z51 := Tryz.sizeOf188
  v51 := Tryz.zeroValue188
  t70 := Tryz.underlying168
  a70 := Tryz.isAgg168
  z70 := Tryz.sizeOf168
  v70 := Tryz.zeroValue168
  t72 := Tryz.underlying170
  a72 := Tryz.isAgg170
  z72 := Tryz.sizeOf170
  v72 := Tryz.zeroValue170
  t75 := Tryz.underlying173
  a75 := Tryz.isAgg173
  z75 := Tryz.sizeOf173
  v75 := Tryz.zeroValue173
  t164 := Tryz.underlying186
  a164 := Tryz.isAgg186
  z164 := Tryz.sizeOf186
  v164 := Tryz.zeroValue186 }
theorem Tryz.Builder_Extra_168 : Builder.Extra Tryz.prog Tryz.lays168_ren := {
  sizeBuilder := by kernel_rfl
  liesBuilder := by kernel_rfl
  t5 := Tryz.underlying5
  a5 := Tryz.isAgg5
  z5 := Tryz.sizeOf5
  v5 := Tryz.zeroValue5
  infoByte := by kernel_rfl
  cellsByte := by kernel_rfl
  sizeByte := by kernel_rfl
  neB5 := by decide }
theorem Tryz.Builder_WriteRune_k (B b : Nat) (bs : List Value) (r : Int) (hr0 : -2147483648 ≤ r) (hr1 : r ≤ 2147483647) (w : World) (h : Lib.IsBuilderF 170 5 B b bs w) (hlen : bs.length + 4 ≤ 140737488355328) (hBw : B ≤ w.heap.size) :
    Calls Tryz.prog 145 #[.pointer (some ⟨b, 0, none⟩), .int .i32 r] w fun e w' => e = .returned (.tuple #[.int .i64 (Lib.runeCells r).length, .nilIface]) ∧ (Lib.BuilderAtF 170 5 B b (.pointer (some ⟨b, 0, none⟩)) (bs ++ Lib.runeCells r) w' ∧ Go.RowKit.Below B w w' ∧ Lib.OthersKept 5 (some b) w w') :=
  Any.Builder_WriteRune_k Tryz.lays168 Tryz.Builder_Extra_168 B b bs r hr0 hr1 w h hlen hBw
end Go.Proofs
