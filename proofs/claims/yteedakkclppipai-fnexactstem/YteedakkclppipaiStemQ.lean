import Derived.Test.YteedakkclppipaiStemP
import Derived.Lib.IndexAny
namespace Go.Proofs.Yteedakkclppipai
open Go

def vws : List UInt8 := [97, 101, 105, 111, 117, 121]
theorem vws_contains (c : UInt8) : vws.contains c = vow c := by
  have key : ∀ a b : UInt8, (a == b) = (b == a) := fun a b => by rw [Bool.eq_iff_iff, beq_iff_eq, beq_iff_eq]; exact eq_comm
  unfold vws vow
  simp only [List.contains_cons, List.contains_nil, Bool.or_false, Bool.or_assoc]
theorem containsAny_hasV (l : List UInt8) : Lib.containsAny l vws = hasV l := by
  unfold Lib.containsAny hasV
  induction l with
  | nil => rfl
  | cons b t ih =>
    rw [List.any_cons, ← ih, Lib.indexAny, vws_contains]
    cases hv : vow b
    · rw [if_neg (by simp), Bool.false_or]
      by_cases h : Lib.indexAny t vws = -1
      · rw [if_pos (by simp [h]), h]
      · have := Lib.indexAny_ge vws t
        rw [if_neg (by simp [h]), decide_eq_true (by omega), decide_eq_true (by omega)]
    · rw [if_pos rfl, Bool.true_or]; decide
theorem indexByte_vow (c : UInt8) : decide (0 ≤ Lib.indexByte vws c) = vow c := by
  by_cases h1 : c = 97
  · subst h1; decide
  by_cases h2 : c = 101
  · subst h2; decide
  by_cases h3 : c = 105
  · subst h3; decide
  by_cases h4 : c = 111
  · subst h4; decide
  by_cases h5 : c = 117
  · subst h5; decide
  by_cases h6 : c = 121
  · subst h6; decide
  have f : ∀ a : UInt8, ¬ c = a → (a == c) = false ∧ (c == a) = false := fun a h => ⟨beq_eq_false_iff_ne.2 (fun e => h e.symm), beq_eq_false_iff_ne.2 h⟩
  unfold vws vow
  simp only [Lib.indexByte, (f _ h1).1, (f _ h2).1, (f _ h3).1, (f _ h4).1, (f _ h5).1, (f _ h6).1, (f _ h1).2, (f _ h2).2, (f _ h3).2, (f _ h4).2, (f _ h5).2, (f _ h6).2]
  simp

/-- What the program does where a word ends in ing or ed. -/
def tense (a e : List UInt8) : List UInt8 := if decide (a.length < 3) || !hasV a then a ++ e else mend a
def sing (a e : List UInt8) : List UInt8 :=
  if e = [105, 101, 115] then (if 2 ≤ a.length then a ++ [121] else a ++ e)
  else if e = [115] then (if a.length < 3 then a ++ e else a)
  else if e = [115, 115, 101, 115] then a ++ [115, 115] else a ++ e
def mann (a e : List UInt8) : List UInt8 := if a.length < 3 then a ++ e else a
def withY (a e : List UInt8) : List UInt8 := if decide (a.length < 2) || vow (lastB a 1) then a ++ e else a ++ [105]

def firstOf (F : List UInt8 → List UInt8 → List UInt8) (l : List UInt8) : List (List UInt8) → List UInt8
  | [] => l
  | e :: es => if ends l e = true then F (cutB l e.length) e else firstOf F l es

theorem ends_iff {l e : List UInt8} : ends l e = true ↔ ∃ t, l = t ++ e := by
  constructor
  · intro h; exact ⟨_, ends_split h⟩
  · rintro ⟨t, rfl⟩; exact ends_append t e
theorem ends_app_iff (t e f : List UInt8) (h : f.length ≤ e.length) : ends (t ++ e) f = ends e f := by
  rw [Bool.eq_iff_iff, ends_iff, ends_iff]
  constructor
  · rintro ⟨u, hu⟩
    have hl : (t ++ e).drop t.length = (u ++ f).drop t.length := by rw [hu]
    rw [List.drop_left] at hl
    have hlen : u.length + f.length = t.length + e.length := by have := congrArg List.length hu; simp at this; omega
    rw [List.drop_append_of_le_length (by omega)] at hl
    exact ⟨_, hl⟩
  · rintro ⟨u, rfl⟩; exact ⟨t ++ u, by simp⟩

theorem stem1_first (l : List UInt8) : firstOf sing l [[115, 115, 101, 115], [105, 101, 115], [115, 115], [117, 115], [105, 115], [115]] = stem1 l := by
  unfold firstOf stem1
  by_cases h1 : ends l [115, 115, 101, 115] = true
  · rw [if_pos h1, if_pos h1]
    obtain ⟨t, rfl⟩ := ends_iff.1 h1
    simp [sing, cutB]
    rw [List.take_append]
    simp
    rw [List.take_of_length_le (by omega)]
  rw [if_neg h1, if_neg h1]
  unfold firstOf
  by_cases h2 : ends l [105, 101, 115] = true
  · rw [if_pos h2, if_pos h2]
    obtain ⟨t, rfl⟩ := ends_iff.1 h2
    rw [cutB_append]
    by_cases h5 : 5 ≤ (t ++ [105, 101, 115]).length
    · rw [if_pos h5, show cutB (t ++ [105, 101, 115]) 3 = t from cutB_append t [105, 101, 115], sing, if_pos rfl, if_pos (by simp at h5; omega)]
    · rw [if_neg h5, sing, if_pos rfl, if_neg (by simp at h5; omega)]
  rw [if_neg h2, if_neg h2]
  unfold firstOf
  by_cases h3 : ends l [115, 115] = true
  · rw [if_pos h3]
    obtain ⟨t, rfl⟩ := ends_iff.1 h3
    rw [cutB_append, if_neg (by rw [h3]; simp)]
    simp [sing]
  have h3' : ends l [115, 115] = false := by simpa using h3
  rw [if_neg h3]
  unfold firstOf
  by_cases h4 : ends l [117, 115] = true
  · rw [if_pos h4]
    obtain ⟨t, rfl⟩ := ends_iff.1 h4
    rw [cutB_append, if_neg (by rw [h4]; simp)]
    simp [sing]
  have h4' : ends l [117, 115] = false := by simpa using h4
  rw [if_neg h4]
  unfold firstOf
  by_cases h5 : ends l [105, 115] = true
  · rw [if_pos h5]
    obtain ⟨t, rfl⟩ := ends_iff.1 h5
    rw [cutB_append, if_neg (by rw [h5]; simp)]
    simp [sing]
  have h5' : ends l [105, 115] = false := by simpa using h5
  rw [if_neg h5]
  unfold firstOf
  by_cases h6 : ends l [115] = true
  · rw [if_pos h6, h6, h3', h4', h5']
    obtain ⟨t, rfl⟩ := ends_iff.1 h6
    rw [cutB_append]
    by_cases h7 : 4 ≤ (t ++ [115]).length
    · rw [if_pos (by simp; simpa using h7), show cutB (t ++ [115]) 1 = t from cutB_append t [115], sing, if_neg (by simp), if_pos rfl, if_neg (by simp at h7; omega)]
    · rw [if_neg (by simp at h7 ⊢; omega), sing, if_neg (by simp), if_pos rfl, if_pos (by simp at h7; omega)]
  · have h6' : ends l [115] = false := by simpa using h6
    rw [if_neg h6, h6']
    simp [firstOf]
theorem tense_cut (l : List UInt8) (e : List UInt8) (n : Nat) (hn : e.length + 3 = n) (h : ends l e = true) :
    tense (cutB l e.length) e = if decide (n ≤ l.length) && hasV (cutB l e.length) then mend (cutB l e.length) else l := by
  have hs := ends_split h
  have hl := ends_len h
  have hc := cutB_len l e.length
  unfold tense
  by_cases h1 : n ≤ l.length
  · rw [decide_eq_true h1, decide_eq_false (by omega), Bool.true_and, Bool.false_or]
    cases hv : hasV (cutB l e.length)
    · simp; exact hs.symm
    · simp
  · rw [decide_eq_false h1, decide_eq_true (by omega), Bool.true_or, if_pos rfl, Bool.false_and, if_neg (by simp)]
    exact hs.symm
theorem ing_not_ed {l : List UInt8} (h : ends l [105, 110, 103] = true) : ends l [101, 100] = false := by
  obtain ⟨t, rfl⟩ := ends_iff.1 h
  rw [ends_app_iff _ _ _ (by simp)]
  decide
theorem stem2_first (l : List UInt8) : firstOf tense l [[105, 110, 103], [101, 100]] = stem2 l := by
  unfold firstOf stem2
  by_cases h1 : ends l [105, 110, 103] = true
  · rw [if_pos h1, tense_cut l _ 6 rfl h1, h1, ing_not_ed h1]
    simp
  · have h1' : ends l [105, 110, 103] = false := by simpa using h1
    rw [if_neg h1, h1']
    unfold firstOf
    by_cases h2 : ends l [101, 100] = true
    · rw [if_pos h2, tense_cut l _ 5 rfl h2, h2]
      simp
    · have h2' : ends l [101, 100] = false := by simpa using h2
      rw [if_neg h2, h2']
      simp [firstOf]
theorem stem3_first (l : List UInt8) : firstOf mann l [[108, 121]] = stem3 l := by
  unfold firstOf stem3
  by_cases h1 : ends l [108, 121] = true
  · rw [if_pos h1, h1]
    have hs := ends_split h1
    have hl := ends_len h1
    have hc := cutB_len l 2
    simp only [List.length_cons, List.length_nil] at hs hl
    show mann (cutB l 2) _ = _
    unfold mann
    by_cases h5 : 5 ≤ l.length
    · rw [if_neg (by omega), if_pos (by simp [h5])]
    · rw [if_pos (by omega), if_neg (by simp; omega)]; exact hs.symm
  · have h1' : ends l [108, 121] = false := by simpa using h1
    rw [if_neg h1, h1']
    simp [firstOf]
theorem lastB_cut (l : List UInt8) (h : 2 ≤ l.length) : lastB (cutB l 1) 1 = lastB l 2 := by
  unfold lastB
  rw [cutB_len, cutB, List.getD_eq_getElem?_getD, List.getD_eq_getElem?_getD, List.getElem?_take, if_pos (by omega)]
  congr 2
theorem stem4_first (l : List UInt8) : firstOf withY l [[121]] = stem4 l := by
  unfold firstOf stem4
  by_cases h1 : ends l [121] = true
  · rw [if_pos h1, h1]
    have hs := ends_split h1
    have hl := ends_len h1
    have hc := cutB_len l 1
    simp only [List.length_cons, List.length_nil] at hs hl
    show withY (cutB l 1) _ = _
    unfold withY
    by_cases h5 : 3 ≤ l.length
    · rw [decide_eq_false (by omega), decide_eq_true h5, lastB_cut l (by omega), Bool.false_or]
      cases hv : vow (lastB l 2)
      · simp
      · simp; exact hs.symm
    · rw [decide_eq_true (by omega), decide_eq_false h5, Bool.true_or, if_pos rfl, if_neg (by simp)]; exact hs.symm
  · have h1' : ends l [121] = false := by simpa using h1
    rw [if_neg h1, h1']
    simp [firstOf]
end Go.Proofs.Yteedakkclppipai
