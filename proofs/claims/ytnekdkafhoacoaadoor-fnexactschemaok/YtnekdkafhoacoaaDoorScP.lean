import Derived.Test.YtnekdkafhoacoaaDoorAzP
namespace Go.Proofs.YtnekdkafhoacoaaDoor
open Go
set_option linter.unusedVariables false

/-- A field of a schema, in plain words. -/
structure Fd where
  name : List UInt8
  kind : Int
  bf : Bool
  bsm : Bool
  bp : Bool
  stops : List (List UInt8)
  syns : List (List UInt8 × List UInt8)
  lo : Int
  hi : Int
def fd0 : Fd := ⟨[], 0, false, false, false, [], [], 0, 0⟩
def smallC (c : UInt8) : Bool := decide (97 ≤ (c.toNat : Int)) && decide ((c.toNat : Int) ≤ 122)
def digC (c : UInt8) : Bool := decide (48 ≤ (c.toNat : Int)) && decide ((c.toNat : Int) ≤ 57)
def nmC (c : UInt8) : Bool := smallC c || digC c || decide ((c.toNat : Int) = 95)
def nmOK (n : List UInt8) : Bool := decide (1 ≤ n.length) && decide (n.length ≤ 30) && smallC (n.getD 0 0) && n.all nmC
def zrOK (f : Fd) : Bool := !f.bf && !f.bsm && !f.bp && decide (f.stops.length + f.syns.length = 0) && decide (f.lo = 0) && decide (f.hi = 0)
def leT (x y : List UInt8) : Bool := Op.bytesLess x y || x == y
def fdOK (f : Fd) : Bool := nmOK f.name && (if f.kind = 1 then azOK f.stops f.syns f.lo f.hi else if f.kind = 2 ∨ f.kind = 3 then zrOK f else false)
def scAt (l : List Fd) (i : Nat) : Bool := fdOK (l.getD i fd0) && !(decide (0 < i) && leT (l.getD i fd0).name (l.getD (i - 1) fd0).name)
def scOK (l : List Fd) : Bool := decide (1 ≤ l.length) && decide (l.length ≤ 16) && (List.range l.length).all (scAt l)
theorem zr_az (f : Fd) (h : zrOK f = true) : azOK f.stops f.syns f.lo f.hi = true := by
  simp only [zrOK, Bool.and_eq_true, decide_eq_true_eq] at h
  obtain ⟨⟨⟨_, h1⟩, h2⟩, h3⟩ := h
  have e1 : f.stops = [] := List.length_eq_zero_iff.1 (by omega)
  have e2 : f.syns = [] := List.length_eq_zero_iff.1 (by omega)
  rw [e1, e2, h2, h3]
  rfl
/-- As the document's own words have it. -/
theorem fdOK_eq (f : Fd) : fdOK f = (nmOK f.name && decide (1 ≤ f.kind) && decide (f.kind ≤ 3) && azOK f.stops f.syns f.lo f.hi && (decide (f.kind = 1) || zrOK f)) := by
  unfold fdOK
  by_cases h1 : f.kind = 1
  · rw [if_pos h1, decide_eq_true h1, decide_eq_true (p := 1 ≤ f.kind) (by omega), decide_eq_true (p := f.kind ≤ 3) (by omega)]; simp
  · rw [if_neg h1, decide_eq_false h1]
    by_cases h2 : f.kind = 2 ∨ f.kind = 3
    · rw [if_pos h2, decide_eq_true (p := 1 ≤ f.kind) (by omega), decide_eq_true (p := f.kind ≤ 3) (by omega)]
      cases hz : zrOK f with
      | true => rw [zr_az f hz]; simp
      | false => simp
    · rw [if_neg h2]
      by_cases h3 : 1 ≤ f.kind
      · rw [decide_eq_false (p := f.kind ≤ 3) (by omega)]; simp
      · rw [decide_eq_false h3]; simp
theorem all_range_take (p : Nat → Bool) (n k : Nat) (h : (List.range k).all p = true) (hp : p k = true) : (List.range (k + 1)).all p = true := by
  rw [List.range_succ, List.all_append, h]; simpa using hp
theorem scOK_no {l : List Fd} {k : Nat} (hk : k < l.length) (h : scAt l k = false) : scOK l = false := by
  unfold scOK
  have : (List.range l.length).all (scAt l) = false := by
    rw [List.all_eq_false]
    exact ⟨k, List.mem_range.2 hk, by simp [h]⟩
  rw [this]; simp
theorem scOK_len {l : List Fd} (h : l.length < 1 ∨ 16 < l.length) : scOK l = false := by
  unfold scOK
  rcases h with h | h
  · rw [decide_eq_false (p := 1 ≤ l.length) (by omega)]; simp
  · rw [decide_eq_false (p := l.length ≤ 16) (by omega)]; simp
theorem scOK_yes {l : List Fd} (h1 : 1 ≤ l.length) (h2 : l.length ≤ 16) (h : (List.range l.length).all (scAt l) = true) : scOK l = true := by
  unfold scOK
  rw [decide_eq_true h1, decide_eq_true h2, h]; rfl
theorem nmOK_no {n : List UInt8} {k : Nat} (hk : k < n.length) (h : nmC (n.getD k 0) = false) : nmOK n = false := by
  unfold nmOK
  have : n.all nmC = false := by
    rw [List.all_eq_false]
    refine ⟨n.getD k 0, ?_, by rw [h]; simp⟩
    rw [List.getD_eq_getElem?_getD, List.getElem?_eq_getElem hk, Option.getD_some]
    exact List.getElem_mem _
  rw [this]; simp
end Go.Proofs.YtnekdkafhoacoaaDoor
