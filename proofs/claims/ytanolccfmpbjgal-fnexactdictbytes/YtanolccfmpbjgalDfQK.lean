import Derived.Test.YtanolccfmpbjgalDfPK
import Derived.Test.YtanolccfmpbjgalDictOKJ01
namespace Go.Proofs.Ytanolccfmpbjgal
open Go
set_option linter.unusedVariables false

/-! Searching among arcs that rise. -/
def cmpI (x y : Int) : Int := if x < y then -1 else if y < x then 1 else 0
def below (key : Ar → Int) (T : Int) (l : List Ar) : Nat := l.countP fun a => decide (key a < T)
def foundAt (key : Ar → Int) (T : Int) (l : List Ar) : Bool := match l[below key T l]? with
  | some a => decide (key a = T)
  | none => false
theorem below_edge (key : Ar → Int) (T : Int) : ∀ (l : List Ar) (i : Nat), i ≤ l.length → (∀ t, t < i → key (l.getD t ar0) < T) → (∀ t, i ≤ t → t < l.length → ¬ key (l.getD t ar0) < T) → below key T l = i
  | [], i, hi, _, _ => by simp at hi; simp [below, hi]
  | a :: r, 0, _, _, h2 => by
    unfold below
    rw [List.countP_eq_zero]
    intro x hx
    obtain ⟨t, ht, rfl⟩ := List.getElem_of_mem hx
    have := h2 t (Nat.zero_le _) ht
    have e : (a :: r).getD t ar0 = (a :: r)[t] := by simp [List.getD_eq_getElem?_getD, List.getElem?_eq_getElem ht]
    rw [e] at this
    simpa using this
  | a :: r, i + 1, hi, h1, h2 => by
    have ha : key a < T := by simpa using h1 0 (Nat.succ_pos _)
    have ih := below_edge key T r i (by simpa using hi) (fun t ht => by simpa using h1 (t + 1) (by omega)) (fun t h3 h4 => by simpa using h2 (t + 1) (by omega) (by simpa using h4))
    unfold below at ih ⊢
    rw [List.countP_cons, ih]
    simp [ha]
theorem below_le (key : Ar → Int) (T : Int) (l : List Ar) : below key T l ≤ l.length := List.countP_le_length
/-- The labels of a set. -/
theorem nat_edge : ∀ {l : List Nat} (b : Nat), l.Pairwise (· < ·) → (b ∈ l → l[l.countP fun n => decide (n < b)]? = some b) ∧ (∀ n, l[l.countP fun n => decide (n < b)]? = some n → n = b → b ∈ l)
  | [], b, _ => ⟨fun h => by simp at h, fun n h => by simp at h⟩
  | a :: r, b, hp => by
    have hp' := List.pairwise_cons.1 hp
    refine ⟨fun h => ?_, fun n h e => ?_⟩
    · by_cases hab : a < b
      · rw [List.countP_cons_of_pos (by simpa using hab), List.getElem?_cons_succ]
        exact (nat_edge b hp'.2).1 ((List.mem_cons.1 h).resolve_left (by omega))
      · have hz : r.countP (fun n => decide (n < b)) = 0 := by
          rw [List.countP_eq_zero]
          intro x hx
          have := hp'.1 x hx
          simp; omega
        rw [List.countP_cons_of_neg (by simpa using hab), hz, List.getElem?_cons_zero]
        rcases List.mem_cons.1 h with h | h
        · rw [h]
        · have := hp'.1 b h; omega
    · rw [← e]; exact List.mem_of_getElem? h
theorem label_edge {ord : List (List Tx)} (L : List Tx) (b : Nat) : below (fun a => a.1) (b : Int) (stOf ord L).2 = (labelsT L).countP fun n => decide (n < b) := by
  unfold below stOf
  rw [List.countP_map]
  congr 1
  funext n
  simp
/-- What the search by a byte finds. -/
theorem label_found {ord : List (List Tx)} {L : List Tx} {b : Nat} (h : b ∈ labelsT L) : foundAt (fun a => a.1) (b : Int) (stOf ord L).2 = true ∧ (stOf ord L).2[below (fun a => a.1) (b : Int) (stOf ord L).2]? = some ((b : Int), ((ord.idxOf (subT b L) : Nat) : Int), ((aheadT b L : Nat) : Int)) := by
  have h1 := stOf_at (ord := ord) ((nat_edge b (labelsT_lt L)).1 h)
  rw [← label_edge (ord := ord)] at h1
  refine ⟨?_, h1⟩
  rw [foundAt, h1]
  simp
theorem label_not {ord : List (List Tx)} {L : List Tx} {b : Nat} (h : b ∉ labelsT L) : foundAt (fun a => a.1) (b : Int) (stOf ord L).2 = false := by
  rw [foundAt]
  cases e : (stOf ord L).2[below (fun a => a.1) (b : Int) (stOf ord L).2]? with
  | none => rfl
  | some a =>
    rw [label_edge] at e
    cases e2 : (labelsT L)[(labelsT L).countP fun n => decide (n < b)]? with
    | none =>
      have := congrArg (fun l => l[(labelsT L).countP fun n => decide (n < b)]?) (show (stOf ord L).2 = (labelsT L).map fun (n : Nat) => ((n : Int), ((ord.idxOf (subT n L) : Nat) : Int), ((aheadT n L : Nat) : Int)) from rfl)
      simp only [List.getElem?_map, e2, Option.map_none] at this
      rw [this] at e; cases e
    | some n =>
      have h1 := stOf_at (ord := ord) e2
      rw [e] at h1
      cases h1
      refine decide_eq_false fun e3 => h ?_
      have e4 : n = b := by have : (n : Int) = (b : Int) := e3; omega
      exact (nat_edge b (labelsT_lt L)).2 n e2 e4
theorem stOf_rise (ord : List (List Tx)) (L : List Tx) : (stOf ord L).2.Pairwise fun a b => a.1 < b.1 := by
  unfold stOf
  rw [List.pairwise_map]
  exact (labelsT_lt L).imp fun {a b} h => by show (a : Int) < (b : Int); omega
theorem not_label {L : List Tx} {b : UInt8} (h : b.toNat ∉ labelsT L) : subT b.toNat L = [] := by
  have hb := UInt8.toNat_lt b
  exact Classical.byContradiction fun e => h (labelsT_mem.2 ⟨hb, e⟩)
end Go.Proofs.Ytanolccfmpbjgal
