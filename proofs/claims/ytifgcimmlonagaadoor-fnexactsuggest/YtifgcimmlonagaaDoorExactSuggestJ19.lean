import Derived.Test.YtifgcimmlonagaaDoorExactSuggestJ16
import Derived.Lib.SlicesCompact
import Derived.Ground.NamesProg
import Derived.Shelf.Sort.Plain
import Derived.Shelf.Slices.CompactS
import Derived.Test.YtifgcimmlonagaaDoorProg
namespace Go.Proofs.YtifgcimmlonagaaDoor
open Go
set_option linter.unusedVariables false

/-! Words in order, each once. -/
theorem lt_ltT : ∀ (x y : Tx), x < y ↔ ltT x y = true
  | [], [] => by simp [ltT]
  | [], b :: y => by simp [ltT]
  | a :: x, [] => by simp [ltT]
  | a :: x, b :: y => by
    rw [List.cons_lt_cons_iff, ltT_cons, lt_ltT x y]
    exact Iff.rfl
theorem le_ltT (x y : Tx) : decide (x ≤ y) = !(ltT y x) := by
  rw [Bool.eq_iff_iff, decide_eq_true_eq, Bool.not_eq_true', ← List.not_lt, lt_ltT]
  cases ltT y x <;> simp
def sorted (L : List Tx) : List Tx := L.mergeSort fun x y => decide (x ≤ y)
theorem sorted_perm (L : List Tx) : (sorted L).Perm L := List.mergeSort_perm L _
theorem sorted_pw (L : List Tx) : (sorted L).Pairwise fun x y => ltT y x = false := by
  have h := List.pairwise_mergeSort (le := fun x y : Tx => decide (x ≤ y)) (fun a b c h1 h2 => by
    rw [le_ltT, Bool.not_eq_true'] at *
    exact ltT_nt a b c h1 h2) (fun a b => by
    rw [le_ltT, le_ltT]
    cases e : ltT b a with
    | false => rfl
    | true => rw [ltT_asym b a e]; rfl) L
  refine h.imp ?_
  intro a b hab
  rw [le_ltT, Bool.not_eq_true'] at hab
  exact hab
theorem compact_rise (S : List Tx) (hS : S.Pairwise fun x y => ltT y x = false) : RiseT (Lib.compact S) ∧ ∀ t, t ∈ Lib.compact S ↔ t ∈ S := by
  have hget : ∀ j, j < S.length → S.toArray[j]! = S.getD j default := fun j hj => by simp [hj]
  have hle : ∀ i j, i ≤ j → j < S.length → ltT (S.getD j default) (S.getD i default) = false := fun i j hij hj => by
    rcases Nat.lt_or_eq_of_le hij with h | h
    · have := List.pairwise_iff_getElem.1 hS i j (by omega) hj h
      rw [List.getD_eq_getElem?_getD, List.getD_eq_getElem?_getD, List.getElem?_eq_getElem hj, List.getElem?_eq_getElem (by omega)]
      exact this
    · subst h; exact ltT_irr _
  have key : ∀ m, m ≤ S.length → RiseT (Lib.compactUpTo S.toArray m) ∧ ∀ t, t ∈ Lib.compactUpTo S.toArray m ↔ ∃ j, j < m ∧ t = S.getD j default := by
    intro m
    induction m with
    | zero => intro _; exact ⟨List.Pairwise.nil, fun t => by simp [Lib.compactUpTo]⟩
    | succ m ih =>
      intro hm
      obtain ⟨ih1, ih2⟩ := ih (by omega)
      rw [Lib.compactUpTo_succ]
      cases hk : Lib.keeps S.toArray m with
      | true =>
        rw [if_pos rfl, hget m (by omega)]
        refine ⟨?_, fun t => ?_⟩
        · rw [RiseT, List.pairwise_append]
          refine ⟨ih1, by simp, fun x hx y hy => ?_⟩
          have hy' : y = S.getD m default := by simpa using hy
          subst hy'
          obtain ⟨j, hj, rfl⟩ := (ih2 x).1 hx
          unfold Lib.keeps at hk
          rw [decide_eq_true_eq] at hk
          rcases hk with hk | hk
          · omega
          · rw [hget m (by omega), hget (m - 1) (by omega)] at hk
            cases e : ltT (S.getD j default) (S.getD m default) with
            | true => rfl
            | false =>
              have e2 := ltT_tri _ _ e (hle j m (by omega) (by omega))
              have h1 := hle j (m - 1) (by omega) (by omega)
              have h2 := hle (m - 1) m (by omega) (by omega)
              rw [e2] at h1
              exact absurd (ltT_tri _ _ h2 h1) hk
        · rw [List.mem_append, ih2]
          constructor
          · rintro (⟨j, hj, rfl⟩ | h)
            · exact ⟨j, by omega, rfl⟩
            · exact ⟨m, by omega, by simpa using h⟩
          · rintro ⟨j, hj, rfl⟩
            by_cases e : j = m
            · subst e; exact .inr (by simp)
            · exact .inl ⟨j, by omega, rfl⟩
      | false =>
        rw [if_neg (by simp), List.append_nil]
        refine ⟨ih1, fun t => ?_⟩
        rw [ih2]
        constructor
        · rintro ⟨j, hj, rfl⟩; exact ⟨j, by omega, rfl⟩
        · rintro ⟨j, hj, rfl⟩
          by_cases e : j = m
          · subst e
            unfold Lib.keeps at hk
            rw [decide_eq_false_iff_not] at hk
            have h0 : ¬ j = 0 := fun e => hk (.inl e)
            have h1 : S.toArray[j]! = S.toArray[j - 1]! := Classical.byContradiction fun e => hk (.inr e)
            rw [hget j (by omega), hget (j - 1) (by omega)] at h1
            exact ⟨j - 1, by omega, h1⟩
          · exact ⟨j, by omega, rfl⟩
  obtain ⟨k1, k2⟩ := key S.length (Nat.le_refl _)
  refine ⟨k1, fun t => ?_⟩
  rw [Lib.compact, k2]
  constructor
  · rintro ⟨j, hj, rfl⟩
    rw [List.getD_eq_getElem?_getD, List.getElem?_eq_getElem hj]
    exact List.getElem_mem hj
  · intro h
    obtain ⟨j, hj, rfl⟩ := List.getElem_of_mem h
    exact ⟨j, hj, by rw [List.getD_eq_getElem?_getD, List.getElem?_eq_getElem hj]; rfl⟩
def names (L : List Tx) : List Tx := Lib.compact (sorted L)
theorem names_rise (L : List Tx) : RiseT (names L) := (compact_rise _ (sorted_pw L)).1
theorem names_mem (L : List Tx) (t : Tx) : t ∈ names L ↔ t ∈ L := by rw [names, (compact_rise _ (sorted_pw L)).2, (sorted_perm L).mem_iff]
theorem names_uniq {L N : List Tx} (h : RiseT N) (hm : ∀ t, t ∈ N ↔ t ∈ L) : N = names L := rise_ext h (names_rise L) fun t => by rw [hm, names_mem]
/-- How near a word is; too far, if it is too long. -/
def shortW (t : Tx) : Bool := decide ((runes (bs t)).length ≤ 200)
def eX (a : List Int) (t : Tx) : Nat := if shortW t = true then edits a (runes (bs t)) else 3
theorem names_filter (L : List Tx) : names (L.filter shortW) = (names L).filter shortW := by
  symm
  refine names_uniq (List.Pairwise.filter _ (names_rise L)) fun t => ?_
  rw [List.mem_filter, List.mem_filter, names_mem]
theorem ofD_filter (a : List Int) (L : List Tx) (d : Nat) (hd : d < 3) : ofD (eX a) (L.filter shortW) d = ofD (eX a) L d := by
  unfold ofD
  rw [List.filter_filter]
  refine List.filter_congr fun t _ => ?_
  unfold eX
  cases h : shortW t with
  | true => simp
  | false => simp; omega
theorem told_filter (a : List Int) (L : List Tx) (most : Nat) : toldW (eX a) (names (L.filter shortW)) most = toldW (eX a) (names L) most := by
  unfold toldW
  rw [names_filter, ofD_filter a _ 0 (by omega), ofD_filter a _ 1 (by omega), ofD_filter a _ 2 (by omega)]
theorem told_edT (a : List Int) (L : List Tx) (h : ∀ t ∈ L, shortW t = true) (most : Nat) : toldW (edT a) L most = toldW (eX a) L most := by
  have e : ∀ d, ofD (edT a) L d = ofD (eX a) L d := fun d => List.filter_congr fun t ht => by rw [eX, if_pos (h t ht)]; rfl
  unfold toldW
  rw [e, e, e]
/-- What Suggest tells. -/
def sgCode (L : List Tx) (t : ByteArray) (most : Int) : Int :=
  if 4096 < L.length then 2 else if decCode t ≠ 0 then decCode t else if L.all (fun x => validB (bs x)) = false then 3 else if 200 < (runes t).length ∨ most < 0 ∨ 20 < most then 12 else 0
def sgList (L : List Tx) (t : ByteArray) (most : Int) : List Tx := if sgCode L t most = 0 then toldW (eX (runes t)) (names L) most.toNat else []
end Go.Proofs.YtifgcimmlonagaaDoor

namespace Go.Proofs
open Go.Shelf
def Tryd.laysSort_ren : Go.Shelf.Ren := ⟨fun | 190 => 46 | 125 => 64 | 258 => 63 | 128 => 80 | 129 => 81 | 302 => 71 | 303 => 72 | 304 => 73 | 305 => 74 | 306 => 75 | 307 => 76 | 308 => 77 | 309 => 78 | 310 => 79 | 333 => 82 | 329 => 83 | 330 => 84 | 334 => 85 | 335 => 86 | 336 => 69 | 344 => 87 | n => n, fun | 31 => 23 | 9 => 9 | 3 => 3 | 46 => 96 | 0 => 0 | 51 => 120 | 53 => 110 | 4 => 4 | 183 => 113 | 182 => 112 | 131 => 117 | 5 => 5 | 218 => 123 | 222 => 127 | 228 => 129 | 229 => 28 | n => n, fun | n => n⟩
theorem Tryd.laysSort : Go.Proofs.Lays.n190 Tryd.prog Tryd.laysSort_ren := {
  mixed := by kernel_rfl
  f125 := Tryd.func64.trans (congrArg some (by kernel_rfl))
  f128 := Tryd.func80.trans (congrArg some (by kernel_rfl))
  f129 := Tryd.func81.trans (congrArg some (by kernel_rfl))
  f190 := Tryd.func46.trans (congrArg some (by kernel_rfl))
  f258 := Tryd.func63.trans (congrArg some (by kernel_rfl))
  f302 := Tryd.func71.trans (congrArg some (by kernel_rfl))
  f303 := Tryd.func72.trans (congrArg some (by kernel_rfl))
  f304 := Tryd.func73.trans (congrArg some (by kernel_rfl))
  f305 := Tryd.func74.trans (congrArg some (by kernel_rfl))
  f306 := Tryd.func75.trans (congrArg some (by kernel_rfl))
  f307 := Tryd.func76.trans (congrArg some (by kernel_rfl))
  f308 := Tryd.func77.trans (congrArg some (by kernel_rfl))
  f309 := Tryd.func78.trans (congrArg some (by kernel_rfl))
  f310 := Tryd.func79.trans (congrArg some (by kernel_rfl))
  f329 := Tryd.func83.trans (congrArg some (by kernel_rfl))
  f330 := Tryd.func84.trans (congrArg some (by kernel_rfl))
  f333 := Tryd.func82.trans (congrArg some (by kernel_rfl))
  f334 := Tryd.func85.trans (congrArg some (by kernel_rfl))
  f335 := Tryd.func86.trans (congrArg some (by kernel_rfl))
  f336 := Tryd.func69.trans (congrArg some (by kernel_rfl))
  f344 := Tryd.func87.trans (congrArg some (by kernel_rfl))
  t0 := Tryd.underlying0
  a0 := Tryd.isAgg0
  z0 := Tryd.sizeOf0
  v0 := Tryd.zeroValue0
  t3 := Tryd.underlying3
  a3 := Tryd.isAgg3
  z3 := Tryd.sizeOf3
  v3 := Tryd.zeroValue3
  t4 := Tryd.underlying4
  a4 := Tryd.isAgg4
  z4 := Tryd.sizeOf4
  v4 := Tryd.zeroValue4
  t5 := Tryd.underlying5
  a5 := Tryd.isAgg5
  z5 := Tryd.sizeOf5
  v5 := Tryd.zeroValue5
  t9 := Tryd.underlying9
  a9 := Tryd.isAgg9
  z9 := Tryd.sizeOf9
  v9 := Tryd.zeroValue9
  t31 := Tryd.underlying23
  a31 := Tryd.isAgg23
  z31 := Tryd.sizeOf23
  v31 := Tryd.zeroValue23
  t46 := Tryd.underlying96
  a46 := Tryd.isAgg96
  z46 := Tryd.sizeOf96
  v46 := Tryd.zeroValue96
  t51 := Tryd.underlying120
  a51 := Tryd.isAgg120
  z51 := Tryd.sizeOf120
  v51 := Tryd.zeroValue120
  t53 := Tryd.underlying110
  a53 := Tryd.isAgg110
  z53 := Tryd.sizeOf110
  v53 := Tryd.zeroValue110
  t131 := Tryd.underlying117
  a131 := Tryd.isAgg117
  z131 := Tryd.sizeOf117
  v131 := Tryd.zeroValue117
  t182 := Tryd.underlying112
  a182 := Tryd.isAgg112
  z182 := Tryd.sizeOf112
  v182 := Tryd.zeroValue112
  t183 := Tryd.underlying113
  a183 := Tryd.isAgg113
  z183 := Tryd.sizeOf113
  v183 := Tryd.zeroValue113
  t218 := Tryd.underlying123
  a218 := Tryd.isAgg123
  z218 := Tryd.sizeOf123
  v218 := Tryd.zeroValue123
  t222 := Tryd.underlying127
  a222 := Tryd.isAgg127
  z222 := Tryd.sizeOf127
  v222 := Tryd.zeroValue127
  t228 := Tryd.underlying129
  a228 := Tryd.isAgg129
  z228 := Tryd.sizeOf129
  v228 := Tryd.zeroValue129
  t229 := Tryd.underlying28
  a229 := Tryd.isAgg28
  z229 := Tryd.sizeOf28
  v229 := Tryd.zeroValue28 }
def Tryd.laysComp_ren : Go.Shelf.Ren := ⟨fun | 194 => 47 | n => n, fun | 31 => 23 | 9 => 9 | 3 => 3 | 4 => 4 | 0 => 0 | n => n, fun | n => n⟩
theorem Tryd.laysComp : Go.Proofs.Lays.n194 Tryd.prog Tryd.laysComp_ren := {
  mixed := by kernel_rfl
  f194 := Tryd.func47.trans (congrArg some (by kernel_rfl))
  t0 := Tryd.underlying0
  a0 := Tryd.isAgg0
  z0 := Tryd.sizeOf0
  v0 := Tryd.zeroValue0
  t3 := Tryd.underlying3
  a3 := Tryd.isAgg3
  z3 := Tryd.sizeOf3
  v3 := Tryd.zeroValue3
  t4 := Tryd.underlying4
  a4 := Tryd.isAgg4
  z4 := Tryd.sizeOf4
  v4 := Tryd.zeroValue4
  t9 := Tryd.underlying9
  a9 := Tryd.isAgg9
  z9 := Tryd.sizeOf9
  v9 := Tryd.zeroValue9
  t31 := Tryd.underlying23
  a31 := Tryd.isAgg23
  z31 := Tryd.sizeOf23
  v31 := Tryd.zeroValue23 }
end Go.Proofs
