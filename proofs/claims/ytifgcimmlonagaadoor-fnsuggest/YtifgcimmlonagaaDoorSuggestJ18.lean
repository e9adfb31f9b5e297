import Derived.Test.YtifgcimmlonagaaDoorSuggestJ15
import Derived.Lib.SlicesCompact
import Derived.Ground.NamesProg
import Derived.Shelf.Sort.Plain
import Derived.Shelf.Slices.CompactS
import Derived.Test.YtifgcimmlonagaaDoorProg
import Derived.Test.YtifgcimmlonagaaDoorSuggestJ17
import Derived.Sort.OwnSorted
import Derived.Shelf.Slices.In.SortNone
namespace Go.Proofs.YtifgcimmlonagaaDoor
open Go
set_option linter.unusedVariables false

/-! Words in order, each once. -/
theorem lt_ltT : ∀ (x y : Tx), x < y ↔ ltT x y = true
  | [], [] => by simp [ltT]
  | [], b :: y => by simp [ltT]
  | a :: x, [] => by simp [ltT]
  | a :: x, b :: y => by
    rw [List.cons_lt_cons_iff, ltT_cons, lt_ltT x y]
    exact Iff.rfl
theorem le_ltT (x y : Tx) : decide (x ≤ y) = !(ltT y x) := by
  rw [Bool.eq_iff_iff, decide_eq_true_eq, Bool.not_eq_true', ← List.not_lt, lt_ltT]
  cases ltT y x <;> simp
def sorted (L : List Tx) : List Tx := L.mergeSort fun x y => decide (x ≤ y)
theorem sorted_perm (L : List Tx) : (sorted L).Perm L := List.mergeSort_perm L _
theorem sorted_pw (L : List Tx) : (sorted L).Pairwise fun x y => ltT y x = false := by
  have h := List.pairwise_mergeSort (le := fun x y : Tx => decide (x ≤ y)) (fun a b c h1 h2 => by
    rw [le_ltT, Bool.not_eq_true'] at *
    exact ltT_nt a b c h1 h2) (fun a b => by
    rw [le_ltT, le_ltT]
    cases e : ltT b a with
    | false => rfl
    | true => rw [ltT_asym b a e]; rfl) L
  refine h.imp ?_
  intro a b hab
  rw [le_ltT, Bool.not_eq_true'] at hab
  exact hab
theorem compact_rise (S : List Tx) (hS : S.Pairwise fun x y => ltT y x = false) : RiseT (Lib.compact S) ∧ ∀ t, t ∈ Lib.compact S ↔ t ∈ S := by
  have hget : ∀ j, j < S.length → S.toArray[j]! = S.getD j default := fun j hj => by simp [hj]
  have hle : ∀ i j, i ≤ j → j < S.length → ltT (S.getD j default) (S.getD i default) = false := fun i j hij hj => by
    rcases Nat.lt_or_eq_of_le hij with h | h
    · have := List.pairwise_iff_getElem.1 hS i j (by omega) hj h
      rw [List.getD_eq_getElem?_getD, List.getD_eq_getElem?_getD, List.getElem?_eq_getElem hj, List.getElem?_eq_getElem (by omega)]
      exact this
    · subst h; exact ltT_irr _
  have key : ∀ m, m ≤ S.length → RiseT (Lib.compactUpTo S.toArray m) ∧ ∀ t, t ∈ Lib.compactUpTo S.toArray m ↔ ∃ j, j < m ∧ t = S.getD j default := by
    intro m
    induction m with
    | zero => intro _; exact ⟨List.Pairwise.nil, fun t => by simp [Lib.compactUpTo]⟩
    | succ m ih =>
      intro hm
      obtain ⟨ih1, ih2⟩ := ih (by omega)
      rw [Lib.compactUpTo_succ]
      cases hk : Lib.keeps S.toArray m with
      | true =>
        rw [if_pos rfl, hget m (by omega)]
        refine ⟨?_, fun t => ?_⟩
        · rw [RiseT, List.pairwise_append]
          refine ⟨ih1, by simp, fun x hx y hy => ?_⟩
          have hy' : y = S.getD m default := by simpa using hy
          subst hy'
          obtain ⟨j, hj, rfl⟩ := (ih2 x).1 hx
          unfold Lib.keeps at hk
          rw [decide_eq_true_eq] at hk
          rcases hk with hk | hk
          · omega
          · rw [hget m (by omega), hget (m - 1) (by omega)] at hk
            cases e : ltT (S.getD j default) (S.getD m default) with
            | true => rfl
            | false =>
              have e2 := ltT_tri _ _ e (hle j m (by omega) (by omega))
              have h1 := hle j (m - 1) (by omega) (by omega)
              have h2 := hle (m - 1) m (by omega) (by omega)
              rw [e2] at h1
              exact absurd (ltT_tri _ _ h2 h1) hk
        · rw [List.mem_append, ih2]
          constructor
          · rintro (⟨j, hj, rfl⟩ | h)
            · exact ⟨j, by omega, rfl⟩
            · exact ⟨m, by omega, by simpa using h⟩
          · rintro ⟨j, hj, rfl⟩
            by_cases e : j = m
            · subst e; exact .inr (by simp)
            · exact .inl ⟨j, by omega, rfl⟩
      | false =>
        rw [if_neg (by simp), List.append_nil]
        refine ⟨ih1, fun t => ?_⟩
        rw [ih2]
        constructor
        · rintro ⟨j, hj, rfl⟩; exact ⟨j, by omega, rfl⟩
        · rintro ⟨j, hj, rfl⟩
          by_cases e : j = m
          · subst e
            unfold Lib.keeps at hk
            rw [decide_eq_false_iff_not] at hk
            have h0 : ¬ j = 0 := fun e => hk (.inl e)
            have h1 : S.toArray[j]! = S.toArray[j - 1]! := Classical.byContradiction fun e => hk (.inr e)
            rw [hget j (by omega), hget (j - 1) (by omega)] at h1
            exact ⟨j - 1, by omega, h1⟩
          · exact ⟨j, by omega, rfl⟩
  obtain ⟨k1, k2⟩ := key S.length (Nat.le_refl _)
  refine ⟨k1, fun t => ?_⟩
  rw [Lib.compact, k2]
  constructor
  · rintro ⟨j, hj, rfl⟩
    rw [List.getD_eq_getElem?_getD, List.getElem?_eq_getElem hj]
    exact List.getElem_mem hj
  · intro h
    obtain ⟨j, hj, rfl⟩ := List.getElem_of_mem h
    exact ⟨j, hj, by rw [List.getD_eq_getElem?_getD, List.getElem?_eq_getElem hj]; rfl⟩
def names (L : List Tx) : List Tx := Lib.compact (sorted L)
theorem names_rise (L : List Tx) : RiseT (names L) := (compact_rise _ (sorted_pw L)).1
theorem names_mem (L : List Tx) (t : Tx) : t ∈ names L ↔ t ∈ L := by rw [names, (compact_rise _ (sorted_pw L)).2, (sorted_perm L).mem_iff]
theorem names_uniq {L N : List Tx} (h : RiseT N) (hm : ∀ t, t ∈ N ↔ t ∈ L) : N = names L := rise_ext h (names_rise L) fun t => by rw [hm, names_mem]
/-- How near a word is; too far, if it is too long. -/
def shortW (t : Tx) : Bool := decide ((runes (bs t)).length ≤ 200)
def eX (a : List Int) (t : Tx) : Nat := if shortW t = true then edits a (runes (bs t)) else 3
theorem names_filter (L : List Tx) : names (L.filter shortW) = (names L).filter shortW := by
  symm
  refine names_uniq (List.Pairwise.filter _ (names_rise L)) fun t => ?_
  rw [List.mem_filter, List.mem_filter, names_mem]
theorem ofD_filter (a : List Int) (L : List Tx) (d : Nat) (hd : d < 3) : ofD (eX a) (L.filter shortW) d = ofD (eX a) L d := by
  unfold ofD
  rw [List.filter_filter]
  refine List.filter_congr fun t _ => ?_
  unfold eX
  cases h : shortW t with
  | true => simp
  | false => simp; omega
theorem told_filter (a : List Int) (L : List Tx) (most : Nat) : toldW (eX a) (names (L.filter shortW)) most = toldW (eX a) (names L) most := by
  unfold toldW
  rw [names_filter, ofD_filter a _ 0 (by omega), ofD_filter a _ 1 (by omega), ofD_filter a _ 2 (by omega)]
theorem told_edT (a : List Int) (L : List Tx) (h : ∀ t ∈ L, shortW t = true) (most : Nat) : toldW (edT a) L most = toldW (eX a) L most := by
  have e : ∀ d, ofD (edT a) L d = ofD (eX a) L d := fun d => List.filter_congr fun t ht => by rw [eX, if_pos (h t ht)]; rfl
  unfold toldW
  rw [e, e, e]
/-- What Suggest tells. -/
def sgCode (L : List Tx) (t : ByteArray) (most : Int) : Int :=
  if 4096 < L.length then 2 else if decCode t ≠ 0 then decCode t else if L.all (fun x => validB (bs x)) = false then 3 else if 200 < (runes t).length ∨ most < 0 ∨ 20 < most then 12 else 0
def sgList (L : List Tx) (t : ByteArray) (most : Int) : List Tx := if sgCode L t most = 0 then toldW (eX (runes t)) (names L) most.toNat else []
end Go.Proofs.YtifgcimmlonagaaDoor

namespace Go.Proofs
open Go.Shelf
def Tryd.laysSort_ren : Go.Shelf.Ren := ⟨fun | 190 => 46 | 125 => 64 | 258 => 63 | 128 => 80 | 129 => 81 | 302 => 71 | 303 => 72 | 304 => 73 | 305 => 74 | 306 => 75 | 307 => 76 | 308 => 77 | 309 => 78 | 310 => 79 | 333 => 82 | 329 => 83 | 330 => 84 | 334 => 85 | 335 => 86 | 336 => 69 | 344 => 87 | n => n, fun | 31 => 23 | 9 => 9 | 3 => 3 | 46 => 96 | 0 => 0 | 51 => 120 | 53 => 110 | 4 => 4 | 183 => 113 | 182 => 112 | 131 => 117 | 5 => 5 | 218 => 123 | 222 => 127 | 228 => 129 | 229 => 28 | n => n, fun | n => n⟩
theorem Tryd.laysSort : Go.Proofs.Lays.n190 Tryd.prog Tryd.laysSort_ren := {
  mixed := by kernel_rfl
  f125 := Tryd.func64.trans (congrArg some (by kernel_rfl))
  f128 := Tryd.func80.trans (congrArg some (by kernel_rfl))
  f129 := Tryd.func81.trans (congrArg some (by kernel_rfl))
  f190 := Tryd.func46.trans (congrArg some (by kernel_rfl))
  f258 := Tryd.func63.trans (congrArg some (by kernel_rfl))
  f302 := Tryd.func71.trans (congrArg some (by kernel_rfl))
  f303 := Tryd.func72.trans (congrArg some (by kernel_rfl))
  f304 := Tryd.func73.trans (congrArg some (by kernel_rfl))
  f305 := Tryd.func74.trans (congrArg some (by kernel_rfl))
  f306 := Tryd.func75.trans (congrArg some (by kernel_rfl))
  f307 := Tryd.func76.trans (congrArg some (by kernel_rfl))
  f308 := Tryd.func77.trans (congrArg some (by kernel_rfl))
  f309 := Tryd.func78.trans (congrArg some (by kernel_rfl))
  f310 := Tryd.func79.trans (congrArg some (by kernel_rfl))
  f329 := Tryd.func83.trans (congrArg some (by kernel_rfl))
  f330 := Tryd.func84.trans (congrArg some (by kernel_rfl))
  f333 := Tryd.func82.trans (congrArg some (by kernel_rfl))
  f334 := Tryd.func85.trans (congrArg some (by kernel_rfl))
  f335 := Tryd.func86.trans (congrArg some (by kernel_rfl))
  f336 := Tryd.func69.trans (congrArg some (by kernel_rfl))
  f344 := Tryd.func87.trans (congrArg some (by kernel_rfl))
  t0 := Tryd.underlying0
  a0 := Tryd.isAgg0
  z0 := Tryd.sizeOf0
  v0 := Tryd.zeroValue0
  t3 := Tryd.underlying3
  a3 := Tryd.isAgg3
  z3 := Tryd.sizeOf3
  v3 := Tryd.zeroValue3
  t4 := Tryd.underlying4
  a4 := Tryd.isAgg4
  z4 := Tryd.sizeOf4
  v4 := Tryd.zeroValue4
  t5 := Tryd.underlying5
  a5 := Tryd.isAgg5
  z5 := Tryd.sizeOf5
  v5 := Tryd.zeroValue5
  t9 := Tryd.underlying9
  a9 := Tryd.isAgg9
  z9 := Tryd.sizeOf9
  v9 := Tryd.zeroValue9
  t31 := Tryd.underlying23
  a31 := Tryd.isAgg23
  z31 := Tryd.sizeOf23
  v31 := Tryd.zeroValue23
  t46 := Tryd.underlying96
  a46 := Tryd.isAgg96
  z46 := Tryd.sizeOf96
  v46 := Tryd.zeroValue96
  t51 := Tryd.underlying120
  a51 := Tryd.isAgg120
  z51 := Tryd.sizeOf120
  v51 := Tryd.zeroValue120
  t53 := Tryd.underlying110
  a53 := Tryd.isAgg110
  z53 := Tryd.sizeOf110
  v53 := Tryd.zeroValue110
  t131 := Tryd.underlying117
  a131 := Tryd.isAgg117
  z131 := Tryd.sizeOf117
  v131 := Tryd.zeroValue117
  t182 := Tryd.underlying112
  a182 := Tryd.isAgg112
  z182 := Tryd.sizeOf112
  v182 := Tryd.zeroValue112
  t183 := Tryd.underlying113
  a183 := Tryd.isAgg113
  z183 := Tryd.sizeOf113
  v183 := Tryd.zeroValue113
  t218 := Tryd.underlying123
  a218 := Tryd.isAgg123
  z218 := Tryd.sizeOf123
  v218 := Tryd.zeroValue123
  t222 := Tryd.underlying127
  a222 := Tryd.isAgg127
  z222 := Tryd.sizeOf127
  v222 := Tryd.zeroValue127
  t228 := Tryd.underlying129
  a228 := Tryd.isAgg129
  z228 := Tryd.sizeOf129
  v228 := Tryd.zeroValue129
  t229 := Tryd.underlying28
  a229 := Tryd.isAgg28
  z229 := Tryd.sizeOf28
  v229 := Tryd.zeroValue28 }
def Tryd.laysComp_ren : Go.Shelf.Ren := ⟨fun | 194 => 47 | n => n, fun | 31 => 23 | 9 => 9 | 3 => 3 | 4 => 4 | 0 => 0 | n => n, fun | n => n⟩
theorem Tryd.laysComp : Go.Proofs.Lays.n194 Tryd.prog Tryd.laysComp_ren := {
  mixed := by kernel_rfl
  f194 := Tryd.func47.trans (congrArg some (by kernel_rfl))
  t0 := Tryd.underlying0
  a0 := Tryd.isAgg0
  z0 := Tryd.sizeOf0
  v0 := Tryd.zeroValue0
  t3 := Tryd.underlying3
  a3 := Tryd.isAgg3
  z3 := Tryd.sizeOf3
  v3 := Tryd.zeroValue3
  t4 := Tryd.underlying4
  a4 := Tryd.isAgg4
  z4 := Tryd.sizeOf4
  v4 := Tryd.zeroValue4
  t9 := Tryd.underlying9
  a9 := Tryd.isAgg9
  z9 := Tryd.sizeOf9
  v9 := Tryd.zeroValue9
  t31 := Tryd.underlying23
  a31 := Tryd.isAgg23
  z31 := Tryd.sizeOf23
  v31 := Tryd.zeroValue23 }
end Go.Proofs

namespace Go.Proofs.YtifgcimmlonagaaDoor
open Go Go.RowKit Go.Sort
set_option linter.unusedVariables false
set_option maxRecDepth 100000
set_option linter.unusedSimpArgs false

/-! Words in memory; those that are not too long, in order. -/
def TmA (w : World) (s : Option Addr) (l : List Tx) : Prop := l = [] ∨ ∃ g off, s = some ⟨g, off, none⟩ ∧ g < w.heap.size ∧ ∀ i, i < l.length → w.cell? ⟨g, off + i, none⟩ = some (.string (bs (l.getD i [])))
theorem TmA.below {w w' : World} {s : Option Addr} {l : List Tx} (h : TmA w s l) (hb : Below w.heap.size w w') : TmA w' s l := by
  rcases h with h | ⟨g, off, h1, h2, h3⟩
  · exact .inl h
  · exact .inr ⟨g, off, h1, Nat.lt_of_lt_of_le h2 hb.size, fun t ht => (hb.cell (p := ⟨g, off + t, none⟩) h2).trans (h3 t ht)⟩
theorem getD_mem {α : Type} {l : List α} {i : Nat} {d : α} (h : i < l.length) : l.getD i d ∈ l := by
  rw [List.getD_eq_getElem?_getD, List.getElem?_eq_getElem h]
  exact List.getElem_mem h
set_option maxHeartbeats 2000000 in
theorem allWell_any (L : List Tx) (s : Option Addr) (cap : Nat) (w : World) (hl : L.length ≤ 1048576) (hz : ∀ t ∈ L, t.length ≤ 1048576) (hS : TmA w s L) (hT : Tabs w) :
    Calls Tryd.prog 25 #[.slice s L.length cap] w fun e w' => e = .returned (.bool (L.all fun x => validB (bs x))) ∧ Below w.heap.size w w' := by
  have HS := hidd hS
  have HT := hidd hT
  have HZ := hidd hz
  clear hS hT hz
  go_enter Tryd.func25, Tryd.ntmps25
  go_wp2_with fail
  go_loopw [7] (fun iv wr => ∃ i : Nat, i ≤ L.length ∧ iv = .int .i64 (i : Int) ∧ ((L.take i).all fun x => validB (bs x)) = true ∧ Below w.heap.size w wr) (fun iv _ => L.length - (intOf iv).toNat)
  case atStart => exact ⟨0, Nat.zero_le _, rfl, by simp, Below.refl _ _⟩
  case round =>
    obtain ⟨i, hi, rfl, hall, hb⟩ := hrel
    have HA := hidd hall
    have HB := hidd hb
    clear hall hb
    by_cases hlt : i < L.length
    · have hltz : (i : Int) < (L.length : Int) := by omega
      obtain ⟨g, off, rfl, hg, hc⟩ := (HS.out.below HB.out).resolve_left (fun h => by rw [h] at hlt; simp at hlt)
      have x0 := hc i hlt
      have hm : L.getD i [] ∈ L := getD_mem hlt
      have hzt := HZ.out _ hm
      have Htk : Hid (L.take (i + 1) = L.take i ++ [L.getD i []]) := by
        show _ = _
        rw [List.take_succ_eq_append_getElem hlt, List.getD_eq_getElem?_getD, List.getElem?_eq_getElem hlt]; rfl
      have HM := hidd hm
      clear hc hm
      generalize L.getD i [] = t at *
      have HV := hidd (valid_any (bs t) wr (by rw [bs_size]; omega) (HT.out.below HB.out))
      generalize hT0 : bs t = T0 at *
      have HT0 := hidd hT0
      clear hT0
      go_wp2_with fail
      refine HV.out.mono ?_
      rintro e w2 ⟨rfl, hb2⟩
      have HB2 := hidd (HB.out.trans (hb2.mono HB.out.size))
      clear hb2 x0
      cases hv : validB T0 with
      | true =>
        have Hv := hidd hv
        clear hv
        go_wp2_with fail
        go_roundw
        case rel =>
          refine ⟨i + 1, by omega, by go_num, ?_, HB2.out⟩
          rw [Htk.out, List.all_append, HA.out]
          simp [HT0.out, Hv.out]
        case measure => simp [intOf]; omega
      | false =>
        have HE : Hid ((L.all fun x => validB (bs x)) = false) := by
          show _ = _
          rw [List.all_eq_false]
          exact ⟨t, HM.out, by rw [HT0.out, hv]; simp⟩
        clear hv
        go_wp2_with fail
        go_ret
        rw [HE.out]
        exact ⟨rfl, HB2.out⟩
    · have hltz : ¬ (i : Int) < (L.length : Int) := by omega
      have HE : Hid ((L.all fun x => validB (bs x)) = true) := by
        show _ = _
        have := HA.out
        rw [List.take_of_length_le (by omega)] at this
        exact this
      go_wp2_with fail
      go_ret
      rw [HE.out]
      exact ⟨rfl, HB.out⟩
theorem Tryd.infoStrX : (Tryd.prog.info? 9).map (fun i => (i.zero, i.size, i.bytes)) = some (some (.string ⟨#[]⟩), 1, 16) := by kernel_rfl
def tmCells (l : List Tx) : List Value := l.map fun t => .string (bs t)
theorem tmCells_snoc (l : List Tx) (t : Tx) : tmCells (l ++ [t]) = tmCells l ++ [.string (bs t)] := by simp [tmCells]
theorem tmCells_enc (l : List Tx) : tmCells l = l.map encStr := rfl
theorem own1_cut {w : World} {base e n g cap i : Nat} {xs : List Value} (h : w.ownsRow base e 1 (.slice (some ⟨g, 0, none⟩) n cap) n xs) (hi : i ≤ n) : w.ownsRow base e 1 (.slice (some ⟨g, 0, none⟩) i cap) i (xs.take i) := by
  refine ⟨by rw [List.length_take, h.1]; omega, ?_⟩
  rcases h.2 with ⟨h', _⟩ | ⟨g', cap', cur, h1, h2, h3, h4, h5, h6, h7⟩
  · cases h'
  · simp only [Value.slice.injEq, Option.some.injEq, Addr.mk.injEq, and_true, true_and] at h1
    obtain ⟨rfl, rfl⟩ := h1
    refine Or.inr ⟨g, cap, cur, rfl, h2, h3, by omega, h5, h6, ?_⟩
    rw [← h7, List.take_take]
    congr 1
    omega
theorem compact_len (S : List Tx) : (Lib.compact S).length ≤ S.length := by
  unfold Lib.compact Lib.compactUpTo
  rw [List.length_map]
  exact Nat.le_trans (List.length_filter_le _ _) (by simp)
/-- Sorting an owned row of words. -/
theorem sortRow_any (F : List Tx) (base : Nat) (v : Value) (w : World) (hl : F.length ≤ 1048576) (hown : w.ownsRow base 9 1 v F.length (tmCells F)) :
    Calls Tryd.prog 46 #[v] w fun e w' => e = .returned (.tuple #[]) ∧ w'.ownsRow base 9 1 v F.length (tmCells (sorted F)) ∧ w.grownBy w' v.ownBlock := by
  have hsl : (sorted F).length = F.length := (sorted_perm F).length_eq
  rcases hown.2 with ⟨rfl, h0⟩ | ⟨g, cap, cur, rfl, hb, hg, hc1, hc2, hc3, hc4⟩
  · have hF : F = [] := List.length_eq_zero_iff.1 h0
    subst hF
    refine (Any.slices_Sort_string_none Tryd.laysSort none 0 w).mono ?_
    rintro e w' ⟨rfl, hw⟩
    obtain rfl := hw.symm
    have e0 : sorted ([] : List Tx) = [] := by simp [sorted]
    exact ⟨rfl, by rw [e0]; exact hown, grown_refl _ _⟩
  · have hH : Holds encStr w g 0 F.toArray := holds_of_block hg (by rw [← tmCells_enc, ← hc4, Nat.mul_one])
    refine (Any.slices_Sort_string Tryd.laysSort g 0 cap F w hH (Array.getElem?_eq_some_iff.1 hg).1 (by omega)).mono ?_
    rintro e w' ⟨rfl, n, os, rfl⟩
    exact ⟨rfl, ownsRow_sorted (ss := F) (ts := sorted F) hsl hb hg hc1 hc2 hc3, grownBy_sorted _⟩
theorem compRow_any (S : List Tx) (base : Nat) (v : Value) (w : World) (hl : S.length ≤ 1048576) (hown : w.ownsRow base 9 1 v S.length (tmCells S)) :
    Calls Tryd.prog 47 #[v] w fun e w' => ∃ v', e = .returned v' ∧ w'.ownsRow base 9 1 v' (Lib.compact S).length (tmCells (Lib.compact S)) ∧ w.grownBy w' v.ownBlock ∧ v'.ownBlock = v.ownBlock := by
  rcases hown.2 with ⟨rfl, h0⟩ | ⟨g, cap, cur, rfl, hb, hg, hc1, hc2, hc3, hc4⟩
  · have hF : S = [] := List.length_eq_zero_iff.1 h0
    subst hF
    refine (Any.slices_Compact_string_empty Tryd.laysComp none 0 w).mono ?_
    rintro e w' ⟨rfl, hw⟩
    obtain rfl := hw.symm
    exact ⟨_, rfl, hown, grown_refl _ _, rfl⟩
  · have hH : Holds encStr w g 0 S.toArray := holds_of_block hg (by rw [← tmCells_enc, ← hc4, Nat.mul_one])
    refine (Any.slices_Compact_string Tryd.laysComp g 0 cap S w hH (by omega) hc1).mono ?_
    rintro e w' ⟨rfl, q, rfl⟩
    have hcl := compact_len S
    have h1 := ownsRow_sorted (n := q) (os := #[]) (ss := S) (ts := Lib.compact S ++ List.replicate (S.length - (Lib.compact S).length) []) (by rw [List.length_append, List.length_replicate]; omega) hb hg hc1 hc2 hc3
    have h2 := grownBy_sorted (w := w) (g := g) (n := q) (os := #[]) (Lib.compact S ++ List.replicate (S.length - (Lib.compact S).length) []).toArray
    rw [grow_empty] at h1 h2
    have h3 := own1_cut h1 hcl
    rw [List.map_append, List.take_left' (by rw [List.length_map])] at h3
    exact ⟨_, rfl, h3, h2, rfl⟩
set_option maxHeartbeats 4000000 in
theorem sortedWords_any (L : List Tx) (s : Option Addr) (cap : Nat) (w : World) (hl : L.length ≤ 1048576) (hz : ∀ t ∈ L, t.length ≤ 1048576) (hS : TmA w s L) :
    Calls Tryd.prog 28 #[.slice s L.length cap] w fun e w' => ∃ v, e = .returned v ∧ w'.ownsRow w.heap.size 9 1 v (names (L.filter shortW)).length (tmCells (names (L.filter shortW))) ∧ Below w.heap.size w w' := by
  obtain ⟨i0, hi0, hz0, hz1, hz2⟩ := info_parts Tryd.infoStrX
  have HS := hidd hS
  have HZ := hidd hz
  clear hS hz
  go_enter Tryd.func28, Tryd.ntmps28
  go_wp2_with fail
  go_loopw [3, 8] (fun vv iv wr => ∃ i : Nat, i ≤ L.length ∧ iv = .int .i64 (i : Int) ∧ wr.ownsRow w.heap.size 9 1 vv ((L.take i).filter shortW).length (tmCells ((L.take i).filter shortW)) ∧ Below w.heap.size w wr) (fun _ iv _ => L.length - (intOf iv).toNat)
  case atStart => exact ⟨0, Nat.zero_le _, rfl, World.ownsRow_nil _ _ _ _, Below.refl _ _⟩
  case round =>
    obtain ⟨i, hi, rfl, hown, hb⟩ := hrel
    have HO := hidd hown
    have HB := hidd hb
    have hbs := hb.size
    clear hown hb
    by_cases hlt : i < L.length
    · have hltz : (i : Int) < (L.length : Int) := by omega
      obtain ⟨g, off, rfl, hg, hc⟩ := (HS.out.below HB.out).resolve_left (fun h => by rw [h] at hlt; simp at hlt)
      have x0 := hc i hlt
      have hzt := HZ.out _ (getD_mem (d := ([] : Tx)) hlt)
      have Htk : Hid ((L.take (i + 1)).filter shortW = (L.take i).filter shortW ++ (if shortW (L.getD i []) = true then [L.getD i []] else [])) := by
        show _ = _
        rw [List.take_succ_eq_append_getElem hlt, List.filter_append, List.getD_eq_getElem?_getD, List.getElem?_eq_getElem hlt]
        simp [List.filter_cons]
      have hfl : ((L.take i).filter shortW).length ≤ L.length := Nat.le_trans (List.length_filter_le _ _) (by rw [List.length_take]; omega)
      clear hc
      generalize L.getD i [] = t at *
      generalize (L.take i).filter shortW = F at *
      have HRc := hidd (Tryd.utf8_RuneCountInString (bs t) wr (by rw [bs_size]; omega))
      rw [runeCount_len] at HRc
      have HSh : Hid (shortW t = decide ((runes (bs t)).length ≤ 200)) := rfl
      have hrl := runes_le (bs t)
      rw [bs_size] at hrl
      generalize runes (bs t) = rs at *
      have HTt : Hid (bs t = bs t) := rfl
      generalize hT0 : bs t = T0 at *
      have HT0 := hidd hT0
      clear hT0 HTt
      go_wp2_with fail
      refine HRc.out.mono ?_
      rintro e w2 ⟨rfl, pos, hw2⟩
      have HB2 : Hid (Below wr.heap.size wr w2) := by rw [hw2]; exact (Below.refl _ _).alloc (Nat.le_refl _) _
      have HO2 : Hid (w2.ownsRow w.heap.size 9 1 u3 F.length (tmCells F)) := own_below HO.out HB2.out
      have HBw := hidd (HB.out.trans (HB2.out.mono HB.out.size))
      have hb2s := HB2.out.size
      clear hw2 HRc x0 HO
      by_cases hsh : rs.length ≤ 200
      · have hshz : (rs.length : Int) ≤ 200 := by omega
        have HE : Hid ((L.take (i + 1)).filter shortW = F ++ [t]) := by
          show _ = _
          rw [Htk.out, HSh.out, if_pos (decide_eq_true hsh)]
        go_wp2_with (at_builtin; refine wpList_append_own_at _ rfl _ _ 23 rfl w.heap.size 9 i0 (.string ⟨#[]⟩) 1 16 Tryd.underlying23 hi0 hz0 hz1 hz2 rfl (by decide) _ _ _ rfl (HO2.out.alloc _) ⟨w2.heap.size, 0, none⟩ 1 1 [.string T0] rfl rfl ?c1 ?c2 ?c3 ?c4 ?c5 ?_)
        case c1 =>
          intro j u hj
          cases j with
          | zero => simp at hj; subst hj; rw [add_head]; exact blkc (heap_alloc_new w2 _) 0
          | succ j => simp at hj
        case c2 => intro u hu; simp at hu; subst hu; rfl
        case c3 => unfold maxLen; omega
        case c4 => omega
        case c5 => simp; omega
        intro v6 w6 hown6 hgrow6 _ _
        have HO6 : Hid (w6.ownsRow w.heap.size 9 1 v6 ((L.take (i + 1)).filter shortW).length (tmCells ((L.take (i + 1)).filter shortW))) := by
          rw [HE.out, tmCells_snoc, HT0.out, List.length_append, List.length_singleton]
          exact hown6
        have HB6 : Hid (Below w.heap.size w w6) := (HBw.out.alloc (by omega) _).grown hgrow6 (by have := HBw.out.size; simp only [World.size_alloc]; omega) (fun k h => (HO2.out.lt k h).1)
        clear hown6 hgrow6
        go_wp2_with fail
        go_roundw
        case rel => exact ⟨i + 1, by omega, by go_num, HO6.out, HB6.out⟩
        case measure => simp [intOf]; omega
      · have hshz : ¬ (rs.length : Int) ≤ 200 := by omega
        have HE : Hid ((L.take (i + 1)).filter shortW = F) := by
          show _ = _
          rw [Htk.out, HSh.out, if_neg (by simp; omega), List.append_nil]
        go_wp2_with fail
        go_roundw
        case rel => exact ⟨i + 1, by omega, by go_num, by rw [HE.out]; exact HO2.out, HBw.out⟩
        case measure => simp [intOf]; omega
    · have hltz : ¬ (i : Int) < (L.length : Int) := by omega
      have HO2 : Hid (wr.ownsRow w.heap.size 9 1 u3 (L.filter shortW).length (tmCells (L.filter shortW))) := by
        have := HO.out
        rw [List.take_of_length_le (by omega)] at this
        exact this
      have hfl : (L.filter shortW).length ≤ 1048576 := Nat.le_trans (List.length_filter_le _ _) hl
      have HSo := hidd (sortRow_any (L.filter shortW) w.heap.size u3 wr hfl HO2.out)
      have hsl : (sorted (L.filter shortW)).length = (L.filter shortW).length := (sorted_perm _).length_eq
      go_wp2_with fail
      refine HSo.out.mono ?_
      rintro e w2 ⟨rfl, hown2, hgr2⟩
      have HB2 : Hid (Below w.heap.size w w2) := HB.out.grown hgr2 (by omega) (fun k h => (HO2.out.lt k h).1)
      have HO3 : Hid (w2.ownsRow w.heap.size 9 1 u3 (sorted (L.filter shortW)).length (tmCells (sorted (L.filter shortW)))) := by rw [hsl]; exact hown2
      have HCo := hidd (compRow_any (sorted (L.filter shortW)) w.heap.size u3 w2 (by omega) HO3.out)
      clear hown2 hgr2 HSo
      go_wp2_with fail
      refine HCo.out.mono ?_
      rintro e w3 ⟨v3, rfl, hown3, hgr3, hv3⟩
      have HO4 := hidd hown3
      have HB3 : Hid (Below w.heap.size w w3) := HB2.out.grown hgr3 (by have := HB2.out.size; omega) (fun k h => (HO3.out.lt k h).1)
      clear hown3 hgr3 HCo hv3
      go_wp2_with fail
      go_ret
      exact ⟨v3, rfl, HO4.out, HB3.out⟩
end Go.Proofs.YtifgcimmlonagaaDoor
