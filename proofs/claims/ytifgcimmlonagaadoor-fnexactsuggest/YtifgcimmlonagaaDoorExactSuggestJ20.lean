import Derived.Test.YtifgcimmlonagaaDoorExactSuggestJ18
import Derived.Test.YtifgcimmlonagaaDoorExactSuggestJ19
import Derived.Sort.OwnSorted
import Derived.Shelf.Slices.In.SortNone
import Derived.Test.YtifgcimmlonagaaDoorExactSuggestJ17
import Derived.Test.YtifgcimmlonagaaDoorProg
import Derived.Test.YtifgcimmlonagaaDoorExactSuggestJ00
import Derived.WalkKit
import Derived.WalkLawsBesides
import Derived.BigQuiet
namespace Go.Proofs.YtifgcimmlonagaaDoor
open Go Go.RowKit Go.Sort
set_option linter.unusedVariables false
set_option maxRecDepth 100000
set_option linter.unusedSimpArgs false

/-! Words in memory; those that are not too long, in order. -/
def TmA (w : World) (s : Option Addr) (l : List Tx) : Prop := l = [] ∨ ∃ g off, s = some ⟨g, off, none⟩ ∧ g < w.heap.size ∧ ∀ i, i < l.length → w.cell? ⟨g, off + i, none⟩ = some (.string (bs (l.getD i [])))
theorem TmA.below {w w' : World} {s : Option Addr} {l : List Tx} (h : TmA w s l) (hb : Below w.heap.size w w') : TmA w' s l := by
  rcases h with h | ⟨g, off, h1, h2, h3⟩
  · exact .inl h
  · exact .inr ⟨g, off, h1, Nat.lt_of_lt_of_le h2 hb.size, fun t ht => (hb.cell (p := ⟨g, off + t, none⟩) h2).trans (h3 t ht)⟩
theorem getD_mem {α : Type} {l : List α} {i : Nat} {d : α} (h : i < l.length) : l.getD i d ∈ l := by
  rw [List.getD_eq_getElem?_getD, List.getElem?_eq_getElem h]
  exact List.getElem_mem h
set_option maxHeartbeats 2000000 in
theorem allWell_any (L : List Tx) (s : Option Addr) (cap : Nat) (w : World) (hl : L.length ≤ 1048576) (hz : ∀ t ∈ L, t.length ≤ 1048576) (hS : TmA w s L) (hT : Tabs w) :
    Calls Tryd.prog 25 #[.slice s L.length cap] w fun e w' => e = .returned (.bool (L.all fun x => validB (bs x))) ∧ Below w.heap.size w w' := by
  have HS := hidd hS
  have HT := hidd hT
  have HZ := hidd hz
  clear hS hT hz
  go_enter Tryd.func25, Tryd.ntmps25
  go_wp2_with fail
  go_loopw [7] (fun iv wr => ∃ i : Nat, i ≤ L.length ∧ iv = .int .i64 (i : Int) ∧ ((L.take i).all fun x => validB (bs x)) = true ∧ Below w.heap.size w wr) (fun iv _ => L.length - (intOf iv).toNat)
  case atStart => exact ⟨0, Nat.zero_le _, rfl, by simp, Below.refl _ _⟩
  case round =>
    obtain ⟨i, hi, rfl, hall, hb⟩ := hrel
    have HA := hidd hall
    have HB := hidd hb
    clear hall hb
    by_cases hlt : i < L.length
    · have hltz : (i : Int) < (L.length : Int) := by omega
      obtain ⟨g, off, rfl, hg, hc⟩ := (HS.out.below HB.out).resolve_left (fun h => by rw [h] at hlt; simp at hlt)
      have x0 := hc i hlt
      have hm : L.getD i [] ∈ L := getD_mem hlt
      have hzt := HZ.out _ hm
      have Htk : Hid (L.take (i + 1) = L.take i ++ [L.getD i []]) := by
        show _ = _
        rw [List.take_succ_eq_append_getElem hlt, List.getD_eq_getElem?_getD, List.getElem?_eq_getElem hlt]; rfl
      have HM := hidd hm
      clear hc hm
      generalize L.getD i [] = t at *
      have HV := hidd (valid_any (bs t) wr (by rw [bs_size]; omega) (HT.out.below HB.out))
      generalize hT0 : bs t = T0 at *
      have HT0 := hidd hT0
      clear hT0
      go_wp2_with fail
      refine HV.out.mono ?_
      rintro e w2 ⟨rfl, hb2⟩
      have HB2 := hidd (HB.out.trans (hb2.mono HB.out.size))
      clear hb2 x0
      cases hv : validB T0 with
      | true =>
        have Hv := hidd hv
        clear hv
        go_wp2_with fail
        go_roundw
        case rel =>
          refine ⟨i + 1, by omega, by go_num, ?_, HB2.out⟩
          rw [Htk.out, List.all_append, HA.out]
          simp [HT0.out, Hv.out]
        case measure => simp [intOf]; omega
      | false =>
        have HE : Hid ((L.all fun x => validB (bs x)) = false) := by
          show _ = _
          rw [List.all_eq_false]
          exact ⟨t, HM.out, by rw [HT0.out, hv]; simp⟩
        clear hv
        go_wp2_with fail
        go_ret
        rw [HE.out]
        exact ⟨rfl, HB2.out⟩
    · have hltz : ¬ (i : Int) < (L.length : Int) := by omega
      have HE : Hid ((L.all fun x => validB (bs x)) = true) := by
        show _ = _
        have := HA.out
        rw [List.take_of_length_le (by omega)] at this
        exact this
      go_wp2_with fail
      go_ret
      rw [HE.out]
      exact ⟨rfl, HB.out⟩
theorem Tryd.infoStrX : (Tryd.prog.info? 9).map (fun i => (i.zero, i.size, i.bytes)) = some (some (.string ⟨#[]⟩), 1, 16) := by kernel_rfl
def tmCells (l : List Tx) : List Value := l.map fun t => .string (bs t)
theorem tmCells_snoc (l : List Tx) (t : Tx) : tmCells (l ++ [t]) = tmCells l ++ [.string (bs t)] := by simp [tmCells]
theorem tmCells_enc (l : List Tx) : tmCells l = l.map encStr := rfl
theorem own1_cut {w : World} {base e n g cap i : Nat} {xs : List Value} (h : w.ownsRow base e 1 (.slice (some ⟨g, 0, none⟩) n cap) n xs) (hi : i ≤ n) : w.ownsRow base e 1 (.slice (some ⟨g, 0, none⟩) i cap) i (xs.take i) := by
  refine ⟨by rw [List.length_take, h.1]; omega, ?_⟩
  rcases h.2 with ⟨h', _⟩ | ⟨g', cap', cur, h1, h2, h3, h4, h5, h6, h7⟩
  · cases h'
  · simp only [Value.slice.injEq, Option.some.injEq, Addr.mk.injEq, and_true, true_and] at h1
    obtain ⟨rfl, rfl⟩ := h1
    refine Or.inr ⟨g, cap, cur, rfl, h2, h3, by omega, h5, h6, ?_⟩
    rw [← h7, List.take_take]
    congr 1
    omega
theorem compact_len (S : List Tx) : (Lib.compact S).length ≤ S.length := by
  unfold Lib.compact Lib.compactUpTo
  rw [List.length_map]
  exact Nat.le_trans (List.length_filter_le _ _) (by simp)
/-- Sorting an owned row of words. -/
theorem sortRow_any (F : List Tx) (base : Nat) (v : Value) (w : World) (hl : F.length ≤ 1048576) (hown : w.ownsRow base 9 1 v F.length (tmCells F)) :
    Calls Tryd.prog 46 #[v] w fun e w' => e = .returned (.tuple #[]) ∧ w'.ownsRow base 9 1 v F.length (tmCells (sorted F)) ∧ w.grownBy w' v.ownBlock := by
  have hsl : (sorted F).length = F.length := (sorted_perm F).length_eq
  rcases hown.2 with ⟨rfl, h0⟩ | ⟨g, cap, cur, rfl, hb, hg, hc1, hc2, hc3, hc4⟩
  · have hF : F = [] := List.length_eq_zero_iff.1 h0
    subst hF
    refine (Any.slices_Sort_string_none Tryd.laysSort none 0 w).mono ?_
    rintro e w' ⟨rfl, hw⟩
    obtain rfl := hw.symm
    have e0 : sorted ([] : List Tx) = [] := by simp [sorted]
    exact ⟨rfl, by rw [e0]; exact hown, grown_refl _ _⟩
  · have hH : Holds encStr w g 0 F.toArray := holds_of_block hg (by rw [← tmCells_enc, ← hc4, Nat.mul_one])
    refine (Any.slices_Sort_string Tryd.laysSort g 0 cap F w hH (Array.getElem?_eq_some_iff.1 hg).1 (by omega)).mono ?_
    rintro e w' ⟨rfl, n, os, rfl⟩
    exact ⟨rfl, ownsRow_sorted (ss := F) (ts := sorted F) hsl hb hg hc1 hc2 hc3, grownBy_sorted _⟩
theorem compRow_any (S : List Tx) (base : Nat) (v : Value) (w : World) (hl : S.length ≤ 1048576) (hown : w.ownsRow base 9 1 v S.length (tmCells S)) :
    Calls Tryd.prog 47 #[v] w fun e w' => ∃ v', e = .returned v' ∧ w'.ownsRow base 9 1 v' (Lib.compact S).length (tmCells (Lib.compact S)) ∧ w.grownBy w' v.ownBlock ∧ v'.ownBlock = v.ownBlock := by
  rcases hown.2 with ⟨rfl, h0⟩ | ⟨g, cap, cur, rfl, hb, hg, hc1, hc2, hc3, hc4⟩
  · have hF : S = [] := List.length_eq_zero_iff.1 h0
    subst hF
    refine (Any.slices_Compact_string_empty Tryd.laysComp none 0 w).mono ?_
    rintro e w' ⟨rfl, hw⟩
    obtain rfl := hw.symm
    exact ⟨_, rfl, hown, grown_refl _ _, rfl⟩
  · have hH : Holds encStr w g 0 S.toArray := holds_of_block hg (by rw [← tmCells_enc, ← hc4, Nat.mul_one])
    refine (Any.slices_Compact_string Tryd.laysComp g 0 cap S w hH (by omega) hc1).mono ?_
    rintro e w' ⟨rfl, q, rfl⟩
    have hcl := compact_len S
    have h1 := ownsRow_sorted (n := q) (os := #[]) (ss := S) (ts := Lib.compact S ++ List.replicate (S.length - (Lib.compact S).length) []) (by rw [List.length_append, List.length_replicate]; omega) hb hg hc1 hc2 hc3
    have h2 := grownBy_sorted (w := w) (g := g) (n := q) (os := #[]) (Lib.compact S ++ List.replicate (S.length - (Lib.compact S).length) []).toArray
    rw [grow_empty] at h1 h2
    have h3 := own1_cut h1 hcl
    rw [List.map_append, List.take_left' (by rw [List.length_map])] at h3
    exact ⟨_, rfl, h3, h2, rfl⟩
set_option maxHeartbeats 4000000 in
theorem sortedWords_any (L : List Tx) (s : Option Addr) (cap : Nat) (w : World) (hl : L.length ≤ 1048576) (hz : ∀ t ∈ L, t.length ≤ 1048576) (hS : TmA w s L) :
    Calls Tryd.prog 28 #[.slice s L.length cap] w fun e w' => ∃ v, e = .returned v ∧ w'.ownsRow w.heap.size 9 1 v (names (L.filter shortW)).length (tmCells (names (L.filter shortW))) ∧ Below w.heap.size w w' := by
  obtain ⟨i0, hi0, hz0, hz1, hz2⟩ := info_parts Tryd.infoStrX
  have HS := hidd hS
  have HZ := hidd hz
  clear hS hz
  go_enter Tryd.func28, Tryd.ntmps28
  go_wp2_with fail
  go_loopw [3, 8] (fun vv iv wr => ∃ i : Nat, i ≤ L.length ∧ iv = .int .i64 (i : Int) ∧ wr.ownsRow w.heap.size 9 1 vv ((L.take i).filter shortW).length (tmCells ((L.take i).filter shortW)) ∧ Below w.heap.size w wr) (fun _ iv _ => L.length - (intOf iv).toNat)
  case atStart => exact ⟨0, Nat.zero_le _, rfl, World.ownsRow_nil _ _ _ _, Below.refl _ _⟩
  case round =>
    obtain ⟨i, hi, rfl, hown, hb⟩ := hrel
    have HO := hidd hown
    have HB := hidd hb
    have hbs := hb.size
    clear hown hb
    by_cases hlt : i < L.length
    · have hltz : (i : Int) < (L.length : Int) := by omega
      obtain ⟨g, off, rfl, hg, hc⟩ := (HS.out.below HB.out).resolve_left (fun h => by rw [h] at hlt; simp at hlt)
      have x0 := hc i hlt
      have hzt := HZ.out _ (getD_mem (d := ([] : Tx)) hlt)
      have Htk : Hid ((L.take (i + 1)).filter shortW = (L.take i).filter shortW ++ (if shortW (L.getD i []) = true then [L.getD i []] else [])) := by
        show _ = _
        rw [List.take_succ_eq_append_getElem hlt, List.filter_append, List.getD_eq_getElem?_getD, List.getElem?_eq_getElem hlt]
        simp [List.filter_cons]
      have hfl : ((L.take i).filter shortW).length ≤ L.length := Nat.le_trans (List.length_filter_le _ _) (by rw [List.length_take]; omega)
      clear hc
      generalize L.getD i [] = t at *
      generalize (L.take i).filter shortW = F at *
      have HRc := hidd (Tryd.utf8_RuneCountInString (bs t) wr (by rw [bs_size]; omega))
      rw [runeCount_len] at HRc
      have HSh : Hid (shortW t = decide ((runes (bs t)).length ≤ 200)) := rfl
      have hrl := runes_le (bs t)
      rw [bs_size] at hrl
      generalize runes (bs t) = rs at *
      have HTt : Hid (bs t = bs t) := rfl
      generalize hT0 : bs t = T0 at *
      have HT0 := hidd hT0
      clear hT0 HTt
      go_wp2_with fail
      refine HRc.out.mono ?_
      rintro e w2 ⟨rfl, pos, hw2⟩
      have HB2 : Hid (Below wr.heap.size wr w2) := by rw [hw2]; exact (Below.refl _ _).alloc (Nat.le_refl _) _
      have HO2 : Hid (w2.ownsRow w.heap.size 9 1 u3 F.length (tmCells F)) := own_below HO.out HB2.out
      have HBw := hidd (HB.out.trans (HB2.out.mono HB.out.size))
      have hb2s := HB2.out.size
      clear hw2 HRc x0 HO
      by_cases hsh : rs.length ≤ 200
      · have hshz : (rs.length : Int) ≤ 200 := by omega
        have HE : Hid ((L.take (i + 1)).filter shortW = F ++ [t]) := by
          show _ = _
          rw [Htk.out, HSh.out, if_pos (decide_eq_true hsh)]
        go_wp2_with (at_builtin; refine wpList_append_own_at _ rfl _ _ 23 rfl w.heap.size 9 i0 (.string ⟨#[]⟩) 1 16 Tryd.underlying23 hi0 hz0 hz1 hz2 rfl (by decide) _ _ _ rfl (HO2.out.alloc _) ⟨w2.heap.size, 0, none⟩ 1 1 [.string T0] rfl rfl ?c1 ?c2 ?c3 ?c4 ?c5 ?_)
        case c1 =>
          intro j u hj
          cases j with
          | zero => simp at hj; subst hj; rw [add_head]; exact blkc (heap_alloc_new w2 _) 0
          | succ j => simp at hj
        case c2 => intro u hu; simp at hu; subst hu; rfl
        case c3 => unfold maxLen; omega
        case c4 => omega
        case c5 => simp; omega
        intro v6 w6 hown6 hgrow6 _ _
        have HO6 : Hid (w6.ownsRow w.heap.size 9 1 v6 ((L.take (i + 1)).filter shortW).length (tmCells ((L.take (i + 1)).filter shortW))) := by
          rw [HE.out, tmCells_snoc, HT0.out, List.length_append, List.length_singleton]
          exact hown6
        have HB6 : Hid (Below w.heap.size w w6) := (HBw.out.alloc (by omega) _).grown hgrow6 (by have := HBw.out.size; simp only [World.size_alloc]; omega) (fun k h => (HO2.out.lt k h).1)
        clear hown6 hgrow6
        go_wp2_with fail
        go_roundw
        case rel => exact ⟨i + 1, by omega, by go_num, HO6.out, HB6.out⟩
        case measure => simp [intOf]; omega
      · have hshz : ¬ (rs.length : Int) ≤ 200 := by omega
        have HE : Hid ((L.take (i + 1)).filter shortW = F) := by
          show _ = _
          rw [Htk.out, HSh.out, if_neg (by simp; omega), List.append_nil]
        go_wp2_with fail
        go_roundw
        case rel => exact ⟨i + 1, by omega, by go_num, by rw [HE.out]; exact HO2.out, HBw.out⟩
        case measure => simp [intOf]; omega
    · have hltz : ¬ (i : Int) < (L.length : Int) := by omega
      have HO2 : Hid (wr.ownsRow w.heap.size 9 1 u3 (L.filter shortW).length (tmCells (L.filter shortW))) := by
        have := HO.out
        rw [List.take_of_length_le (by omega)] at this
        exact this
      have hfl : (L.filter shortW).length ≤ 1048576 := Nat.le_trans (List.length_filter_le _ _) hl
      have HSo := hidd (sortRow_any (L.filter shortW) w.heap.size u3 wr hfl HO2.out)
      have hsl : (sorted (L.filter shortW)).length = (L.filter shortW).length := (sorted_perm _).length_eq
      go_wp2_with fail
      refine HSo.out.mono ?_
      rintro e w2 ⟨rfl, hown2, hgr2⟩
      have HB2 : Hid (Below w.heap.size w w2) := HB.out.grown hgr2 (by omega) (fun k h => (HO2.out.lt k h).1)
      have HO3 : Hid (w2.ownsRow w.heap.size 9 1 u3 (sorted (L.filter shortW)).length (tmCells (sorted (L.filter shortW)))) := by rw [hsl]; exact hown2
      have HCo := hidd (compRow_any (sorted (L.filter shortW)) w.heap.size u3 w2 (by omega) HO3.out)
      clear hown2 hgr2 HSo
      go_wp2_with fail
      refine HCo.out.mono ?_
      rintro e w3 ⟨v3, rfl, hown3, hgr3, hv3⟩
      have HO4 := hidd hown3
      have HB3 : Hid (Below w.heap.size w w3) := HB2.out.grown hgr3 (by have := HB2.out.size; omega) (fun k h => (HO3.out.lt k h).1)
      clear hown3 hgr3 HCo hv3
      go_wp2_with fail
      go_ret
      exact ⟨v3, rfl, HO4.out, HB3.out⟩
end Go.Proofs.YtifgcimmlonagaaDoor

namespace Go.Proofs.YtifgcimmlonagaaDoor
open Go Go.RowKit
set_option linter.unusedVariables false

set_option maxHeartbeats 1000000 in
theorem textCode_any (s : ByteArray) (w : World) (hs : s.size ≤ 1048576) (hT : Tabs w) :
    Calls Tryd.prog 39 #[.string s] w fun e w' => e = .returned (.int .i64 (decCode s)) ∧ Below w.heap.size w w' := by
  have HT := hidd hT
  clear hT
  by_cases hlong : 65536 < s.size
  · have HC : Hid (decCode s = 2) := by show _ = _; rw [decCode, if_pos hlong]
    have hlz : (65536 : Int) < (s.size : Int) := by omega
    go_enter Tryd.func39, Tryd.ntmps39
    go_wp2
    go_ret
    rw [HC.out]
    exact ⟨rfl, Below.refl _ _⟩
  · have hlz : ¬ (65536 : Int) < (s.size : Int) := by omega
    by_cases hv : validB s = true
    · have HC : Hid (decCode s = 0) := by show _ = _; rw [decCode, if_neg hlong, if_pos hv]
      go_enter Tryd.func39, Tryd.ntmps39
      go_wp2_with fail
      refine (valid_any s _ hs HT.out).mono ?_
      rintro e w1 ⟨rfl, hb1⟩
      go_wp2
      go_ret
      rw [HC.out]
      exact ⟨rfl, hb1⟩
    · have hv' : validB s = false := by simpa using hv
      have HC : Hid (decCode s = 3) := by show _ = _; rw [decCode, if_neg hlong, if_neg hv]
      clear hv
      go_enter Tryd.func39, Tryd.ntmps39
      go_wp2_with fail
      refine (valid_any s _ hs HT.out).mono ?_
      rintro e w1 ⟨rfl, hb1⟩
      go_wp2
      go_ret
      rw [HC.out]
      exact ⟨rfl, hb1⟩
end Go.Proofs.YtifgcimmlonagaaDoor

namespace Go.Proofs.YtifgcimmlonagaaDoor
open Go Go.RowKit

set_option maxHeartbeats 400000 in
theorem charOK_any (r : Int) (w : World) : Calls Tryd.prog 57 #[.int .i64 r] w fun e w' => e = .returned (.bool (chr r)) ∧ w' = w := by
  have hc : chr r = decide (0 ≤ r ∧ r ≤ 1114111 ∧ (r < 55296 ∨ 57343 < r)) := rfl
  by_cases h1 : 0 ≤ r
  · by_cases h2 : r ≤ 1114111
    · by_cases h3 : r < 55296
      · have H : Hid (chr r = true) := by show _ = _; rw [chr_iff]; omega
        clear hc
        go_enter Tryd.func57, Tryd.ntmps57
        go_wp2
        go_ret
        rw [H.out]
        exact ⟨rfl, rfl⟩
      · by_cases h4 : 57343 < r
        · have H : Hid (chr r = true) := by show _ = _; rw [chr_iff]; omega
          clear hc
          go_enter Tryd.func57, Tryd.ntmps57
          go_wp2
          go_ret
          rw [H.out]
          exact ⟨rfl, rfl⟩
        · have H : Hid (chr r = false) := by show _ = _; rw [chr_not]; omega
          clear hc
          go_enter Tryd.func57, Tryd.ntmps57
          go_wp2
          go_ret
          rw [H.out]
          exact ⟨rfl, rfl⟩
    · have H : Hid (chr r = false) := by show _ = _; rw [chr_not]; omega
      clear hc
      go_enter Tryd.func57, Tryd.ntmps57
      go_wp2
      go_ret
      rw [H.out]
      exact ⟨rfl, rfl⟩
  · have H : Hid (chr r = false) := by show _ = _; rw [chr_not]; omega
    clear hc
    go_enter Tryd.func57, Tryd.ntmps57
    go_wp2
    go_ret
    rw [H.out]
    exact ⟨rfl, rfl⟩
set_option maxHeartbeats 400000 in
theorem bytes_one (r : Int) (w : World) (h0 : 0 ≤ r) (h1 : r < 128) :
    Calls Tryd.prog 58 #[.int .i64 r] w fun e w' => e = .returned (.slice (some ⟨w.heap.size, 0, none⟩) 1 1) ∧ w' = w.alloc (.cells #[.int .u8 r] 5) := by
  go_enter Tryd.func58, Tryd.ntmps58
  go_wp2
  go_ret
  exact ⟨rfl, rfl⟩
set_option maxHeartbeats 400000 in
theorem bytes_two (r : Int) (w : World) (h0 : 128 ≤ r) (h1 : r < 2048) :
    Calls Tryd.prog 58 #[.int .i64 r] w fun e w' => e = .returned (.slice (some ⟨w.heap.size, 0, none⟩) 2 2) ∧ w' = w.alloc (.cells #[.int .u8 (192 + r / 64), .int .u8 (128 + r % 64)] 5) := by
  go_enter Tryd.func58, Tryd.ntmps58
  go_wp2
  go_ret
  exact ⟨rfl, rfl⟩
set_option maxHeartbeats 400000 in
theorem bytes_three (r : Int) (w : World) (h0 : 2048 ≤ r) (h1 : r < 65536) :
    Calls Tryd.prog 58 #[.int .i64 r] w fun e w' => e = .returned (.slice (some ⟨w.heap.size, 0, none⟩) 3 3) ∧ w' = w.alloc (.cells #[.int .u8 (224 + r / 4096), .int .u8 (128 + r / 64 % 64), .int .u8 (128 + r % 64)] 5) := by
  go_enter Tryd.func58, Tryd.ntmps58
  go_wp2
  go_ret
  exact ⟨rfl, rfl⟩
set_option maxHeartbeats 400000 in
theorem bytes_four (r : Int) (w : World) (h0 : 65536 ≤ r) (h1 : r ≤ 1114111) :
    Calls Tryd.prog 58 #[.int .i64 r] w fun e w' => e = .returned (.slice (some ⟨w.heap.size, 0, none⟩) 4 4) ∧ w' = w.alloc (.cells #[.int .u8 (240 + r / 262144), .int .u8 (128 + r / 4096 % 64), .int .u8 (128 + r / 64 % 64), .int .u8 (128 + r % 64)] 5) := by
  go_enter Tryd.func58, Tryd.ntmps58
  go_wp2
  go_ret
  exact ⟨rfl, rfl⟩
theorem bytes_any (r : Int) (w : World) (h : chr r = true) :
    Calls Tryd.prog 58 #[.int .i64 r] w fun e w' => e = .returned (.slice (some ⟨w.heap.size, 0, none⟩) (Lib.runeCells r).length (Lib.runeCells r).length) ∧ w' = w.alloc (.cells (Lib.runeCells r).toArray 5) := by
  rw [chr_iff] at h
  unfold Lib.runeCells
  by_cases h1 : r < 128
  · rw [Lib.encodeRuneZ_one h.1 (by omega)]; exact bytes_one r w h.1 h1
  · by_cases h2 : r < 2048
    · rw [Lib.encodeRuneZ_two (by omega) (by omega)]; exact bytes_two r w (by omega) h2
    · by_cases h3 : r < 65536
      · rw [Lib.encodeRuneZ_three (by omega)]; exact bytes_three r w (by omega) h3
      · rw [Lib.encodeRuneZ_four (by omega) (by omega)]; exact bytes_four r w (by omega) (by omega)
end Go.Proofs.YtifgcimmlonagaaDoor
