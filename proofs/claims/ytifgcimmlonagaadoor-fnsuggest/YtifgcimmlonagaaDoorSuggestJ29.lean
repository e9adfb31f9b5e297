import Derived.Test.YtifgcimmlonagaaDoorSuggestJ28
import Derived.Laws.IdiomStrings
import Derived.Laws.Cover1
import Derived.Deep.RegionLaw
import Derived.BigQuiet
import Derived.Deep.RegionHeld
namespace Go.Proofs.YtifgcimmlonagaaDoor
open Go Go.RowKit
set_option linter.unusedVariables false

/-! impl.Edits. -/
def RunesAt (w : World) (g : Nat) (zs : List Int) : Prop := ∀ t, t < zs.length → w.cell? ⟨g, t, none⟩ = some (.int .i32 (zs.getD t 0))
theorem RunesAt.below {w w' : World} {g : Nat} {zs : List Int} (h : RunesAt w g zs) (hb : Below w.heap.size w w') : RunesAt w' g zs :=
  fun t ht => (hb.cell (p := ⟨g, t, none⟩) (cell_lt (h t ht))).trans (h t ht)
theorem conv_runes (s : ByteArray) : ∀ (f p : Nat) (acc : Array Value), (Conv.runesFrom s f p acc).toList = acc.toList ++ (runesFrom s f p).map (Value.int .i32)
  | 0, p, acc => by simp [Conv.runesFrom, runesFrom]
  | f + 1, p, acc => by
    unfold Conv.runesFrom
    by_cases h : p < s.size
    · rw [if_pos h, runesFrom_step s f p h]
      have := conv_runes s f (p + (Utf8.decode s p).2) (acc.push (.int .i32 (Int.ofNat (Utf8.decode s p).1)))
      simp only [this, Array.toList_push, List.append_assoc, List.map_cons, List.singleton_append]
      rfl
    · rw [if_neg h, runesFrom_end s _ p h]; simp
theorem conv_runes_size (s : ByteArray) : (Conv.runesFrom s s.size 0 #[]).size = (runes s).length := by
  have := congrArg List.length (conv_runes s s.size 0 #[])
  simpa [runes] using this
theorem run_runes (s : ByteArray) (W : World) (hs : s.size ≤ 1048576) : ∃ cap W', (convert 9 63 (.string s)).run Tryd.prog W = .ok (.slice (some ⟨W.heap.size, 0, none⟩) (runes s).length cap) W' ∧ Below W.heap.size W W' ∧ W'.heap.size = W.heap.size + 1 ∧ RunesAt W' W.heap.size (runes s) := by
  have hsz := conv_runes_size s
  have hle := runes_le s
  have h := run_runes_of_string (P := Tryd.prog) W 9 63 21 s Tryd.underlying9 Tryd.underlying63 Tryd.underlying21 (by rw [hsz]; omega)
  rw [hsz] at h
  refine ⟨_, _, h, (below_drewN (Below.refl _ _) 1).alloc (by simp) _, by simp, fun t ht => ?_⟩
  have hget : (Conv.runesFrom s s.size 0 #[])[t]? = some (.int .i32 ((runes s).getD t 0)) := by
    rw [← Array.getElem?_toList, conv_runes s s.size 0 #[]]
    show ([] ++ (runes s).map (Value.int .i32))[t]? = _
    simp [ht]
  have hnew : ∀ (V : World) (cs : Array Value) (ty : TypeId), (V.alloc (.cells cs ty)).cell? ⟨V.heap.size, t, none⟩ = cs[t]? := by
    intro V cs ty
    exact cell_of_row _ V.heap.size t cs ty (0, 0) (by show (V.heap.push _)[V.heap.size]? = _; simp)
  have := hnew W.drew (Conv.runesFrom s s.size 0 #[] ++ Array.replicate (grownCap W (runes s).length 0 21 - (runes s).length) (.int .i32 0)) 21
  rw [show W.drew.heap.size = W.heap.size from rfl] at this
  rw [this, Array.getElem?_append_left (by rw [hsz]; exact ht)]
  exact hget
/-- A row as a function tells it. -/
def fnRow (f : Nat → Int) (n : Nat) : List Int := (List.range n).map f
theorem fnRow_at (f : Nat → Int) {n q : Nat} (h : q < n) : (zI (fnRow f n))[q]? = some (.int .i64 (f q)) := by simp [zI, fnRow, h]
theorem fnRow_congr {f g : Nat → Int} {n : Nat} (h : ∀ j, j < n → f j = g j) : fnRow f n = fnRow g n := by
  unfold fnRow
  exact List.map_congr_left fun j hj => h j (by simpa using hj)
theorem fnRow_len (f : Nat → Int) (n : Nat) : (zI (fnRow f n)).length = n := by simp [zI, fnRow]
theorem fnRow_set (f : Nat → Int) (n k : Nat) (x : Int) : (zI (fnRow f n)).set k (.int .i64 x) = zI (fnRow (fun j => if j = k then x else f j) n) := by
  apply List.ext_getElem?
  intro j
  rw [List.getElem?_set, fnRow_len]
  by_cases hj : j < n
  · by_cases e : k = j
    · subst e; rw [if_pos rfl, if_pos hj, fnRow_at _ hj, if_pos rfl]
    · rw [if_neg e, fnRow_at _ hj, fnRow_at _ hj, if_neg (fun h => e h.symm)]
  · have e1 : ∀ g, (zI (fnRow g n))[j]? = none := fun g => List.getElem?_eq_none (by rw [fnRow_len]; omega)
    rw [e1, e1]
    by_cases e : k = j
    · rw [if_pos e, if_neg (by omega)]
    · rw [if_neg e]
theorem min3' (x y z d : Int) (h : d = 1 + min x (min y z)) : 1 + (if z < (if y < x then y else x) then z else (if y < x then y else x)) = d := by
  subst h
  split <;> split at * <;> omega
theorem edZ_same {a b : List Int} {i k : Nat} (hi : i < a.length) (hk : k < b.length) (h : a.getD i 0 = b.getD k 0) : edZ a b (i + 1) (k + 1) = edZ a b i k := by
  simp only [edZ, edAt_same a b i k hi hk h]
theorem edZ_other {a b : List Int} {i k : Nat} (hi : i < a.length) (hk : k < b.length) (h : ¬ a.getD i 0 = b.getD k 0) : edZ a b (i + 1) (k + 1) = 1 + min (edZ a b i k) (min (edZ a b (i + 1) k) (edZ a b i (k + 1))) := by
  simp only [edZ, edAt_other a b i k hi hk h]; omega
theorem txCode_two (s t : ByteArray) : txCode [s, t] = if 65536 < s.size ∨ 65536 < t.size then 2 else if validB s = false then 3 else if validB t = false then 3 else 0 := by
  simp only [txCode, List.any_cons, List.any_nil, List.all_cons, List.all_nil, Bool.or_false, Bool.and_true, Bool.or_eq_true, decide_eq_true_eq, Bool.and_eq_true]
  by_cases h : 65536 < s.size ∨ 65536 < t.size
  · rw [if_pos h, if_pos h]
  · rw [if_neg h, if_neg h]
    cases validB s <;> cases validB t <;> rfl
end Go.Proofs.YtifgcimmlonagaaDoor

namespace Go.Proofs.YtifgcimmlonagaaDoor
open Go Go.RowKit
set_option linter.unusedVariables false

theorem edCode_tx (s t : ByteArray) : edCode s t = if txCode [s, t] = 0 then (if 200 < (runes s).length ∨ 200 < (runes t).length then 12 else 0) else txCode [s, t] := by
  rw [txCode_two, edCode]
  by_cases h : 65536 < s.size ∨ 65536 < t.size
  · rw [if_pos h, if_pos h]; rfl
  · rw [if_neg h, if_neg h]
    cases validB s <;> cases validB t <;> simp
theorem texts_new (w : World) (s t : ByteArray) (ty : TypeId) : TextsAt (w.alloc (.cells #[.string s, .string t] ty)) w.heap.size [s, t] := by
  intro k hk
  rw [cell_of_row _ w.heap.size k #[.string s, .string t] ty (0, 0) (by show (w.heap.push _)[w.heap.size]? = _; simp)]
  match k, hk with
  | 0, _ => rfl
  | 1, _ => rfl
theorem textsTwo_any (g cap : Nat) (s t : ByteArray) (w : World) (hs : s.size ≤ 1048576) (ht : t.size ≤ 1048576) (hg : g < w.heap.size) (hc : TextsAt w g [s, t]) (hT : Tabs w) :
    Calls Tryd.prog 33 #[.slice (some ⟨g, 0, none⟩) 2 cap] w fun e w' => e = .returned (.int .i64 (txCode [s, t])) ∧ Below w.heap.size w w' :=
  textsCode_any g cap [s, t] w (by simp) (fun x hx => by simp at hx; rcases hx with rfl | rfl <;> assumption) hg hc hT
theorem fnRow_zero (n : Nat) : zI (fnRow (fun _ => 0) n) = List.replicate n (.int .i64 0) := by
  apply List.ext_getElem?
  intro j
  by_cases hj : j < n
  · rw [fnRow_at _ hj]; simp [hj]
  · rw [List.getElem?_eq_none (by rw [fnRow_len]; omega), List.getElem?_eq_none (by simp; omega)]
theorem RunesAt.set {w : World} {g B k : Nat} {zs : List Int} (h : RunesAt w g zs) (v : Value) (hne : g ≠ B) : RunesAt (w.setCell ⟨B, k, none⟩ v) g zs := fun t ht => by
  rw [World.cell?_setCell_far _ _ _ _ (fun e => hne e.symm)]
  exact h t ht
/-- The first places are laid. -/
def upE (k : Nat) : Nat → Int := fun j => if j < k then (j : Int) else 0
theorem upE_zero (n : Nat) : fnRow (upE 0) n = fnRow (fun _ => 0) n := fnRow_congr fun j _ => by rw [upE, if_neg (by omega)]
theorem upE_step (k n : Nat) : fnRow (fun j => if j = k then (k : Int) else upE k j) n = fnRow (upE (k + 1)) n := fnRow_congr fun j _ => by
  by_cases h : j = k
  · subst h; rw [if_pos rfl, upE, if_pos (by omega)]
  · rw [if_neg h, upE, upE]
    by_cases h2 : j < k
    · rw [if_pos h2, if_pos (by omega)]
    · rw [if_neg h2, if_neg (by omega)]
theorem upE_end (a b : List Int) : fnRow (upE (b.length + 1)) (b.length + 1) = fnRow (edZ a b 0) (b.length + 1) := fnRow_congr fun j hj => by
  rw [upE, if_pos hj, edZ, edAt_zero_left a b j (by omega)]
/-- The row inside a round: the first places are those of the next row. -/
def mixE (a b : List Int) (i k : Nat) : Nat → Int := fun j => if j ≤ k then edZ a b (i + 1) j else edZ a b i j
theorem mixE_end (a b : List Int) (i n : Nat) : fnRow (mixE a b i n) (n + 1) = fnRow (edZ a b (i + 1)) (n + 1) := fnRow_congr fun j hj => by rw [mixE, if_pos (by omega)]
theorem mixE_start (a b : List Int) (i n : Nat) : fnRow (fun j => if j = 0 then edZ a b (i + 1) 0 else edZ a b i j) n = fnRow (mixE a b i 0) n := fnRow_congr fun j _ => by
  by_cases h : j = 0
  · subst h; simp [mixE]
  · rw [if_neg h, mixE, if_neg (by omega)]
theorem mixE_step (a b : List Int) (i k n : Nat) : fnRow (fun j => if j = k + 1 then edZ a b (i + 1) (k + 1) else mixE a b i k j) n = fnRow (mixE a b i (k + 1)) n := fnRow_congr fun j _ => by
  by_cases h : j = k + 1
  · subst h; rw [if_pos rfl, mixE, if_pos (Nat.le_refl _)]
  · rw [if_neg h, mixE, mixE]
    by_cases h2 : j ≤ k
    · rw [if_pos h2, if_pos (by omega)]
    · rw [if_neg h2, if_neg (by omega)]
set_option maxHeartbeats 8000000 in
set_option maxRecDepth 100000 in
theorem implEdits_any (s t : ByteArray) (w : World) (hs : s.size ≤ 1048576) (ht : t.size ≤ 1048576) (hT : Tabs w) :
    Calls Tryd.prog 8 #[.string s, .string t] w fun e w' => e = .returned (.tuple #[.int .i64 (edVal s t), .int .i64 (edCode s t)]) ∧ Below w.heap.size w w' := by
  obtain ⟨i0, hi, hz0, hz1, hz2⟩ := info_parts Tryd.infoInt
  have HT := hidd hT
  clear hT
  have HBa : Hid (Below w.heap.size w (w.alloc (.cells #[.string s, .string t] 9))) := (Below.refl _ _).alloc (Nat.le_refl _) _
  have Htx := hidd (textsTwo_any w.heap.size 2 s t (w.alloc (.cells #[.string s, .string t] 9)) hs ht (by simp) (texts_new w s t _) (HT.out.below HBa.out))
  by_cases hc : txCode [s, t] = 0
  · have HC := hidd hc
    have HE := hidd (edCode_tx s t)
    rw [hc, if_pos rfl] at HE
    clear hc
    go_enter Tryd.func8, Tryd.ntmps8
    go_wp2_with fail
    refine Htx.out.mono ?_
    rintro e w1 ⟨rfl, hb1⟩
    rw [HC.out]
    have HB1 := hidd (HBa.out.trans (hb1.mono HBa.out.size))
    clear hb1
    obtain ⟨cf, wf, hcf, hbf, hsf, hrf⟩ := run_runes s w1 hs
    obtain ⟨ct, wt, hct, hbt, hst, hrt⟩ := run_runes t wf ht
    have HRf := hidd (hrf.below hbt)
    have HRt := hidd hrt
    have HB2 := hidd (HB1.out.trans ((hbf.trans (hbt.mono hbf.size)).mono HB1.out.size))
    have hzw := HB1.out.size
    clear hrf hrt hbf hbt
    have hln1 := runes_le s
    have hln2 := runes_le t
    by_cases h5 : 200 < (runes s).length
    · have HX : Hid (edCode s t = 12) := by show _ = _; rw [HE.out, if_pos (Or.inl h5)]
      have HV := hidd (edVal_ne (s := s) (t := t) (by rw [HX.out]; omega))
      have hz : (200 : Int) < ((runes s).length : Int) := by omega
      go_wp2
      go_ret2
      rw [HV.out, HX.out]
      exact ⟨rfl, HB2.out⟩
    have hz5 : ¬ (200 : Int) < ((runes s).length : Int) := by omega
    by_cases h6 : 200 < (runes t).length
    · have HX : Hid (edCode s t = 12) := by show _ = _; rw [HE.out, if_pos (Or.inr h6)]
      have HV := hidd (edVal_ne (s := s) (t := t) (by rw [HX.out]; omega))
      have hz : (200 : Int) < ((runes t).length : Int) := by omega
      go_wp2
      go_ret2
      rw [HV.out, HX.out]
      exact ⟨rfl, HB2.out⟩
    have hz6 : ¬ (200 : Int) < ((runes t).length : Int) := by omega
    have HX : Hid (edCode s t = 0) := by show _ = _; rw [HE.out, if_neg (by omega)]
    have HV : Hid (edVal s t = ((edits (runes s) (runes t) : Nat) : Int)) := by show _ = _; rw [edVal, if_pos HX.out]
    have hzt := HB2.out.size
    generalize runes s = a at *
    generalize runes t = b at *
    have hal : a.length ≤ 200 := by omega
    have hbl : b.length ≤ 200 := by omega
    have hnz : ((b.length : Int) + 1).toNat = b.length + 1 := by omega
    go_wp2_with (at_make; refine wpList_make_full _ rfl _ _ 42 rfl w.heap.size 3 i0 (.int .i64 0) 1 Tryd.underlying42 hi hz0 hz1 _ _ _ _ (b.length + 1) rfl rfl (by omega) (by omega) ?b2 ?b3 hzt ?_)
    case b2 => rw [hz2]; omega
    case b3 => unfold maxLen; omega
    intro w0 hown0 hgrow0
    try rw [hsf] at HRt
    have HO0 : Hid (w0.ownsRow w.heap.size 3 1 (.slice (some ⟨w1.heap.size + 1 + 1, 0, none⟩) (b.length + 1) (b.length + 1)) (b.length + 1) (zI (fnRow (upE 0) (b.length + 1)))) := by
      have e0 : (madeCells #[Value.int .i64 0] (b.length + 1)).toList = List.replicate (b.length + 1) (Value.int .i64 0) := toList_madeCells_one _ _
      rw [e0] at hown0
      show World.ownsRow _ _ _ _ _ _ _
      rw [upE_zero, fnRow_zero]
      exact hown0
    have HB0 : Hid (Below w.heap.size w w0) := HB2.out.grown hgrow0 hzt (fun k h => by cases h)
    have HRf0 : Hid (RunesAt w0 w1.heap.size a) := HRf.out.below ((Below.refl _ _).grown hgrow0 (Nat.le_refl _) (fun k h => by cases h))
    have HRt0 : Hid (RunesAt w0 (w1.heap.size + 1) b) := HRt.out.below ((Below.refl _ _).grown hgrow0 (Nat.le_refl _) (fun k h => by cases h))
    have hz0s : w1.heap.size + 1 + 1 < w0.heap.size := own_lt HO0.out
    clear hown0 hgrow0 HRf HRt HB2 hcf hct hsf hst hzt HE Htx HBa HB1 HT
    obtain ⟨B3, hB3⟩ : ∃ B, w1.heap.size + 1 + 1 = B := ⟨_, rfl⟩
    rw [hB3] at HO0 hz0s ⊢
    obtain ⟨B2, hB2⟩ : ∃ B, w1.heap.size + 1 = B := ⟨_, rfl⟩
    rw [hB2] at HRt0 ⊢
    obtain ⟨B1, hB1⟩ : ∃ B, w1.heap.size = B := ⟨_, rfl⟩
    rw [hB1] at hzw HRf0 ⊢
    have h13 : B1 < B3 := by omega
    have h23 : B2 < B3 := by omega
    have hw3 : w.heap.size ≤ B3 := by omega
    clear hB1 hB2 hB3 hz5 hz6 h5 h6 hnz
    go_wp2
    go_loopw [42] (fun kv wr => ∃ k : Nat, k ≤ b.length + 1 ∧ kv = .int .i64 (k : Int) ∧ wr.ownsRow w.heap.size 3 1 (.slice (some ⟨B3, 0, none⟩) (b.length + 1) (b.length + 1)) (b.length + 1) (zI (fnRow (upE k) (b.length + 1))) ∧ Below w.heap.size w wr ∧ RunesAt wr B1 a ∧ RunesAt wr B2 b) (fun kv _ => b.length + 1 - (intOf kv).toNat)
    case atStart => exact ⟨0, Nat.zero_le _, rfl, HO0.out, HB0.out, HRf0.out, HRt0.out⟩
    case round =>
      obtain ⟨k, hk, rfl, hown, hbel, hra, hrb⟩ := hrel
      clear HO0 HB0 HRf0 HRt0
      have HO := hidd hown
      have HB := hidd hbel
      have HRa := hidd hra
      have HRb := hidd hrb
      clear hown hbel hra hrb
      by_cases hlt : k < b.length + 1
      · have hltz : (k : Int) < (b.length : Int) + 1 := by omega
        have f1 := HO.out.frozenAt k
        have c1 := (HO.out.cellAt k (by omega)).trans (fnRow_at (upE k) hlt)
        have st := hidd (HO.out.stored k (.int .i64 (k : Int)))
        have Hst := hidd ((fnRow_set (upE k) (b.length + 1) k (k : Int)).trans (congrArg zI (upE_step k (b.length + 1))))
        have HRa2 : Hid (RunesAt (wr.setCell ⟨B3, k, none⟩ (.int .i64 (k : Int))) B1 a) := HRa.out.set _ (by omega)
        have HRb2 : Hid (RunesAt (wr.setCell ⟨B3, k, none⟩ (.int .i64 (k : Int))) B2 b) := HRb.out.set _ (by omega)
        clear HO
        go_wp2
        go_roundw
        case rel =>
          have h := st.out.1
          rw [Hst.out] at h
          exact ⟨k + 1, by omega, by go_num, h, HB.out.setCell (p := ⟨B3, k, none⟩) hw3 _, HRa2.out, HRb2.out⟩
        case measure => simp [intOf]; omega
      · have hltz : ¬ (k : Int) < (b.length : Int) + 1 := by omega
        obtain rfl : k = b.length + 1 := by omega
        rw [upE_end a b] at HO
        go_wp2
        go_loopw [52] (fun iv wr => ∃ i : Nat, i ≤ a.length ∧ iv = .int .i64 (i : Int) ∧ wr.ownsRow w.heap.size 3 1 (.slice (some ⟨B3, 0, none⟩) (b.length + 1) (b.length + 1)) (b.length + 1) (zI (fnRow (edZ a b i) (b.length + 1))) ∧ Below w.heap.size w wr ∧ RunesAt wr B1 a ∧ RunesAt wr B2 b) (fun iv _ => a.length - (intOf iv).toNat)
        case atStart => exact ⟨0, Nat.zero_le _, rfl, HO.out, HB.out, HRa.out, HRb.out⟩
        case round =>
          obtain ⟨i, hi', rfl, hown, hbel, hra, hrb⟩ := hrel
          clear HO HB HRa HRb
          have HO := hidd hown
          have HB := hidd hbel
          have HRa := hidd hra
          have HRb := hidd hrb
          clear hown hbel hra hrb
          by_cases hlt : i < a.length
          · have hltz : (i : Int) < (a.length : Int) := by omega
            have g1 := HRa.out i hlt
            have f1 := HO.out.frozenAt 0
            have c1 := (HO.out.cellAt 0 (by omega)).trans (fnRow_at (edZ a b i) (show 0 < b.length + 1 by omega))
            have e1 : edZ a b i 0 = (i : Int) := by rw [edZ, edAt_zero_right a b i (by omega)]
            have e2 : edZ a b (i + 1) 0 = (i : Int) + 1 := by rw [edZ, edAt_zero_right a b (i + 1) (by omega)]; omega
            have E2 := hidd e2
            have E1 := hidd e1
            rw [e1] at c1
            clear e1 e2
            have hbz : (0 : Int) < (b.length : Int) + 1 := by omega
            have st := hidd (HO.out.stored 0 (.int .i64 ((i : Int) + 1)))
            have Hst : Hid ((zI (fnRow (edZ a b i) (b.length + 1))).set 0 (.int .i64 ((i : Int) + 1)) = zI (fnRow (mixE a b i 0) (b.length + 1))) := by
              show _ = _
              rw [fnRow_set, ← E2.out, mixE_start]
            have HRa2 : Hid (RunesAt (wr.setCell ⟨B3, 0, none⟩ (.int .i64 ((i : Int) + 1))) B1 a) := HRa.out.set _ (by omega)
            have HRb2 : Hid (RunesAt (wr.setCell ⟨B3, 0, none⟩ (.int .i64 ((i : Int) + 1))) B2 b) := HRb.out.set _ (by omega)
            have HB2 := hidd (HB.out.setCell (p := ⟨B3, 0, none⟩) hw3 (.int .i64 ((i : Int) + 1)))
            have HO2 := hidd st.out.1
            rw [Hst.out] at HO2
            obtain ⟨x, hx⟩ : ∃ x, a.getD i 0 = x := ⟨_, rfl⟩
            rw [hx] at g1
            have Hx := hidd hx
            clear hx
            clear HO st Hst HB HRb
            go_wp2
            generalize wr.setCell ⟨B3, 0, none⟩ (.int .i64 ((i : Int) + 1)) = ws at *
            go_loopw [13, 66] (fun cv kv wr => ∃ k : Nat, k ≤ b.length ∧ kv = .int .i64 (k : Int) ∧ cv = .int .i64 (edZ a b i k) ∧ wr.ownsRow w.heap.size 3 1 (.slice (some ⟨B3, 0, none⟩) (b.length + 1) (b.length + 1)) (b.length + 1) (zI (fnRow (mixE a b i k) (b.length + 1))) ∧ Below w.heap.size w wr ∧ RunesAt wr B1 a ∧ RunesAt wr B2 b) (fun _ kv _ => b.length - (intOf kv).toNat)
            case atStart => exact ⟨0, Nat.zero_le _, rfl, by rw [E1.out], HO2.out, HB2.out, HRa2.out, HRb2.out⟩
            case round =>
              obtain ⟨k, hk, rfl, rfl, hown, hbel, hra, hrb⟩ := hrel
              clear HO2 HB2 HRa2 HRb2
              have HO := hidd hown
              have HB := hidd hbel
              have HRa := hidd hra
              have HRb := hidd hrb
              clear hown hbel hra hrb
              by_cases hkl : k < b.length
              · have hkz : (k : Int) < (b.length : Int) := by omega
                have hkz1 : (k : Int) + 1 < (b.length : Int) + 1 := by omega
                have hkz2 : (k : Int) < (b.length : Int) + 1 := by omega
                have g2 := HRb.out k hkl
                obtain ⟨y, hy⟩ : ∃ y, b.getD k 0 = y := ⟨_, rfl⟩
                rw [hy] at g2
                have Hy := hidd hy
                clear hy
                have f2 := HO.out.frozenAt (k + 1)
                have c0 := (HO.out.cellAt k (by omega)).trans (fnRow_at (mixE a b i k) (show k < b.length + 1 by omega))
                have c2 := (HO.out.cellAt (k + 1) (by omega)).trans (fnRow_at (mixE a b i k) (show k + 1 < b.length + 1 by omega))
                rw [show mixE a b i k k = edZ a b (i + 1) k from by rw [mixE, if_pos (Nat.le_refl _)]] at c0
                rw [show mixE a b i k (k + 1) = edZ a b i (k + 1) from by rw [mixE, if_neg (by omega)]] at c2
                have b0 := edZ_bd a b i k
                have b1 := edZ_bd a b i (k + 1)
                have b2 := edZ_bd a b (i + 1) k
                have b3 := edZ_bd a b (i + 1) (k + 1)
                by_cases hxy : x = y
                · have hxb : (x != y) = false := by simp [hxy]
                  have hd3 := (edZ_same hlt hkl (Hx.out.trans (hxy.trans Hy.out.symm)))
                  have Hst := hidd ((fnRow_set (mixE a b i k) (b.length + 1) (k + 1) (edZ a b (i + 1) (k + 1))).trans (congrArg zI (mixE_step a b i k (b.length + 1))))
                  have st := hidd (HO.out.stored (k + 1) (.int .i64 (edZ a b (i + 1) (k + 1))))
                  rw [Hst.out] at st
                  clear Hst hxy Hx Hy
                  generalize edZ a b i k = d0 at *
                  generalize hd1 : edZ a b i (k + 1) = d1 at *
                  have Hd1 := hidd hd1
                  clear hd1
                  generalize edZ a b (i + 1) k = d2 at *
                  generalize edZ a b (i + 1) (k + 1) = d3 at *
                  subst hd3
                  have HRa3 : Hid (RunesAt (wr.setCell ⟨B3, k + 1, none⟩ (.int .i64 d3)) B1 a) := HRa.out.set _ (by omega)
                  have HRb3 : Hid (RunesAt (wr.setCell ⟨B3, k + 1, none⟩ (.int .i64 d3)) B2 b) := HRb.out.set _ (by omega)
                  have HB3 := hidd (HB.out.setCell (p := ⟨B3, k + 1, none⟩) hw3 (.int .i64 d3))
                  clear HO HB HRa HRb
                  go_wp2
                  go_roundw
                  case rel => exact ⟨k + 1, by omega, by go_num, by rw [Hd1.out], st.out.1, HB3.out, HRa3.out, HRb3.out⟩
                  case measure => simp [intOf]; omega
                · have hxb : (x != y) = true := by simp [hxy]
                  have hd3 := (edZ_other hlt hkl (fun e => hxy (Hx.out.symm.trans (e.trans Hy.out))))
                  have Hst := hidd ((fnRow_set (mixE a b i k) (b.length + 1) (k + 1) (edZ a b (i + 1) (k + 1))).trans (congrArg zI (mixE_step a b i k (b.length + 1))))
                  clear hxy Hx Hy
                  generalize edZ a b i k = d0 at *
                  generalize hd1 : edZ a b i (k + 1) = d1 at *
                  have Hd1 := hidd hd1
                  clear hd1
                  generalize edZ a b (i + 1) k = d2 at *
                  generalize edZ a b (i + 1) (k + 1) = d3 at *
                  have hmn := min3' d0 d2 d1 d3 hd3
                  have hw3' : IntKind.i64.wrap d3 = d3 := IntWalk.i64_in _ ⟨by omega, by omega⟩
                  have hwk : IntKind.i64.wrap ((k : Int) + 1) = (k : Int) + 1 := IntWalk.i64_in _ ⟨by omega, by omega⟩
                  clear hd3
                  go_wp2
                  go_quiet (fail)
                  have HOq := hidd (own_drewN HO.out nq)
                  have HBq := hidd (below_drewN HB.out nq)
                  have HRaq : Hid (RunesAt (wr.drewN nq) B1 a) := HRa.out.below (below_drewN (Below.refl _ _) nq)
                  have HRbq : Hid (RunesAt (wr.drewN nq) B2 b) := HRb.out.below (below_drewN (Below.refl _ _) nq)
                  have f2q : (wr.drewN nq).frozen? ⟨B3, k + 1, none⟩ = false := HOq.out.frozenAt (k + 1)
                  have c2q : (wr.drewN nq).cell? ⟨B3, k + 1, none⟩ = some (.int .i64 d1) := by simpa using c2
                  clear HO HB HRa HRb f2 c2 c0 g1 g2
                  generalize wr.drewN nq = wq at *
                  have st := hidd (HOq.out.stored (k + 1) (.int .i64 d3))
                  rw [Hst.out] at st
                  have HRa3 : Hid (RunesAt (wq.setCell ⟨B3, k + 1, none⟩ (.int .i64 d3)) B1 a) := HRaq.out.set _ (by omega)
                  have HRb3 : Hid (RunesAt (wq.setCell ⟨B3, k + 1, none⟩ (.int .i64 d3)) B2 b) := HRbq.out.set _ (by omega)
                  have HB3 := hidd (HBq.out.setCell (p := ⟨B3, k + 1, none⟩) hw3 (.int .i64 d3))
                  clear HOq HBq HRaq HRbq
                  go_wp2
                  go_roundw
                  case rel => exact ⟨k + 1, by omega, by go_num, by rw [Hd1.out], st.out.1, HB3.out, HRa3.out, HRb3.out⟩
                  case measure => simp [intOf]; omega
              · have hkz : ¬ (k : Int) < (b.length : Int) := by omega
                obtain rfl : k = b.length := by omega
                have HOe := hidd HO.out
                rw [mixE_end] at HOe
                go_wp2
                go_roundw
                case rel => exact ⟨i + 1, by omega, by go_num, HOe.out, HB.out, HRa.out, HRb.out⟩
                case measure => simp [intOf]; omega
          · have hltz : ¬ (i : Int) < (a.length : Int) := by omega
            obtain rfl : i = a.length := by omega
            have c1 := (HO.out.cellAt b.length (by omega)).trans (fnRow_at (edZ a b a.length) (show b.length < b.length + 1 by omega))
            have hbz : (b.length : Int) < (b.length : Int) + 1 := by omega
            go_wp2
            go_ret2
            rw [HV.out, HX.out]
            exact ⟨rfl, HB.out⟩
  · have hcn : (txCode [s, t] != 0) = true := by rw [bne_iff_ne]; exact hc
    have HE := hidd (edCode_tx s t)
    rw [if_neg hc] at HE
    have HV := hidd (edVal_ne (s := s) (t := t) (by rw [HE.out]; exact hc))
    clear hc
    go_enter Tryd.func8, Tryd.ntmps8
    go_wp2_with fail
    refine Htx.out.mono ?_
    rintro e w1 ⟨rfl, hb1⟩
    have HB1 := hidd (HBa.out.trans (hb1.mono HBa.out.size))
    clear hb1
    go_wp2
    go_ret2
    rw [HV.out, HE.out]
    exact ⟨rfl, HB1.out⟩
end Go.Proofs.YtifgcimmlonagaaDoor
