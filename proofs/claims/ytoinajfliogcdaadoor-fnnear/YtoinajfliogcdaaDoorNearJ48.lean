import Derived.Test.YtoinajfliogcdaaDoorNearJ20
import Derived.Test.YtoinajfliogcdaaDoorNearJ47
import Derived.Laws.IdiomStrings
import Derived.Laws.Cover1
namespace Go.Proofs.YtoinajfliogcdaaDoor
open Go Go.RowKit
set_option linter.unusedVariables false

def bs0 : ByteArray := ⟨#[]⟩
def txCode (l : List ByteArray) : Int := if l.any (fun s => decide (65536 < s.size)) = true then 2 else if l.all validB = true then 0 else 3
def TextsAt (w : World) (g : Nat) (l : List ByteArray) : Prop := ∀ t, t < l.length → w.cell? ⟨g, t, none⟩ = some (.string (l.getD t bs0))
theorem getD_mem' {l : List ByteArray} {k : Nat} (h : k < l.length) : l.getD k bs0 ∈ l := by
 rw [List.getD_eq_getElem?_getD, List.getElem?_eq_getElem h]; exact List.getElem_mem _
theorem mem_getD {l : List ByteArray} {s : ByteArray} (h : s ∈ l) : ∃ k, k < l.length ∧ l.getD k bs0 = s := by
 obtain ⟨k, hk, e⟩ := List.getElem_of_mem h
 exact ⟨k, hk, by rw [List.getD_eq_getElem?_getD, List.getElem?_eq_getElem hk]; exact e⟩
set_option maxHeartbeats 2000000 in
set_option maxRecDepth 100000 in
theorem textsCode_any (g cap : Nat) (l : List ByteArray) (w : World) (hl : l.length ≤ 4096) (hsz : ∀ s ∈ l, s.size ≤ 1048576) (hg : g < w.heap.size) (hc : TextsAt w g l) (hT : Tabs w) :
  Calls Tryd.prog 48 #[.slice (some ⟨g, 0, none⟩) l.length cap] w fun e w' => e = .returned (.int .i64 (txCode l)) ∧ Below w.heap.size w w' := by
 have HT := hidd hT
 have HC := hidd hc
 have HS := hidd hsz
 clear hT hc hsz
 go_enter Tryd.func48, Tryd.ntmps48
 go_wp2
 go_loopw [10] (fun kv wr => ∃ k : Nat, k ≤ l.length ∧ kv = .int .i64 (k : Int) ∧ (∀ j, j < k → ¬ 65536 < (l.getD j bs0).size) ∧ wr = w) (fun kv _ => l.length - (intOf kv).toNat)
 case atStart => exact ⟨0, Nat.zero_le _, rfl, fun j h => by omega, rfl⟩
 case round =>
  obtain ⟨k, hk, rfl, hsh, hw'⟩ := hrel
  obtain rfl := hw'.symm
  have HSh := hidd hsh
  clear hsh
  by_cases hlt : k < l.length
  ·have hltz : (k : Int) < (l.length : Int) := by omega
   have c1 := HC.out k hlt
   have Hm := hidd (getD_mem' hlt)
   have Hnx : Hid (¬ 65536 < (l.getD k bs0).size → ∀ j, j < k + 1 → ¬ 65536 < (l.getD j bs0).size) := fun h j hj => by
    by_cases e : j = k
    ·rw [e]; exact h
    ·exact HSh.out j (by omega)
   generalize hsk : l.getD k bs0 = s at *
   clear hsk
   by_cases hlong : 65536 < s.size
   ·have hlz : (65536 : Int) < (s.size : Int) := by omega
    have HX : Hid (txCode l = 2) := by show _ = _; rw [txCode, if_pos (List.any_eq_true.2 ⟨s, Hm.out, by simpa using hlong⟩)]
    go_wp2
    go_ret
    rw [HX.out]
    exact ⟨rfl, Below.refl _ _⟩
   ·have hlz : ¬ (65536 : Int) < (s.size : Int) := by omega
    go_wp2
    go_roundw
    case rel => exact ⟨k + 1, by omega, by go_num, Hnx.out hlong, by first | rfl | trivial⟩
    case measure => simp [intOf]; omega
  ·have hltz : ¬ (k : Int) < (l.length : Int) := by omega
   obtain rfl : k = l.length := by omega
   have HNo : Hid (¬ l.any (fun s => decide (65536 < s.size)) = true) := by
    intro h
    obtain ⟨s, hs, h1⟩ := List.any_eq_true.1 h
    obtain ⟨j, hj, e⟩ := mem_getD hs
    exact HSh.out j hj (by rw [e]; simpa using h1)
   go_wp2
   go_loopw [20] (fun kv wr => ∃ k : Nat, k ≤ l.length ∧ kv = .int .i64 (k : Int) ∧ (∀ j, j < k → validB (l.getD j bs0) = true) ∧ Below w.heap.size w wr) (fun kv _ => l.length - (intOf kv).toNat)
   case atStart => exact ⟨0, Nat.zero_le _, rfl, fun j h => by omega, Below.refl _ _⟩
   case round =>
    obtain ⟨k, hk2, rfl, hva, hbel⟩ := hrel
    have HVa := hidd hva
    have HB := hidd hbel
    clear hva hbel
    by_cases hlt : k < l.length
    ·have hltz : (k : Int) < (l.length : Int) := by omega
     have c1 := (HB.out.cell (p := ⟨g, k, none⟩) hg).trans (HC.out k hlt)
     have Hm := hidd (getD_mem' hlt)
     have Hle := hidd (HSh.out k hlt)
     have Hnx : Hid (validB (l.getD k bs0) = true → ∀ j, j < k + 1 → validB (l.getD j bs0) = true) := fun h j hj => by
      by_cases e : j = k
      ·rw [e]; exact h
      ·exact HVa.out j (by omega)
     have hs1 := HS.out _ Hm.out
     have Htc := hidd (textCode_any (l.getD k bs0) wr hs1 (HT.out.below HB.out))
     generalize hsk : l.getD k bs0 = s at *
     clear hsk
     cases hv : validB s with
     | true =>
      have Hc0 : Hid (decCode s = 0) := (decList_ok Hle.out hv).2
      have HV2 := hidd (Hnx.out hv)
      clear hv
      go_wp2_with fail
      refine Htc.out.mono ?_
      rintro e w1 ⟨rfl, hb1⟩
      rw [Hc0.out]
      have HB1 := hidd (HB.out.trans (hb1.mono HB.out.size))
      clear hb1
      go_wp2
      go_roundw
      case rel => exact ⟨k + 1, by omega, by go_num, HV2.out, HB1.out⟩
      case measure => simp [intOf]; omega
     | false =>
      have Hc0 : Hid (decCode s = 3) := decCode_bad Hle.out hv
      have HX : Hid (txCode l = 3) := by
       show _ = _
       rw [txCode, if_neg HNo.out, if_neg]
       intro h
       have := List.all_eq_true.1 h s Hm.out
       rw [hv] at this
       cases this
      clear hv
      go_wp2_with fail
      refine Htc.out.mono ?_
      rintro e w1 ⟨rfl, hb1⟩
      rw [Hc0.out]
      have HB1 := hidd (HB.out.trans (hb1.mono HB.out.size))
      clear hb1
      go_wp2
      go_ret
      rw [HX.out]
      exact ⟨rfl, HB1.out⟩
    ·have hltz : ¬ (k : Int) < (l.length : Int) := by omega
     obtain rfl : k = l.length := by omega
     have HX : Hid (txCode l = 0) := by
      show _ = _
      rw [txCode, if_neg HNo.out, if_pos]
      refine List.all_eq_true.2 fun s hs => ?_
      obtain ⟨j, hj, e⟩ := mem_getD hs
      rw [← e]; exact HVa.out j hj
     go_wp2
     go_ret
     rw [HX.out]
     exact ⟨rfl, HB.out⟩
end Go.Proofs.YtoinajfliogcdaaDoor

namespace Go.Proofs.YtoinajfliogcdaaDoor
open Go Go.RowKit
set_option linter.unusedVariables false

def RunesAt (w : World) (g : Nat) (zs : List Int) : Prop := ∀ t, t < zs.length → w.cell? ⟨g, t, none⟩ = some (.int .i32 (zs.getD t 0))
theorem RunesAt.below {w w' : World} {g : Nat} {zs : List Int} (h : RunesAt w g zs) (hb : Below w.heap.size w w') : RunesAt w' g zs :=
 fun t ht => (hb.cell (p := ⟨g, t, none⟩) (cell_lt (h t ht))).trans (h t ht)
theorem conv_runes (s : ByteArray) : ∀ (f p : Nat) (acc : Array Value), (Conv.runesFrom s f p acc).toList = acc.toList ++ (runesFrom s f p).map (Value.int .i32)
 | 0, p, acc => by simp [Conv.runesFrom, runesFrom]
 | f + 1, p, acc => by
  unfold Conv.runesFrom
  by_cases h : p < s.size
  ·rw [if_pos h, runesFrom_step s f p h]
   have := conv_runes s f (p + (Utf8.decode s p).2) (acc.push (.int .i32 (Int.ofNat (Utf8.decode s p).1)))
   simp only [this, Array.toList_push, List.append_assoc, List.map_cons, List.singleton_append]
   rfl
  ·rw [if_neg h, runesFrom_end s _ p h]; simp
theorem conv_runes_size (s : ByteArray) : (Conv.runesFrom s s.size 0 #[]).size = (runes s).length := by
 have := congrArg List.length (conv_runes s s.size 0 #[])
 simpa [runes] using this
theorem run_runes (s : ByteArray) (W : World) (hs : s.size ≤ 1048576) : ∃ cap W', (convert 9 87 (.string s)).run Tryd.prog W = .ok (.slice (some ⟨W.heap.size, 0, none⟩) (runes s).length cap) W' ∧ Below W.heap.size W W' ∧ W'.heap.size = W.heap.size + 1 ∧ RunesAt W' W.heap.size (runes s) := by
 have hsz := conv_runes_size s
 have hle := runes_le s
 have h := run_runes_of_string (P := Tryd.prog) W 9 87 21 s Tryd.underlying9 Tryd.underlying87 Tryd.underlying21 (by rw [hsz]; omega)
 rw [hsz] at h
 refine ⟨_, _, h, (below_drewN (Below.refl _ _) 1).alloc (by simp) _, by simp, fun t ht => ?_⟩
 have hget : (Conv.runesFrom s s.size 0 #[])[t]? = some (.int .i32 ((runes s).getD t 0)) := by
  rw [← Array.getElem?_toList, conv_runes s s.size 0 #[]]
  show ([] ++ (runes s).map (Value.int .i32))[t]? = _
  simp [ht]
 have hnew : ∀ (V : World) (cs : Array Value) (ty : TypeId), (V.alloc (.cells cs ty)).cell? ⟨V.heap.size, t, none⟩ = cs[t]? := by
  intro V cs ty
  exact cell_of_row _ V.heap.size t cs ty (0, 0) (by show (V.heap.push _)[V.heap.size]? = _; simp)
 have := hnew W.drew (Conv.runesFrom s s.size 0 #[] ++ Array.replicate (grownCap W (runes s).length 0 21 - (runes s).length) (.int .i32 0)) 21
 rw [show W.drew.heap.size = W.heap.size from rfl] at this
 rw [this, Array.getElem?_append_left (by rw [hsz]; exact ht)]
 exact hget
def fnRow (f : Nat → Int) (n : Nat) : List Int := (List.range n).map f
theorem fnRow_at (f : Nat → Int) {n q : Nat} (h : q < n) : (zI (fnRow f n))[q]? = some (.int .i64 (f q)) := by simp [zI, fnRow, h]
theorem fnRow_congr {f g : Nat → Int} {n : Nat} (h : ∀ j, j < n → f j = g j) : fnRow f n = fnRow g n := by
 unfold fnRow
 exact List.map_congr_left fun j hj => h j (by simpa using hj)
theorem fnRow_len (f : Nat → Int) (n : Nat) : (zI (fnRow f n)).length = n := by simp [zI, fnRow]
theorem fnRow_set (f : Nat → Int) (n k : Nat) (x : Int) : (zI (fnRow f n)).set k (.int .i64 x) = zI (fnRow (fun j => if j = k then x else f j) n) := by
 apply List.ext_getElem?
 intro j
 rw [List.getElem?_set, fnRow_len]
 by_cases hj : j < n
 ·by_cases e : k = j
  ·subst e; rw [if_pos rfl, if_pos hj, fnRow_at _ hj, if_pos rfl]
  ·rw [if_neg e, fnRow_at _ hj, fnRow_at _ hj, if_neg (fun h => e h.symm)]
 ·have e1 : ∀ g, (zI (fnRow g n))[j]? = none := fun g => List.getElem?_eq_none (by rw [fnRow_len]; omega)
  rw [e1, e1]
  by_cases e : k = j
  ·rw [if_pos e, if_neg (by omega)]
  ·rw [if_neg e]
theorem min3' (x y z d : Int) (h : d = 1 + min x (min y z)) : 1 + (if z < (if y < x then y else x) then z else (if y < x then y else x)) = d := by
 subst h
 split <;> split at * <;> omega
theorem edZ_same {a b : List Int} {i k : Nat} (hi : i < a.length) (hk : k < b.length) (h : a.getD i 0 = b.getD k 0) : edZ a b (i + 1) (k + 1) = edZ a b i k := by
 simp only [edZ, edAt_same a b i k hi hk h]
theorem edZ_other {a b : List Int} {i k : Nat} (hi : i < a.length) (hk : k < b.length) (h : ¬ a.getD i 0 = b.getD k 0) : edZ a b (i + 1) (k + 1) = 1 + min (edZ a b i k) (min (edZ a b (i + 1) k) (edZ a b i (k + 1))) := by
 simp only [edZ, edAt_other a b i k hi hk h]; omega
theorem txCode_two (s t : ByteArray) : txCode [s, t] = if 65536 < s.size ∨ 65536 < t.size then 2 else if validB s = false then 3 else if validB t = false then 3 else 0 := by
 simp only [txCode, List.any_cons, List.any_nil, List.all_cons, List.all_nil, Bool.or_false, Bool.and_true, Bool.or_eq_true, decide_eq_true_eq, Bool.and_eq_true]
 by_cases h : 65536 < s.size ∨ 65536 < t.size
 ·rw [if_pos h, if_pos h]
 ·rw [if_neg h, if_neg h]
  cases validB s <;> cases validB t <;> rfl
end Go.Proofs.YtoinajfliogcdaaDoor
