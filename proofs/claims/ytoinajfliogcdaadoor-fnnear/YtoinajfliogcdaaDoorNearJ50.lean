import Derived.Test.YtoinajfliogcdaaDoorNearJ01
import Derived.Test.YtoinajfliogcdaaDoorNearJ47
import Derived.Test.YtoinajfliogcdaaDoorNearJ49
import Derived.Test.YtoinajfliogcdaaDoorNearJ08
import Derived.Test.YtoinajfliogcdaaDoorNearJ18
import Derived.Test.YtoinajfliogcdaaDoorNearJ46
namespace Go.Proofs.YtoinajfliogcdaaDoor
open Go Go.RowKit
set_option linter.unusedVariables false
set_option linter.unusedSimpArgs false
set_option maxRecDepth 100000

theorem lawAtB_any (ao : Option Addr) (n cap i m : Nat) (w : World) (hn : n ≤ 1048576) (hi : i ≤ 1048576) (hm : 1 ≤ m) (hm2 : m ≤ 1048576) (hc : CodeIn w ao n) :
  Calls Tryd.prog 11 #[.slice ao n cap, .int .i64 (i : Int), .int .i64 (m : Int)] w fun e w' => ∃ x : Nat, e = .returned (.int .i64 (x : Int)) ∧ x < m ∧ w.grownBy w' none := by
 by_cases h : 1 < m
 ·exact lawAt_any ao n cap i m w hn hi h hm2 hc
 ·obtain rfl : m = 1 := by omega
  clear hc
  go_enter Tryd.func11, Tryd.ntmps11
  go_wp2
  go_ret
  exact ⟨0, rfl, by omega, rfl, rfl, rfl, Nat.le_refl _, fun _ _ _ => rfl⟩
theorem near_text {zs : List Int} (hc : ∀ z ∈ zs, chr z = true) (hl : zs.length ≤ 200) : ansCode zs = 0 ∧ (⟨(ansText zs).toArray⟩ : ByteArray).size ≤ 65536 ∧ runes ⟨(ansText zs).toArray⟩ = zs ∧ validB ⟨(ansText zs).toArray⟩ = true ∧ decCode ⟨(ansText zs).toArray⟩ = 0 ∧ decList ⟨(ansText zs).toArray⟩ = zs := by
 have hall : zs.all chr = true := List.all_eq_true.2 hc
 have hlen : (encs zs).length ≤ 4 * zs.length := by
  clear hl hall
  induction zs with
  | nil => simp [encs]
  | cons z t ih =>
   have h1 := ih (fun x hx => hc x (by simp [hx]))
   have h2 := (encodeRune_length z).2
   have h3 : (encs (z :: t)).length = (Lib.encodeRune z).length + (encs t).length := by simp [encs]
   rw [h3, List.length_cons]
   omega
 have hx : ansText zs = encs zs := by
  unfold ansText
  rw [if_neg (by omega), if_pos hall, if_neg (by omega)]
 have hy : ansCode zs = 0 := by
  unfold ansCode
  rw [if_neg (by omega), if_pos hall, if_neg (by omega)]
 have hsz : (⟨(encs zs).toArray⟩ : ByteArray).size ≤ 65536 := by
  have : (⟨(encs zs).toArray⟩ : ByteArray).size = (encs zs).length := by rw [← data_len]
  omega
 obtain ⟨r1, r2⟩ := runes_encs zs hc
 rw [hx]
 obtain ⟨d1, d2⟩ := decList_ok (by omega : ¬ 65536 < (⟨(encs zs).toArray⟩ : ByteArray).size) r2
 exact ⟨hy, hsz, r1, r2, d2, by rw [d1, r1]⟩
theorem near_ask {s : ByteArray} {k head : Nat} {D : List PSt} (h : NearD s k head D) {zs : List Int} (hc : ∀ z ∈ zs, chr z = true) (hl : zs.length ≤ 200) :
  edCode s ⟨(ansText zs).toArray⟩ = 0 ∧ edVal s ⟨(ansText zs).toArray⟩ = ((edits (decList s) zs : Nat) : Int) ∧ finP D ((runes ⟨(ansText zs).toArray⟩).foldl (stepP D) 0) = nearB (decList s) zs k head := by
 obtain ⟨h1, h2, h3, h4, h5, h6⟩ := h
 obtain ⟨t1, t2, t3, t4, t5, t6⟩ := near_text hc hl
 obtain ⟨e1, e2⟩ := decCode_eq s h4
 have hv : validB s = true := by
  unfold decCode at h4
  rw [if_neg (by omega)] at h4
  cases hb : validB s with
  | true => rfl
  | false => rw [hb] at h4; simp at h4
 obtain ⟨q1, q2⟩ := edCode_ok (s := s) (t := ⟨(ansText zs).toArray⟩) (by omega) (by omega) hv t4 (by rw [← e1]; omega) (by rw [t3]; omega)
 refine ⟨q1, by rw [q2, t3, ← e1], ?_⟩
 rw [t3]
 exact h6 zs (fun r hr => ((chr_iff r).1 (hc r hr)).1)
end Go.Proofs.YtoinajfliogcdaaDoor

namespace Go.Proofs.YtoinajfliogcdaaDoor
open Go Go.RowKit
set_option linter.unusedVariables false
set_option linter.unusedSimpArgs false
set_option maxRecDepth 100000

theorem own_setG {W : World} {base e size n g cap j : Nat} {xs : List Value} (h : W.ownsRow base e size (.slice (some ⟨g, 0, none⟩) n cap) n xs) (u : Value) (hj : j < xs.length) : (W.setCell ⟨g, j, none⟩ u).ownsRow base e size (.slice (some ⟨g, 0, none⟩) n cap) n (xs.set j u) := by
 refine ⟨by rw [List.length_set]; exact h.1, ?_⟩
 rcases h.2 with ⟨h', _⟩ | ⟨g', cap', cur, h1, h2, h3, h4, h5, h6, h7⟩
 ·cases h'
 ·simp only [Value.slice.injEq, Option.some.injEq, Addr.mk.injEq, and_true, true_and] at h1
  obtain ⟨rfl, rfl⟩ := h1
  refine Or.inr ⟨g, cap, cur.setIfInBounds j u, rfl, h2, blk_setk h3 j u, h4, h5, by rw [Array.size_setIfInBounds]; exact h6, ?_⟩
  rw [← h7, Array.toList_setIfInBounds, List.take_set]
section
variable {W W1 : World} {base g n cap : Nat} {v va : Value} {A B : List MSt} {f : Bool} {rs : List (Int × Int)} {e : Int}
end
def OthD (w w' : World) : Prop := ∀ (b : Nat) (cs : Array Value) (t : TypeId), t ≠ 95 → t ≠ 97 → w.heap[b]? = some (.cells cs t) → w'.heap[b]? = some (.cells cs t)
theorem OthD.trans {a b c : World} (h : OthD a b) (k : OthD b c) : OthD a c := fun x cs t h1 h2 hh => k x cs t h1 h2 (h x cs t h1 h2 hh)
end Go.Proofs.YtoinajfliogcdaaDoor

namespace Go.Proofs.YtoinajfliogcdaaDoor
open Go Go.RowKit
set_option linter.unusedVariables false
set_option linter.unusedSimpArgs false
set_option maxRecDepth 100000

end Go.Proofs.YtoinajfliogcdaaDoor

namespace Go.Proofs.YtoinajfliogcdaaDoor
open Go Go.RowKit
set_option linter.unusedVariables false
set_option linter.unusedSimpArgs false
set_option maxRecDepth 100000

theorem box_dfa (w : World) (v : Value) : Below w.heap.size w (w.alloc (.cells #[v] 27)) ∧ (w.alloc (.cells #[v] 27)).heap[w.heap.size]? = some (.cells #[v] 27) := ⟨(Below.refl _ _).alloc (Nat.le_refl _) _, heap_alloc_new _ _⟩
end Go.Proofs.YtoinajfliogcdaaDoor
