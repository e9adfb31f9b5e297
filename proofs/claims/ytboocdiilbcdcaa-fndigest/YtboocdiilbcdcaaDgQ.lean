import Derived.Test.YtboocdiilbcdcaaIkA
import Derived.Test.YtboocdiilbcdcaaDgM
import Derived.Test.YtboocdiilbcdcaaShelfI
import Derived.Sort.OwnSortedInts
import Derived.Shelf.Slices.In.SortNone
namespace Go.Proofs.Ytboocdiilbcdcaa
open Go Go.RowKit Go.Sort
set_option linter.unusedVariables false
set_option maxRecDepth 100000
set_option linter.unusedSimpArgs false

/-! The numbers of a slice, sorted into a row of its own. -/
theorem grown_reflI (w : World) (o : Option Nat) : w.grownBy w o := ⟨rfl, rfl, rfl, Nat.le_refl _, fun _ _ _ => rfl⟩
theorem sortRowI_any (F : List Int) (base : Nat) (v : Value) (w : World) (hl : F.length ≤ 1048576) (hown : w.ownsRow base 3 1 v F.length (zI F)) :
    Calls Try.prog 55 #[v] w fun e w' => e = .returned (.tuple #[]) ∧ w'.ownsRow base 3 1 v F.length (zI (srtZ F)) ∧ w.grownBy w' v.ownBlock := by
  have hsl : (srtZ F).length = F.length := srtZ_len F
  rcases hown.2 with ⟨rfl, h0⟩ | ⟨g, cap, cur, rfl, hb, hg, hc1, hc2, hc3, hc4⟩
  · have hF : F = [] := List.length_eq_zero_iff.1 h0
    subst hF
    refine (Any.slices_Sort_int_none Try.laysSortI none 0 w).mono ?_
    rintro e w' ⟨rfl, hw⟩
    obtain rfl := hw.symm
    have e0 : srtZ ([] : List Int) = [] := by simp [srtZ]
    exact ⟨rfl, by rw [e0]; exact hown, grown_reflI _ _⟩
  · have hH : Holds (Value.int .i64) w g 0 F.toArray := holds_of_blockI hg (by rw [Nat.mul_one] at hc4; exact hc4)
    refine (Any.slices_Sort_int Try.laysSortI g 0 cap F w hH (Array.getElem?_eq_some_iff.1 hg).1 (by omega)).mono ?_
    rintro e w' ⟨rfl, n, os, rfl⟩
    exact ⟨rfl, ownsRow_sortedI (ss := F) (ts := srtZ F) hsl hb hg hc1 hc2 hc3, grownBy_sortedI _⟩
theorem grown_below {w0 w w' : World} {base : Nat} {v : Value} {n : Nat} {xs : List Value} {e : TypeId} (hb : Below w0.heap.size w0 w) (ho : w.ownsRow base e 1 v n xs) (hbase : w0.heap.size ≤ base) (hg : w.grownBy w' v.ownBlock) : Below w0.heap.size w0 w' :=
  ⟨hg.os.trans hb.os, hg.tape.trans hb.tape, hg.output.trans hb.output, Nat.le_trans hb.size hg.size, fun b hb' => (hg.block b (Nat.lt_of_lt_of_le hb' hb.size) (fun e => by have := (own_blk ho e.symm).1; omega)).trans (hb.block b hb')⟩
theorem collect_any (Bs cap : Nat) (ad : Option Addr) (zs : List Int) (w : World) (hN : zs.length ≤ 1048576) (hb : w.cell? ⟨Bs, 0, none⟩ = some (.slice ad zs.length cap)) (hz : ∀ i, i < zs.length → ∃ g off, ad = some ⟨g, off, none⟩ ∧ w.cell? ⟨g, off + i, none⟩ = some (.int .i64 (atZ zs i))) :
    Calls Try.prog 54 #[.func (.func 56) #[] #[.pointer (some ⟨Bs, 0, none⟩)]] w fun e w' => ∃ v, e = .returned v ∧ w'.ownsRow w.heap.size 3 1 v zs.length (zI zs) ∧ Below w.heap.size w w' := by
  have HC := hidd (appendSeq_any Bs cap ad zs w hN hb hz)
  clear hb hz
  go_enter Try.func54, Try.ntmps54
  go_wp2_with fail
  refine HC.out.mono ?_
  rintro e w1 ⟨v, rfl, h1, h2⟩
  obtain ⟨ad9, cp9, rfl⟩ := own_slQ h1
  have H1 := hidd h1
  have H2 := hidd h2
  clear h1 h2
  go_wp2_with fail
  go_ret
  exact ⟨_, rfl, H1.out, H2.out⟩
theorem sorted_any (Bs cap : Nat) (ad : Option Addr) (zs : List Int) (w : World) (hN : zs.length ≤ 1048576) (hb : w.cell? ⟨Bs, 0, none⟩ = some (.slice ad zs.length cap)) (hz : ∀ i, i < zs.length → ∃ g off, ad = some ⟨g, off, none⟩ ∧ w.cell? ⟨g, off + i, none⟩ = some (.int .i64 (atZ zs i))) :
    Calls Try.prog 34 #[.func (.func 56) #[] #[.pointer (some ⟨Bs, 0, none⟩)]] w fun e w' => ∃ v, e = .returned v ∧ w'.ownsRow w.heap.size 3 1 v zs.length (zI (srtZ zs)) ∧ Below w.heap.size w w' := by
  have HC := hidd (collect_any Bs cap ad zs w hN hb hz)
  clear hb hz
  go_enter Try.func34, Try.ntmps34
  go_wp2_with fail
  refine HC.out.mono ?_
  rintro e w1 ⟨v, rfl, h1, h2⟩
  have HS := hidd (sortRowI_any zs w.heap.size v w1 hN h1)
  obtain ⟨ad9, cp9, rfl⟩ := own_slQ h1
  have H1 := hidd h1
  have H2 := hidd h2
  clear h1 h2 HC
  go_wp2_with fail
  refine HS.out.mono ?_
  rintro e w2 ⟨rfl, h3, h4⟩
  have H3 := hidd h3
  have H4 := hidd (grown_below H2.out H1.out (Nat.le_refl _) h4)
  clear h3 h4
  go_wp2_with fail
  go_ret
  exact ⟨_, rfl, H3.out, H4.out⟩
end Go.Proofs.Ytboocdiilbcdcaa
