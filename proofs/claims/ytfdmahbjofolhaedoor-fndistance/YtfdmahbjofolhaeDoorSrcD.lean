import Derived.Test.YtfdmahbjofolhaeDoorSrcC
import Derived.Lib.AppendStr
namespace Go.Proofs.YtfdmahbjofolhaeDoor
open Go Go.RowKit
set_option linter.unusedVariables false

set_option maxHeartbeats 1000000 in
theorem repeat_any (t : ByteArray) (N : Nat) (w : World) (ht : t.size ≤ 16) (hN : N ≤ 100000) :
    Calls Tryd.prog 29 #[.string t, .int .i64 (N : Int)] w fun e w' => ∃ r : ByteArray, e = .returned (.string r) ∧ r.size ≤ t.size * N ∧ Below w.heap.size w w' := by
  obtain ⟨i0, hi, hz0, hz1, hz2⟩ := info_parts Tryd.info5
  go_enter Tryd.func29, Tryd.ntmps29
  go_wp2
  go_loopw [5, 6] (fun v i wr => ∃ (k : Nat) (L : List UInt8), k ≤ N ∧ i = .int .i64 (k : Int) ∧ L.length ≤ t.size * k ∧ wr.ownsRow w.heap.size 5 1 v L.length (Lib.byteCells L) ∧ Below w.heap.size w wr ∧ v ≠ .slice none 0 0) (fun _ i _ => N - (intOf i).toNat)
  case atStart => exact ⟨0, [], Nat.zero_le _, rfl, by simp, own_empty w _, (Below.refl _ _).alloc (Nat.le_refl _) _, by simp⟩
  case round =>
    obtain ⟨k, L, hk, rfl, hL, hown, hbel, hnn⟩ := hrel
    have hL2 : L.length ≤ 16 * k := Nat.le_trans hL (Nat.mul_le_mul_right k ht)
    have HL := hidd hL
    clear hL
    have HO := hidd hown
    have HB := hidd hbel
    have hzr := hbel.size
    by_cases hlt : k < N
    · clear hown hbel
      go_wp2_with (at_builtin; refine Lib.wpList_append_own_string _ rfl _ _ 22 9 rfl w.heap.size 5 i0 Tryd.underlying22 Tryd.underlying9 hi hz0 hz1 hz2 _ _ _ rfl HO.out t rfl ?c1 ?c2 hzr ?_)
      case c1 => unfold maxLen; omega
      case c2 => omega
      intro v' w2 hown' hgrow hne
      have R : Hid (w2.ownsRow w.heap.size 5 1 v' (L ++ t.data.toList).length (Lib.byteCells (L ++ t.data.toList)) ∧ Below w.heap.size w w2) := by
        refine ⟨?_, HB.out.grown hgrow hzr (own_block HO.out)⟩
        rw [List.length_append, ← Lib.size_eq, Lib.byteCells_append]
        exact hown'
      have hne' : Hid (v' ≠ .slice none 0 0) := hne
      clear hown' hgrow hne
      go_wp2
      go_roundw
      case rel => exact ⟨k + 1, L ++ t.data.toList, by omega, by go_num, by rw [List.length_append, ← Lib.size_eq, Nat.mul_succ]; exact Nat.add_le_add_right HL.out _, R.out.1, R.out.2, hne'.out⟩
      case measure => simp [intOf]; omega
    · rcases own_cases hown with ⟨rfl, h0⟩ | ⟨g, cap, rfl, hbg, hgl⟩
      · exact absurd rfl hnn
      · have hbs : BytesAt wr g L := fun j hj => by rw [hown.cellAt j (by omega)]; exact bytes_at L j hj
        have hcv := hbs.text L.length cap rfl
        clear hbs hown hbel
        go_wp2
        go_ret
        exact ⟨⟨L.toArray⟩, rfl, by rw [size_mk]; exact Nat.le_trans HL.out (Nat.mul_le_mul_left _ hk), HB.out⟩

set_option maxHeartbeats 1000000 in
theorem source_any (ao : Option Addr) (n cap : Nat) (w : World) (hn : n ≤ 1048576) :
    Calls Tryd.prog 25 #[.slice ao n cap] w fun e w' => e = .returned (.pointer (some ⟨w.heap.size, 0, none⟩)) ∧ SrcAt w' w.heap.size (.slice ao n cap) 0 ((n : Int) % 1000) ∧ w.grownBy w' none := by
  go_enter Tryd.func25, Tryd.ntmps25
  go_wp2
  go_ret
  exact ⟨rfl, heap_alloc_new w _, World.grownBy_alloc w _ none⟩

def CodeIn (w : World) (ao : Option Addr) (n : Nat) : Prop := ∀ j, j < n → ∃ blk off z, ao = some ⟨blk, off, none⟩ ∧ blk < w.heap.size ∧ 0 ≤ z ∧ z ≤ 255 ∧ w.cell? ⟨blk, off + j, none⟩ = some (.int .u8 z)
theorem CodeIn.code {w w' : World} {ao : Option Addr} {n : Nat} (h : CodeIn w ao n) (hg : w.grownBy w' none) : Code w' w.heap.size ao n := fun j hj => by
  obtain ⟨blk, off, z, h1, h2, h3, h4, h5⟩ := h j hj
  exact ⟨blk, off, z, h1, by omega, h3, h4, hg.cell h5 (by simp)⟩
theorem CodeIn.below {w w' : World} {ao : Option Addr} {n : Nat} (h : CodeIn w ao n) (hb : Below w.heap.size w w') : CodeIn w' ao n := fun j hj => by
  obtain ⟨blk, off, z, h1, h2, h3, h4, h5⟩ := h j hj
  exact ⟨blk, off, z, h1, Nat.lt_of_lt_of_le h2 hb.size, h3, h4, by rw [hb.cell (p := ⟨blk, off + j, none⟩) h2]; exact h5⟩
theorem below_src {w w1 w2 : World} (h : w.grownBy w1 none) (k : w1.grownBy w2 (some w.heap.size)) : Below w.heap.size w w2 :=
  ⟨k.os.trans h.os, k.tape.trans h.tape, k.output.trans h.output, Nat.le_trans h.size k.size, fun i hi => by rw [k.block i (Nat.lt_of_lt_of_le hi h.size) (by simp; omega), h.block i hi (by simp)]⟩

end Go.Proofs.YtfdmahbjofolhaeDoor
