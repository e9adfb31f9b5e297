import Derived.Test.YtecbjhakkebdmadDoorFoldTP
import Derived.Test.YtecbjhakkebdmadDoorOwn
import Derived.Test.YtecbjhakkebdmadDoorFoldI
import Derived.Test.YtecbjhakkebdmadDoorTextCode
import Derived.Test.YtecbjhakkebdmadDoorRune
import Derived.BigCall
namespace Go.Proofs.YtecbjhakkebdmadDoor
open Go Go.RowKit
set_option linter.unusedVariables false

set_option maxHeartbeats 4000000 in
set_option maxRecDepth 1000000 in
theorem implFoldText_any (s : ByteArray) (w : World) (hs : s.size ≤ 1048576) (hT : Tabs w) :
    Calls Tryd.prog 8 #[.string s] w fun e w' => e = .returned (.tuple #[.string ⟨(foldText s).toArray⟩, .int .i64 (decCode s)]) ∧ Below w.heap.size w w' := by
  have HT := hidd hT
  clear hT
  by_cases hc : decCode s = 0
  · have HD := hidd (dec_ok s hc)
    have hsz := (dec_ok s hc).2
    have HC := hidd hc
    have HX : Hid (foldText s = encs ((runes s).map foldZ)) := by show _ = _; rw [foldText, if_pos hc]; rfl
    clear hc
    go_enter Tryd.func8, Tryd.ntmps8
    go_wp2_with fail
    refine (textCode_any s _ hs HT.out).mono ?_
    rintro e w1 ⟨rfl, hb1⟩
    rw [HC.out]
    go_wp2_with fail
    have hz1 := hb1.size
    refine (Tryd.Builder_Grow_fresh w1.heap.size w1.heap.size s.size _ (Nat.le_refl _) (by exact heap_alloc_new _ _) (by simp) (by omega)).mono ?_
    rintro e w2 ⟨rfl, hB2, hb2⟩
    have hbel2 : Below w.heap.size w w2 := (hb1.alloc hb1.size _).trans (hb2.mono hz1)
    have hI2 : Lib.IsBuilderF 48 5 w1.heap.size w1.heap.size [] w2 := Lib.IsBuilderF.of (Or.inr hB2)
    have hz2 : w1.heap.size < w2.heap.size := hB2.lt
    clear hB2 hb2 hb1
    generalize w1.heap.size = B at *
    have hit0 := hidd (World.iter_heap w2 s 0)
    have hb3 : Below w.heap.size w (w2.iter s 0) := hbel2.alloc hbel2.size _
    have hI3 : Lib.IsBuilderF 48 5 B B [] (w2.iter s 0) := hI2.alloc _
    have hz3 : w.heap.size ≤ w2.heap.size := hbel2.size
    go_wp2
    generalize w2.iter s 0 = w3 at hit0 hb3 hI3 ⊢
    generalize w2.heap.size = I at *
    clear hbel2 hI2
    go_loopw [] (fun wr => ∃ (p f : Nat) (acc : List Int), Lib.IsBuilderF 48 5 B B (Lib.byteCells (encs (acc.map foldZ))) wr ∧ wr.heap[I]? = some (.stringIter s p) ∧ Below w.heap.size w wr ∧ acc ++ runesFrom s f p = runes s ∧ s.size ≤ p + f ∧ vFrom s p = true) (fun wr => s.size - wr.iterPos I)
    case atStart => exact ⟨0, s.size, [], hI3, hit0.out, hb3, rfl, by omega, by rw [vFrom_zero]; exact HD.out.1⟩
    case round =>
      obtain ⟨p, f, acc, hI, hit, hbel, hacc, hf, hv⟩ := hrel
      have hlen : acc.length ≤ s.size := by have := congrArg List.length hacc; rw [List.length_append] at this; have := runes_le s; omega
      have hel := encs_le (acc.map foldZ)
      rw [List.length_map] at hel
      clear hI3 hit0 hb3
      have hIlt : I < wr.heap.size := (Array.getElem?_eq_some_iff.1 hit).1
      by_cases hlt : p < s.size
      · have hnx : ∀ ty, (Instr.next (.pointer (some ⟨I, 0, none⟩)) true ty).run Tryd.prog wr = _ := fun ty => Lib.run_next_any_at wr I s p ty hit hlt
        have hw := width_le s p hlt
        have hr := rune_le s p
        have hg := good_of s p hlt hv
        obtain ⟨hf0, hf1, _⟩ := foldZ_bd _ (rune_chr s p hg)
        have hI2 := hI.iterAt hit (p + (Utf8.decode s p).2)
        have hit2 := Lib.iterAt_heap wr I s p (p + (Utf8.decode s p).2) hit
        have hbel2 := Lib.below_iterAt hbel (k := I) hz3 s (p + (Utf8.decode s p).2)
        have hzw : B ≤ (wr.iterAt I s (p + (Utf8.decode s p).2)).heap.size := by rw [Lib.iterAt_size]; omega
        have Hst : Hid (acc ++ [((Utf8.decode s p).1 : Int)] ++ runesFrom s (f - 1) (p + (Utf8.decode s p).2) = runes s) := by
          show _ = _
          obtain ⟨g, rfl⟩ : ∃ g, f = g + 1 := ⟨f - 1, by omega⟩
          rw [runesFrom_step s g p hlt] at hacc
          rw [← hacc]
          simp
        have Hv2 : Hid (vFrom s (p + (Utf8.decode s p).2) = true) := by show _ = _; rw [vFrom_good s p hlt hg]; exact hv
        have Hpos := hidd (iterPos_of hit)
        have HI2 := hidd hI2
        have Hit2 := hidd hit2
        have HB2 := hidd hbel2
        clear hacc hI hit2 hbel2 hbel hI2 hv hg
        generalize (Utf8.decode s p).1 = r at *
        generalize (Utf8.decode s p).2 = n at *
        generalize wr.iterAt I s (p + n) = wi at *
        go_wp2_with fail
        refine (implFold_any _ _).mono ?_
        rintro e w4 ⟨rfl, rfl⟩
        generalize hfz : foldZ (r : Int) = fz at *
        have Hfz := hidd hfz
        clear hfz
        go_wp2_with fail
        refine (Tryd.Builder_WriteRune_k B B _ _ (by omega) (by omega) _ HI2.out (by rw [Lib.byteCells_length]; omega) hzw).mono ?_
        rintro e w5 ⟨rfl, h1, b1, k1⟩
        have R : Hid (Lib.IsBuilderF 48 5 B B (Lib.byteCells (encs ((acc ++ [(r : Int)]).map foldZ))) w5 ∧ w5.heap[I]? = some (.stringIter s (p + n)) ∧ Below w.heap.size w w5) := by
          refine ⟨?_, k1.iter Hit2.out (by omega), HB2.out.trans (b1.mono hz1)⟩
          rw [List.map_append, List.map_cons, List.map_nil, Hfz.out, encs_snoc, Lib.byteCells_append, Lib.byteCells_encodeRune]
          exact Or.inr h1
        clear h1 b1 k1 HI2 Hit2 HB2
        go_wp2
        go_roundw
        case rel => exact ⟨p + n, f - 1, acc ++ [(r : Int)], R.out.1, R.out.2.1, R.out.2.2, Hst.out, by omega, Hv2.out⟩
        case measure => rw [iterPos_of R.out.2.1, Hpos.out]; omega
      · have hnx : ∀ ty, (Instr.next (.pointer (some ⟨I, 0, none⟩)) true ty).run Tryd.prog wr = _ := fun ty => Lib.run_next_end_at wr I s p ty hit hlt
        have HL2 : Hid (runes s = acc) := by show _ = _; rw [← hacc, runesFrom_end s f p hlt, List.append_nil]
        have HI := hidd hI
        clear hacc hit hI
        go_wp2_with fail
        refine (Tryd.Builder_String_any_k B B (encs (acc.map foldZ)) _ HI.out (by omega)).mono ?_
        rintro e w5 ⟨rfl, _, b1, _⟩
        go_wp2
        go_ret2
        rw [HX.out, HL2.out, HC.out]
        exact ⟨rfl, hbel.trans (b1.mono hz1)⟩
  · have hcn : (decCode s != 0) = true := by rw [bne_iff_ne]; exact hc
    have HX : Hid (foldText s = []) := by show _ = _; rw [foldText, if_neg hc]
    clear hc
    go_enter Tryd.func8, Tryd.ntmps8
    go_wp2_with fail
    refine (textCode_any s _ hs HT.out).mono ?_
    rintro e w1 ⟨rfl, hb1⟩
    go_wp2
    go_ret2
    rw [HX.out]
    exact ⟨rfl, hb1⟩
end Go.Proofs.YtecbjhakkebdmadDoor
