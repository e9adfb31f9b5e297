import Derived.Test.YtfdmahbjofolhamDoorLkQ
import Derived.Test.YtfdmahbjofolhamDoorEdJ
import Derived.Lib.OthersKept
namespace Go.Proofs.YtfdmahbjofolhamDoor
open Go Go.RowKit
set_option linter.unusedVariables false

/-! impl.piecesOf. -/
def pcs (l : List Int) : List Int := l.map pieceI
theorem pcs_cons (x : Int) (l : List Int) : pcs (x :: l) = pieceI x :: pcs l := rfl
theorem pieceI_chr {r : Nat} : pieceI (r : Int) = (r : Int) := by unfold pieceI; rw [if_neg (by omega), if_neg (by omega)]

set_option maxHeartbeats 4000000 in
set_option maxRecDepth 100000 in
theorem piecesOf_any (s : ByteArray) (w : World) (hs : s.size ≤ 65536) :
    Calls Tryd.prog 40 #[.string s] w fun e w' => ∃ v, e = .returned v ∧ w'.ownsRow w.heap.size 3 1 v (pcs (partsL (runes s))).length (zI (pcs (partsL (runes s)))) ∧ Below w.heap.size w w' := by
  obtain ⟨i0, hi, hz0, hz1, hz2⟩ := info_parts Tryd.infoInt
  have Hgp := hidd (goP_parts (runes s))
  have hlenA : (pcs (goP false (runes s))).length ≤ 65537 := by have h1 := goP_len false (runes s); have h2 := runes_le s; simp only [pcs, List.length_map]; omega
  have HlenA := hidd hlenA
  clear hlenA
  have hit0 := hidd (World.iter_heap w s 0)
  have hb4 : Below w.heap.size w (w.iter s 0) := (Below.refl _ _).alloc (Nat.le_refl _) _
  have hown4 : (w.iter s 0).ownsRow w.heap.size 3 1 (.slice none 0 0) 0 [] := World.ownsRow_nil _ _ _ _
  go_enter Tryd.func40, Tryd.ntmps40
  go_wp2
  generalize w.iter s 0 = w4 at hit0 hb4 hown4 ⊢
  obtain ⟨B, hB⟩ : ∃ B, w.heap.size = B := ⟨_, rfl⟩
  rw [hB] at hit0 hb4 hown4 ⊢
  go_loopw [3, 4] (fun v tv wr => ∃ (p f : Nat) (tk : Bool) (acc : List Int), tv = .bool tk ∧ wr.ownsRow B 3 1 v acc.length (zI acc) ∧ wr.heap[B]? = some (.stringIter s p) ∧ Below B w wr ∧ acc ++ pcs (goP tk (runesFrom s f p)) = pcs (goP false (runes s)) ∧ s.size ≤ p + f) (fun _ _ wr => s.size - wr.iterPos B)
  case atStart => exact ⟨0, s.size, false, [], rfl, hown4, hit0.out, hb4, rfl, by omega⟩
  case round =>
    obtain ⟨p, f, tk, acc, rfl, hown, hit, hbel, hacc, hf⟩ := hrel
    have hlen : acc.length ≤ 65537 := by have := congrArg List.length hacc; rw [List.length_append] at this; have := HlenA.out; omega
    have HO := hidd hown
    clear hown hown4 hb4 hit0
    by_cases hlt : p < s.size
    · have hnx : ∀ ty, (Instr.next (.pointer (some ⟨B, 0, none⟩)) true ty).run Tryd.prog wr = _ := fun ty => Lib.run_next_any_at wr B s p ty hit hlt
      have hw := width_le s p hlt
      have hr := rune_le s p
      have HO2 := hidd (own_iterAt HO.out hit (p + (Utf8.decode s p).2))
      have hit2 := Lib.iterAt_heap wr B s p (p + (Utf8.decode s p).2) hit
      have hbel2 := Lib.below_iterAt hbel (k := B) (Nat.le_refl _) s (p + (Utf8.decode s p).2)
      obtain ⟨f', hf'⟩ : ∃ f', f = f' + 1 := ⟨f - 1, by omega⟩
      subst hf'
      rw [runesFrom_step s f' p hlt] at hacc
      have Hst := hidd hacc
      have Hpos := hidd (iterPos_of hit)
      have Hit2 := hidd hit2
      have HB2 := hidd hbel2
      have hzw : B ≤ (wr.iterAt B s (p + (Utf8.decode s p).2)).heap.size := by have := hbel2.size; omega
      have hzB : B < (wr.iterAt B s (p + (Utf8.decode s p).2)).heap.size := (Array.getElem?_eq_some_iff.1 hit2).1
      clear hacc HO hit2 hbel2 hbel
      generalize (Utf8.decode s p).1 = r at *
      generalize (Utf8.decode s p).2 = n at *
      generalize wr.iterAt B s (p + n) = wi at *
      cases tk with
      | true =>
        have Hn : Hid (acc ++ [(r : Int)] ++ pcs (goP false (runesFrom s f' (p + n))) = pcs (goP false (runes s))) := by
          show _ = _
          rw [← Hst.out]
          rw [goP, pcs_cons, pieceI_chr]; simp
        clear Hst
        go_wp2_with (at_builtin; refine wpList_append_own _ rfl _ _ 46 rfl B 3 i0 (.int .i64 0) 1 8 Tryd.underlying46 hi hz0 hz1 hz2 rfl (by decide) _ _ _ rfl (HO2.out.alloc _) ⟨wi.heap.size, 0, none⟩ 1 1 [.int .i64 ((r : Int))] rfl rfl ?c1b ?c2b ?c3b ?c4b ?c5b ?_)
        try case c1b =>
          intro j u hj
          match j, hj with
          | 0, hj => simp at hj; subst hj; simp [Addr.add]
        case c2b => first | rfl | (intro u hu; simp at hu; subst hu; rfl)
        case c3b => unfold maxLen; omega
        case c4b => omega
        case c5b => first | omega | (simp; omega)
        intro v' w5 hown' hgrow hne
        have R : Hid (w5.ownsRow B 3 1 v' (acc ++ [(r : Int)]).length (zI (acc ++ [(r : Int)])) ∧ w5.heap[B]? = some (.stringIter s (p + n)) ∧ Below B w w5) := by
          refine ⟨?_, ?_, (HB2.out.alloc hzw _).grown hgrow (by simp; omega) (own_block HO2.out)⟩
          · rw [List.length_append, zI_snoc]
            exact hown'
          · rw [hgrow.block B (by simp; omega) (own_ne_iter HO2.out Hit2.out), Below.heap_alloc _ _ _ hzB]
            exact Hit2.out
        clear hown' hgrow HO2 Hit2 HB2
        go_wp2
        go_roundw
        case rel => exact ⟨p + n, f', false, acc ++ [(r : Int)], rfl, R.out.1, R.out.2.1, R.out.2.2, Hn.out, by omega⟩
        case measure => rw [iterPos_of R.out.2.1, Hpos.out]; omega
      | false =>
        by_cases h92 : r = 92
        · subst h92
          have Hn : Hid (acc ++ pcs (goP true (runesFrom s f' (p + n))) = pcs (goP false (runes s))) := by
            show _ = _
            rw [← Hst.out]; simp [goP]
          clear Hst
          go_wp2
          go_roundw
          case rel => exact ⟨p + n, f', true, acc, rfl, HO2.out, Hit2.out, HB2.out, Hn.out, by omega⟩
          case measure => rw [iterPos_of Hit2.out, Hpos.out]; omega
        have b92 : ((r : Int) == 92) = false := beq_false_of_ne (by omega)
        have n92 : ¬ (r : Int) = 92 := by omega
        by_cases h63 : r = 63
        · subst h63
          have Hn : Hid (acc ++ [-2] ++ pcs (goP false (runesFrom s f' (p + n))) = pcs (goP false (runes s))) := by
            show _ = _
            rw [← Hst.out]
            rw [goP, if_neg (by omega), pcs_cons, show pieceI (mapP ((63 : Nat) : Int)) = -2 from by decide]; simp
          clear Hst
          go_wp2_with (at_builtin; refine wpList_append_own _ rfl _ _ 46 rfl B 3 i0 (.int .i64 0) 1 8 Tryd.underlying46 hi hz0 hz1 hz2 rfl (by decide) _ _ _ rfl (HO2.out.alloc _) ⟨wi.heap.size, 0, none⟩ 1 1 [.int .i64 (-2)] rfl rfl ?c1c ?c2c ?c3c ?c4c ?c5c ?_)
          try case c1c =>
            intro j u hj
            match j, hj with
            | 0, hj => simp at hj; subst hj; simp [Addr.add]
          case c2c => first | rfl | (intro u hu; simp at hu; subst hu; rfl)
          case c3c => unfold maxLen; omega
          case c4c => omega
          case c5c => first | omega | (simp; omega)
          intro v' w5 hown' hgrow hne
          have R : Hid (w5.ownsRow B 3 1 v' (acc ++ [-2]).length (zI (acc ++ [-2])) ∧ w5.heap[B]? = some (.stringIter s (p + n)) ∧ Below B w w5) := by
            refine ⟨?_, ?_, (HB2.out.alloc hzw _).grown hgrow (by simp; omega) (own_block HO2.out)⟩
            · rw [List.length_append, zI_snoc]
              exact hown'
            · rw [hgrow.block B (by simp; omega) (own_ne_iter HO2.out Hit2.out), Below.heap_alloc _ _ _ hzB]
              exact Hit2.out
          clear hown' hgrow HO2 Hit2 HB2
          go_wp2
          go_roundw
          case rel => exact ⟨p + n, f', false, acc ++ [-2], rfl, R.out.1, R.out.2.1, R.out.2.2, Hn.out, by omega⟩
          case measure => rw [iterPos_of R.out.2.1, Hpos.out]; omega
        have b63 : ((r : Int) == 63) = false := beq_false_of_ne (by omega)
        by_cases h42 : r = 42
        · subst h42
          have Hn : Hid (acc ++ [-3] ++ pcs (goP false (runesFrom s f' (p + n))) = pcs (goP false (runes s))) := by
            show _ = _
            rw [← Hst.out]
            rw [goP, if_neg (by omega), pcs_cons, show pieceI (mapP ((42 : Nat) : Int)) = -3 from by decide]; simp
          clear Hst
          go_wp2_with (at_builtin; refine wpList_append_own _ rfl _ _ 46 rfl B 3 i0 (.int .i64 0) 1 8 Tryd.underlying46 hi hz0 hz1 hz2 rfl (by decide) _ _ _ rfl (HO2.out.alloc _) ⟨wi.heap.size, 0, none⟩ 1 1 [.int .i64 (-3)] rfl rfl ?c1d ?c2d ?c3d ?c4d ?c5d ?_)
          try case c1d =>
            intro j u hj
            match j, hj with
            | 0, hj => simp at hj; subst hj; simp [Addr.add]
          case c2d => first | rfl | (intro u hu; simp at hu; subst hu; rfl)
          case c3d => unfold maxLen; omega
          case c4d => omega
          case c5d => first | omega | (simp; omega)
          intro v' w5 hown' hgrow hne
          have R : Hid (w5.ownsRow B 3 1 v' (acc ++ [-3]).length (zI (acc ++ [-3])) ∧ w5.heap[B]? = some (.stringIter s (p + n)) ∧ Below B w w5) := by
            refine ⟨?_, ?_, (HB2.out.alloc hzw _).grown hgrow (by simp; omega) (own_block HO2.out)⟩
            · rw [List.length_append, zI_snoc]
              exact hown'
            · rw [hgrow.block B (by simp; omega) (own_ne_iter HO2.out Hit2.out), Below.heap_alloc _ _ _ hzB]
              exact Hit2.out
          clear hown' hgrow HO2 Hit2 HB2
          go_wp2
          go_roundw
          case rel => exact ⟨p + n, f', false, acc ++ [-3], rfl, R.out.1, R.out.2.1, R.out.2.2, Hn.out, by omega⟩
          case measure => rw [iterPos_of R.out.2.1, Hpos.out]; omega
        have b42 : ((r : Int) == 42) = false := beq_false_of_ne (by omega)
        have hmp : mapP (r : Int) = (r : Int) := by rw [mapP, if_neg (by omega), if_neg (by omega)]
        have Hn : Hid (acc ++ [(r : Int)] ++ pcs (goP false (runesFrom s f' (p + n))) = pcs (goP false (runes s))) := by
          show _ = _
          rw [← Hst.out]
          rw [goP, if_neg n92, pcs_cons, hmp, pieceI_chr]; simp
        clear Hst hmp
        go_wp2_with (at_builtin; refine wpList_append_own _ rfl _ _ 46 rfl B 3 i0 (.int .i64 0) 1 8 Tryd.underlying46 hi hz0 hz1 hz2 rfl (by decide) _ _ _ rfl (HO2.out.alloc _) ⟨wi.heap.size, 0, none⟩ 1 1 [.int .i64 ((r : Int))] rfl rfl ?c1e ?c2e ?c3e ?c4e ?c5e ?_)
        try case c1e =>
          intro j u hj
          match j, hj with
          | 0, hj => simp at hj; subst hj; simp [Addr.add]
        case c2e => first | rfl | (intro u hu; simp at hu; subst hu; rfl)
        case c3e => unfold maxLen; omega
        case c4e => omega
        case c5e => first | omega | (simp; omega)
        intro v' w5 hown' hgrow hne
        have R : Hid (w5.ownsRow B 3 1 v' (acc ++ [(r : Int)]).length (zI (acc ++ [(r : Int)])) ∧ w5.heap[B]? = some (.stringIter s (p + n)) ∧ Below B w w5) := by
          refine ⟨?_, ?_, (HB2.out.alloc hzw _).grown hgrow (by simp; omega) (own_block HO2.out)⟩
          · rw [List.length_append, zI_snoc]
            exact hown'
          · rw [hgrow.block B (by simp; omega) (own_ne_iter HO2.out Hit2.out), Below.heap_alloc _ _ _ hzB]
            exact Hit2.out
        clear hown' hgrow HO2 Hit2 HB2
        go_wp2
        go_roundw
        case rel => exact ⟨p + n, f', false, acc ++ [(r : Int)], rfl, R.out.1, R.out.2.1, R.out.2.2, Hn.out, by omega⟩
        case measure => rw [iterPos_of R.out.2.1, Hpos.out]; omega
    · have hnx : ∀ ty, (Instr.next (.pointer (some ⟨B, 0, none⟩)) true ty).run Tryd.prog wr = _ := fun ty => Lib.run_next_end_at wr B s p ty hit hlt
      rw [runesFrom_end s f p hlt] at hacc
      have Hst := hidd hacc
      clear hacc hit
      have HB := hidd hbel
      have hzB : B ≤ wr.heap.size := by have := hbel.size; omega
      clear hbel
      cases tk with
      | false =>
        have HE : Hid (pcs (partsL (runes s)) = acc) := by show _ = _; rw [← Hgp.out, ← Hst.out]; simp [goP, pcs]
        go_wp2
        go_ret
        rw [HE.out, hB]
        exact ⟨_, rfl, HO.out, HB.out⟩
      | true =>
        have HE : Hid (pcs (partsL (runes s)) = acc ++ [92]) := by show _ = _; rw [← Hgp.out, ← Hst.out]; simp [goP, pcs, pieceI]
        go_wp2_with (at_builtin; refine wpList_append_own _ rfl _ _ 46 rfl B 3 i0 (.int .i64 0) 1 8 Tryd.underlying46 hi hz0 hz1 hz2 rfl (by decide) _ _ _ rfl (HO.out.alloc _) ⟨wr.heap.size, 0, none⟩ 1 1 [.int .i64 92] rfl rfl ?c1z ?c2z ?c3z ?c4z ?c5z ?_)
        try case c1z =>
          intro j u hj
          match j, hj with
          | 0, hj => simp at hj; subst hj; simp [Addr.add]
        case c2z => first | rfl | (intro u hu; simp at hu; subst hu; rfl)
        case c3z => unfold maxLen; omega
        case c4z => omega
        case c5z => first | omega | (simp; omega)
        intro v' w5 hown' hgrow hne
        have R : Hid (w5.ownsRow B 3 1 v' (acc ++ [92]).length (zI (acc ++ [92])) ∧ Below B w w5) := by
          refine ⟨?_, (HB.out.alloc hzB _).grown hgrow (by simp; omega) (own_block HO.out)⟩
          rw [List.length_append, zI_snoc]
          exact hown'
        clear hown' hgrow HO HB
        go_wp2
        go_ret
        rw [HE.out, hB]
        exact ⟨_, rfl, R.out.1, R.out.2⟩
end Go.Proofs.YtfdmahbjofolhamDoor
