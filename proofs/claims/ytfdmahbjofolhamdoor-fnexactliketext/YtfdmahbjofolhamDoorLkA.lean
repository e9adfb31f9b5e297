import Derived.Test.YtfdmahbjofolhamDoorEdS
import Derived.Test.YtfdmahbjofolhamDoorLkQ
namespace Go.Proofs.YtfdmahbjofolhamDoor
open Go Go.RowKit
set_option linter.unusedVariables false

theorem drop_at (zs : List Int) (i : Nat) (h : i < zs.length) : zs.drop i = zs.getD i 0 :: zs.drop (i + 1) := by
  rw [List.drop_eq_getElem_cons h]; simp [h]

set_option maxHeartbeats 4000000 in
set_option maxRecDepth 100000 in
theorem l05Parts_any (zs : List Int) (v : Value) (w : World) (hl : zs.length ≤ 65536) (hv : HoldI w v zs) :
    Calls Tryd.prog 32 #[v] w fun e w' => ∃ v', e = .returned v' ∧ w'.ownsRow w.heap.size 3 1 v' (partsL zs).length (zI (partsL zs)) ∧ Below w.heap.size w w' := by
  obtain ⟨i0, hi, hz0, hz1, hz2⟩ := info_parts Tryd.infoInt
  obtain ⟨ad, cv, rfl, had⟩ := hv
  have HA := hidd had
  clear had
  go_enter Tryd.func32, Tryd.ntmps32
  go_wp2
  go_loopw [3, 4] (fun ov iv wr => ∃ (i : Nat) (acc : List Int), i ≤ zs.length ∧ iv = .int .i64 (i : Int) ∧ wr.ownsRow w.heap.size 3 1 ov acc.length (zI acc) ∧ Below w.heap.size w wr ∧ acc ++ partsL (zs.drop i) = partsL zs ∧ acc.length ≤ i) (fun _ iv _ => zs.length - (intOf iv).toNat)
  case atStart => exact ⟨0, [], Nat.zero_le _, rfl, own_empty w 3, (Below.refl _ _).alloc (Nat.le_refl _) _, by simp, by simp⟩
  case round =>
    obtain ⟨i, acc, hin, rfl, hown, hbel, hacc, hal⟩ := hrel
    have HO := hidd hown
    have HB := hidd hbel
    have HAc := hidd hacc
    have hzw := hbel.size
    clear hown hbel hacc
    by_cases hlt : i < zs.length
    · have hltz : (i : Int) < (zs.length : Int) := by omega
      obtain ⟨g, off, rfl, hg, hc⟩ := HA.out.resolve_left (fun h => by rw [h] at hlt; simp at hlt)
      have c1 := (HB.out.cell (p := ⟨g, off + i, none⟩) hg).trans (hc i hlt)
      have Hdr := hidd (drop_at zs i hlt)
      have Hc := hidd hc
      clear hc
      obtain ⟨x, hx⟩ : ∃ x, zs.getD i 0 = x := ⟨_, rfl⟩
      rw [hx] at c1 Hdr
      clear hx
      by_cases h42 : x = 42
      · have Hn : Hid (acc ++ [-2] ++ partsL (zs.drop (i + 1)) = partsL zs) := by
          show _ = _
          rw [← HAc.out, Hdr.out, partsL_cons (Or.inl (by omega)), mapP, if_pos h42]
          simp
        subst h42
        clear Hdr
        go_wp2_with (at_builtin; refine wpList_append_own _ rfl _ _ 46 rfl w.heap.size 3 i0 (.int .i64 0) 1 8 Tryd.underlying46 hi hz0 hz1 hz2 rfl (by decide) _ _ _ rfl (HO.out.alloc _) ⟨wr.heap.size, 0, none⟩ 1 1 [.int .i64 (-2)] rfl rfl ?c1a ?c2a ?c3a ?c4a ?c5a ?_)
        try case c1a =>
          intro j u hj
          match j, hj with
          | 0, hj => simp at hj; subst hj; simp [Addr.add]
        case c2a => first | rfl | (intro u hu; simp at hu; subst hu; rfl)
        case c3a => unfold maxLen; omega
        case c4a => omega
        case c5a => first | omega | (simp; omega)
        intro v' w2 hown' hgrow hne
        have R : Hid (w2.ownsRow w.heap.size 3 1 v' (acc ++ [-2]).length (zI (acc ++ [-2])) ∧ Below w.heap.size w w2) := by
          refine ⟨?_, (HB.out.alloc hzw _).grown hgrow (by simp; omega) (own_block HO.out)⟩
          rw [zI_snoc, List.length_append]
          exact hown'
        clear hown' hgrow HO HB
        go_wp2
        go_roundw
        case rel => exact ⟨i + 1, acc ++ [-2], by omega, by go_num, R.out.1, R.out.2, Hn.out, by simp; omega⟩
        case measure => simp [intOf]; omega
      have b42 : (x == 42) = false := beq_false_of_ne h42
      by_cases h63 : x = 63
      · have Hn : Hid (acc ++ [-1] ++ partsL (zs.drop (i + 1)) = partsL zs) := by
          show _ = _
          rw [← HAc.out, Hdr.out, partsL_cons (Or.inl (by omega)), mapP, if_neg h42, if_pos h63]
          simp
        subst h63
        clear Hdr b42
        go_wp2_with (at_builtin; refine wpList_append_own _ rfl _ _ 46 rfl w.heap.size 3 i0 (.int .i64 0) 1 8 Tryd.underlying46 hi hz0 hz1 hz2 rfl (by decide) _ _ _ rfl (HO.out.alloc _) ⟨wr.heap.size, 0, none⟩ 1 1 [.int .i64 (-1)] rfl rfl ?c1b ?c2b ?c3b ?c4b ?c5b ?_)
        try case c1b =>
          intro j u hj
          match j, hj with
          | 0, hj => simp at hj; subst hj; simp [Addr.add]
        case c2b => first | rfl | (intro u hu; simp at hu; subst hu; rfl)
        case c3b => unfold maxLen; omega
        case c4b => omega
        case c5b => first | omega | (simp; omega)
        intro v' w2 hown' hgrow hne
        have R : Hid (w2.ownsRow w.heap.size 3 1 v' (acc ++ [-1]).length (zI (acc ++ [-1])) ∧ Below w.heap.size w w2) := by
          refine ⟨?_, (HB.out.alloc hzw _).grown hgrow (by simp; omega) (own_block HO.out)⟩
          rw [zI_snoc, List.length_append]
          exact hown'
        clear hown' hgrow HO HB
        go_wp2
        go_roundw
        case rel => exact ⟨i + 1, acc ++ [-1], by omega, by go_num, R.out.1, R.out.2, Hn.out, by simp; omega⟩
        case measure => simp [intOf]; omega
      have b63 : (x == 63) = false := beq_false_of_ne h63
      by_cases h92 : x = 92 ∧ i + 1 < zs.length
      · obtain ⟨h92, hl2⟩ := h92
        have hl2z : (i : Int) + 1 < (zs.length : Int) := by omega
        have c2 := (HB.out.cell (p := ⟨g, off + (i + 1), none⟩) hg).trans (Hc.out (i + 1) hl2)
        have Hd2 := hidd (drop_at zs (i + 1) hl2)
        obtain ⟨y, hy⟩ : ∃ y, zs.getD (i + 1) 0 = y := ⟨_, rfl⟩
        rw [hy] at c2 Hd2
        clear hy
        have Hn : Hid (acc ++ [y] ++ partsL (zs.drop (i + 2)) = partsL zs) := by
          show _ = _
          rw [← HAc.out, Hdr.out, h92, Hd2.out, partsL_esc]
          simp
        subst h92
        clear Hdr Hd2 b42 b63
        go_wp2_with (at_builtin; refine wpList_append_own _ rfl _ _ 46 rfl w.heap.size 3 i0 (.int .i64 0) 1 8 Tryd.underlying46 hi hz0 hz1 hz2 rfl (by decide) _ _ _ rfl (HO.out.alloc _) ⟨wr.heap.size, 0, none⟩ 1 1 [.int .i64 (y)] rfl rfl ?c1c ?c2c ?c3c ?c4c ?c5c ?_)
        try case c1c =>
          intro j u hj
          match j, hj with
          | 0, hj => simp at hj; subst hj; simp [Addr.add]
        case c2c => first | rfl | (intro u hu; simp at hu; subst hu; rfl)
        case c3c => unfold maxLen; omega
        case c4c => omega
        case c5c => first | omega | (simp; omega)
        intro v' w2 hown' hgrow hne
        have R : Hid (w2.ownsRow w.heap.size 3 1 v' (acc ++ [y]).length (zI (acc ++ [y])) ∧ Below w.heap.size w w2) := by
          refine ⟨?_, (HB.out.alloc hzw _).grown hgrow (by simp; omega) (own_block HO.out)⟩
          rw [zI_snoc, List.length_append]
          exact hown'
        clear hown' hgrow HO HB
        go_wp2
        go_roundw
        case rel => exact ⟨i + 2, acc ++ [y], by omega, by go_num, R.out.1, R.out.2, Hn.out, by simp; omega⟩
        case measure => simp [intOf]; omega
      have hmp : mapP x = x := by rw [mapP, if_neg h42, if_neg h63]
      by_cases h9 : x = 92
      · have hl2 : ¬ (i : Int) + 1 < (zs.length : Int) := by omega
        have hdn : zs.drop (i + 1) = [] := List.drop_eq_nil_iff.2 (by omega)
        have Hn : Hid (acc ++ [92] ++ partsL (zs.drop (i + 1)) = partsL zs) := by
          show _ = _
          rw [← HAc.out, Hdr.out, h9, partsL_cons (Or.inr hdn), (show mapP 92 = 92 from by decide)]
          simp
        subst h9
        clear Hdr hdn hmp h92 b42 b63
        go_wp2_with (at_builtin; refine wpList_append_own _ rfl _ _ 46 rfl w.heap.size 3 i0 (.int .i64 0) 1 8 Tryd.underlying46 hi hz0 hz1 hz2 rfl (by decide) _ _ _ rfl (HO.out.alloc _) ⟨wr.heap.size, 0, none⟩ 1 1 [.int .i64 (92)] rfl rfl ?c1d ?c2d ?c3d ?c4d ?c5d ?_)
        try case c1d =>
          intro j u hj
          match j, hj with
          | 0, hj => simp at hj; subst hj; simp [Addr.add]
        case c2d => first | rfl | (intro u hu; simp at hu; subst hu; rfl)
        case c3d => unfold maxLen; omega
        case c4d => omega
        case c5d => first | omega | (simp; omega)
        intro v' w2 hown' hgrow hne
        have R : Hid (w2.ownsRow w.heap.size 3 1 v' (acc ++ [92]).length (zI (acc ++ [92])) ∧ Below w.heap.size w w2) := by
          refine ⟨?_, (HB.out.alloc hzw _).grown hgrow (by simp; omega) (own_block HO.out)⟩
          rw [zI_snoc, List.length_append]
          exact hown'
        clear hown' hgrow HO HB
        go_wp2
        go_roundw
        case rel => exact ⟨i + 1, acc ++ [92], by omega, by go_num, R.out.1, R.out.2, Hn.out, by simp; omega⟩
        case measure => simp [intOf]; omega
      have b92 : (x == 92) = false := beq_false_of_ne h9
      have Hn : Hid (acc ++ [x] ++ partsL (zs.drop (i + 1)) = partsL zs) := by
        show _ = _
        rw [← HAc.out, Hdr.out, partsL_cons (Or.inl h9), hmp]
        simp
      clear Hdr hmp h92
      go_wp2_with (at_builtin; refine wpList_append_own _ rfl _ _ 46 rfl w.heap.size 3 i0 (.int .i64 0) 1 8 Tryd.underlying46 hi hz0 hz1 hz2 rfl (by decide) _ _ _ rfl (HO.out.alloc _) ⟨wr.heap.size, 0, none⟩ 1 1 [.int .i64 (x)] rfl rfl ?c1e ?c2e ?c3e ?c4e ?c5e ?_)
      try case c1e =>
        intro j u hj
        match j, hj with
        | 0, hj => simp at hj; subst hj; simp [Addr.add]
      case c2e => first | rfl | (intro u hu; simp at hu; subst hu; rfl)
      case c3e => unfold maxLen; omega
      case c4e => omega
      case c5e => first | omega | (simp; omega)
      intro v' w2 hown' hgrow hne
      have R : Hid (w2.ownsRow w.heap.size 3 1 v' (acc ++ [x]).length (zI (acc ++ [x])) ∧ Below w.heap.size w w2) := by
        refine ⟨?_, (HB.out.alloc hzw _).grown hgrow (by simp; omega) (own_block HO.out)⟩
        rw [zI_snoc, List.length_append]
        exact hown'
      clear hown' hgrow HO HB
      go_wp2
      go_roundw
      case rel => exact ⟨i + 1, acc ++ [x], by omega, by go_num, R.out.1, R.out.2, Hn.out, by simp; omega⟩
      case measure => simp [intOf]; omega
    · have hltz : ¬ (i : Int) < (zs.length : Int) := by omega
      have HE : Hid (partsL zs = acc) := by show _ = _; rw [← HAc.out, List.drop_eq_nil_iff.2 (by omega), partsL_nil, List.append_nil]
      go_wp2
      go_ret
      rw [HE.out]
      exact ⟨_, rfl, HO.out, HB.out⟩
end Go.Proofs.YtfdmahbjofolhamDoor
