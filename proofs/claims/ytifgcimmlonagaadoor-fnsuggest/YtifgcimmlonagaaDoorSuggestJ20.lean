import Derived.Test.YtifgcimmlonagaaDoorSuggestJ19
import Derived.Test.YtifgcimmlonagaaDoorSuggestJ14
import Derived.Test.YtifgcimmlonagaaDoorSuggestJ00
import Derived.Lib.OthersKept
import Derived.Test.YtifgcimmlonagaaDoorSuggestJ10
import Derived.WalkLawsBesides
namespace Go.Proofs.YtifgcimmlonagaaDoor
open Go Go.RowKit
set_option linter.unusedVariables false
theorem Tryd.infoInt : (Tryd.prog.info? 3).map (fun i => (i.zero, i.size, i.bytes)) = some (some (.int .i64 0), 1, 8) := by kernel_rfl
set_option maxHeartbeats 1000000 in
set_option maxRecDepth 100000 in
theorem decode_any (s : ByteArray) (w : World) (hs : s.size ≤ 1048576) :
    Calls Tryd.prog 21 #[.string s] w fun e w' => ∃ v, e = .returned (.tuple #[v, .bool (validB s)]) ∧ w'.ownsRow w.heap.size 3 1 v (decL s).length ((decL s).map (Value.int .i64)) ∧ Below w.heap.size w w' := by
  obtain ⟨i0, hi, hz0, hz1, hz2⟩ := info_parts Tryd.infoInt
  go_enter Tryd.func21, Tryd.ntmps21
  go_wp2
  go_loopw [4, 5] (fun v i wr => ∃ (p f : Nat) (acc : List Int), p ≤ s.size ∧ i = .int .i64 p ∧ wr.ownsRow w.heap.size 3 1 v acc.length (acc.map (Value.int .i64)) ∧ Below w.heap.size w wr ∧ acc ++ runesFrom s f p = runes s ∧ s.size ≤ p + f ∧ vFrom s p = validB s) (fun _ i _ => s.size - (intOf i).toNat)
  case atStart => exact ⟨0, s.size, [], Nat.zero_le _, rfl, own_empty w _, (Below.refl _ _).alloc (Nat.le_refl _) _, rfl, by omega, vFrom_zero s⟩
  case round =>
    obtain ⟨p, f, acc, hp, rfl, hown, hbel, hacc, hf, hv⟩ := hrel
    have hlen : acc.length ≤ s.size := by have := congrArg List.length hacc; rw [List.length_append] at this; have := runes_le s; omega
    by_cases hlt : p < s.size
    · have hw := width_le s p hlt
      have hr := rune_le s p
      have HO := hidd hown
      by_cases hb : bad s p
      · have HV : Hid (validB s = false) := by show _ = _; rw [← hv]; exact vFrom_bad s p hlt hb
        have HL : Hid (decL s = []) := by show _ = _; rw [decL, if_neg (by rw [HV.out]; simp)]
        have HW := hidd (atW_bad s p hb)
        clear hown hacc hv
        go_wp2_with fail
        refine (at_any s p _ hs hlt).mono ?_
        rintro e w1 ⟨rfl, hb1⟩
        rw [HW.out]
        have hbel1 : Below w.heap.size w w1 := hbel.trans (hb1.mono hbel.size)
        clear hb1
        go_wp2
        go_ret2
        rw [HV.out, HL.out]
        refine ⟨_, rfl, own_mono (own_empty _ _) hbel1.size, hbel1.alloc hbel1.size _⟩
      · have HW := hidd (atW_good s p hb)
        have HC := hidd (atC_good s p hb)
        have Hst : Hid (acc ++ [((Utf8.decode s p).1 : Int)] ++ runesFrom s (f - 1) (p + (Utf8.decode s p).2) = runes s) := by
          show _ = _
          obtain ⟨g, rfl⟩ : ∃ g, f = g + 1 := ⟨f - 1, by omega⟩
          rw [runesFrom_step s g p hlt] at hacc
          rw [← hacc]
          simp
        have Hv2 : Hid (vFrom s (p + (Utf8.decode s p).2) = validB s) := by show _ = _; rw [vFrom_good s p hlt hb, hv]
        clear hown hacc hv
        go_wp2_with fail
        refine (at_any s p _ hs hlt).mono ?_
        rintro e w1 ⟨rfl, hb1⟩
        rw [HW.out, HC.out]
        have hbel1 : Below w.heap.size w w1 := hbel.trans (hb1.mono hbel.size)
        have HO1 := hidd (own_below HO.out hb1)
        clear hb1 HO
        generalize (Utf8.decode s p).1 = r at *
        generalize (Utf8.decode s p).2 = n at *
        go_wp2_with (at_builtin; refine wpList_append_own _ rfl _ _ 42 rfl w.heap.size 3 i0 (.int .i64 0) 1 8 Tryd.underlying42 hi hz0 hz1 hz2 rfl (by decide) _ _ _ rfl (HO1.out.alloc _) ⟨w1.heap.size, 0, none⟩ 1 1 [.int .i64 (r : Int)] rfl rfl ?c1 ?c2 ?c3 ?c4 ?c5 ?_)
        case c1 =>
          intro j u hj
          match j, hj with
          | 0, hj => simp at hj; subst hj; simp [Addr.add]
        case c2 => intro u hu; simp at hu; subst hu; rfl
        case c3 => unfold maxLen; omega
        case c4 => omega
        case c5 => have := hbel1.size; simp; omega
        intro v' w2 hown' hgrow hne
        have R : Hid (w2.ownsRow w.heap.size 3 1 v' (acc ++ [(r : Int)]).length ((acc ++ [(r : Int)]).map (Value.int .i64)) ∧ Below w.heap.size w w2) := by
          refine ⟨?_, (hbel1.alloc hbel1.size _).grown hgrow (by have := hbel1.size; simp; omega) (own_block HO1.out)⟩
          rw [List.length_append, List.map_append]
          exact hown'
        clear hown' hgrow HO1
        go_wp2
        go_roundw
        case rel => exact ⟨p + n, f - 1, acc ++ [(r : Int)], by omega, by go_num, R.out.1, R.out.2, Hst.out, by omega, Hv2.out⟩
        case measure => simp [intOf]; omega
    · have HV : Hid (validB s = true) := by show _ = _; rw [← hv]; exact vFrom_end s p hlt
      have HL : Hid (decL s = acc) := by show _ = _; rw [decL, if_pos HV.out, ← hacc, runesFrom_end s f p hlt, List.append_nil]
      clear hacc hv
      have HO := hidd hown
      clear hown
      go_wp2
      go_ret2
      rw [HV.out, HL.out]
      exact ⟨_, rfl, HO.out, hbel⟩
end Go.Proofs.YtifgcimmlonagaaDoor

namespace Go.Proofs.YtifgcimmlonagaaDoor
open Go Go.RowKit
set_option linter.unusedVariables false

set_option maxHeartbeats 1000000 in
theorem specDecode_any (s : ByteArray) (w : World) (hs : s.size ≤ 1048576) :
    Calls Tryd.prog 37 #[.string s] w fun e w' => ∃ v, e = .returned (.tuple #[v, .int .i64 (decCode s)]) ∧ w'.ownsRow w.heap.size 3 1 v (decList s).length ((decList s).map (Value.int .i64)) ∧ Below w.heap.size w w' := by
  by_cases hlong : 65536 < s.size
  · have HL : Hid (decList s = []) := by show _ = _; rw [decList, if_pos hlong]
    have HC : Hid (decCode s = 2) := by show _ = _; rw [decCode, if_pos hlong]
    have hlz : (65536 : Int) < (s.size : Int) := by omega
    go_enter Tryd.func37, Tryd.ntmps37
    go_wp2
    go_ret2
    rw [HL.out, HC.out]
    exact ⟨_, rfl, own_empty _ _, (Below.refl _ _).alloc (Nat.le_refl _) _⟩
  · have hlz : ¬ (65536 : Int) < (s.size : Int) := by omega
    by_cases hv : validB s = true
    · have HL : Hid (decList s = decL s) := by show _ = _; rw [decList, if_neg hlong]
      have HC : Hid (decCode s = 0) := by show _ = _; rw [decCode, if_neg hlong, if_pos hv]
      go_enter Tryd.func37, Tryd.ntmps37
      go_wp2_with fail
      refine (decode_any s _ hs).mono ?_
      rintro e w1 ⟨v, rfl, hown, hb1⟩
      have HO := hidd hown
      clear hown
      go_wp2
      go_ret2
      rw [HL.out, HC.out]
      exact ⟨_, rfl, HO.out, hb1⟩
    · have hv' : validB s = false := by simpa using hv
      have HL : Hid (decList s = []) := by show _ = _; rw [decList, if_neg hlong, decL, if_neg hv]
      have HC : Hid (decCode s = 3) := by show _ = _; rw [decCode, if_neg hlong, if_neg hv]
      clear hv
      go_enter Tryd.func37, Tryd.ntmps37
      go_wp2_with fail
      refine (decode_any s _ hs).mono ?_
      rintro e w1 ⟨v, rfl, hown, hb1⟩
      clear hown
      go_wp2
      go_ret2
      rw [HL.out, HC.out]
      exact ⟨_, rfl, own_mono (own_empty _ _) hb1.size, hb1.alloc hb1.size _⟩
end Go.Proofs.YtifgcimmlonagaaDoor

namespace Go.Proofs.YtifgcimmlonagaaDoor
open Go Go.RowKit
set_option linter.unusedVariables false

theorem decCode_ne (s : ByteArray) (h : ¬ decCode s = 0) : decList s = [] := by
  unfold decCode at h
  unfold decList decL
  by_cases h1 : 65536 < s.size
  · rw [if_pos h1]
  · rw [if_neg h1] at h ⊢
    by_cases h2 : validB s = true
    · rw [if_pos h2] at h; exact absurd rfl h
    · rw [if_neg h2]
theorem decCode_eq (s : ByteArray) (h : decCode s = 0) : decList s = runes s ∧ s.size ≤ 65536 := by
  unfold decCode at h
  unfold decList decL
  by_cases h1 : 65536 < s.size
  · rw [if_pos h1] at h; omega
  · rw [if_neg h1] at h ⊢
    by_cases h2 : validB s = true
    · rw [if_pos h2]; exact ⟨rfl, by omega⟩
    · rw [if_neg h2] at h; omega
set_option maxHeartbeats 2000000 in
set_option maxRecDepth 100000 in
theorem implDecode_any (s : ByteArray) (w : World) (hs : s.size ≤ 1048576) (hT : Tabs w) :
    Calls Tryd.prog 24 #[.string s] w fun e w' => ∃ v, e = .returned (.tuple #[v, .int .i64 (decCode s)]) ∧ w'.ownsRow w.heap.size 3 1 v (decList s).length ((decList s).map (Value.int .i64)) ∧ Below w.heap.size w w' := by
  have HT := hidd hT
  clear hT
  obtain ⟨i0, hi, hz0, hz1, hz2⟩ := info_parts Tryd.infoInt
  by_cases hc : decCode s = 0
  · have HC := hidd hc
    have HL := hidd (decCode_eq s hc).1
    have hsz := (decCode_eq s hc).2
    clear hc
    have hrc := Lib.runeCount_le s
    go_enter Tryd.func24, Tryd.ntmps24
    go_wp2_with fail
    refine (textCode_any s _ hs HT.out).mono ?_
    rintro e w1 ⟨rfl, hb1⟩
    rw [HC.out]
    go_wp2_with fail
    refine (Tryd.utf8_RuneCountInString s _ (by omega)).mono ?_
    rintro e w2 ⟨rfl, q, rfl⟩
    have hb2 : Below w.heap.size w (w1.iter s q) := hb1.alloc hb1.size _
    generalize w1.iter s q = w2 at hb2 ⊢
    clear hb1
    generalize Lib.runeCount s = rc at *
    go_wp2_with (at_make; refine wpList_make_own _ rfl _ _ 42 rfl w.heap.size 3 i0 (.int .i64 0) 1 Tryd.underlying42 hi hz0 hz1 _ _ _ rc rfl rfl (by omega) ?b2 ?b3 hb2.size ?_)
    case b2 => rw [hz2]; omega
    case b3 => unfold maxLen; omega
    intro w3 hown3 hgrow3
    have hb3 : Below w.heap.size w w3 := hb2.grown hgrow3 hb2.size (fun k h => by cases h)
    generalize (Value.slice (some ⟨w2.heap.size, 0, none⟩) 0 rc) = v3 at hown3 ⊢
    have hI : w.heap.size ≤ w3.heap.size := hb3.size
    have hit0 := hidd (World.iter_heap w3 s 0)
    have hb4 : Below w.heap.size w (w3.iter s 0) := hb3.alloc hb3.size _
    have hown4 : (w3.iter s 0).ownsRow w.heap.size 3 1 v3 0 [] := hown3.alloc _
    clear hb2 hgrow3 hown3 hb3
    go_wp2
    generalize w3.iter s 0 = w4 at hit0 hb4 hown4 ⊢
    generalize w3.heap.size = B at *
    go_loopw [5] (fun v wr => ∃ (p f : Nat) (acc : List Int), wr.ownsRow w.heap.size 3 1 v acc.length (acc.map (Value.int .i64)) ∧ wr.heap[B]? = some (.stringIter s p) ∧ Below w.heap.size w wr ∧ acc ++ runesFrom s f p = runes s ∧ s.size ≤ p + f) (fun _ wr => s.size - wr.iterPos B)
    case atStart => exact ⟨0, s.size, [], hown4, hit0.out, hb4, rfl, by omega⟩
    case round =>
      obtain ⟨p, f, acc, hown, hit, hbel, hacc, hf⟩ := hrel
      have hlen : acc.length ≤ s.size := by have := congrArg List.length hacc; rw [List.length_append] at this; have := runes_le s; omega
      have HO := hidd hown
      clear hown hown4 hb4 hit0
      by_cases hlt : p < s.size
      · have hnx : ∀ ty, (Instr.next (.pointer (some ⟨B, 0, none⟩)) true ty).run Tryd.prog wr = _ := fun ty => Lib.run_next_any_at wr B s p ty hit hlt
        have hw := width_le s p hlt
        have hr := rune_le s p
        have HO2 := hidd (own_iterAt HO.out hit (p + (Utf8.decode s p).2))
        have hit2 := Lib.iterAt_heap wr B s p (p + (Utf8.decode s p).2) hit
        have hbel2 := Lib.below_iterAt hbel (k := B) hI s (p + (Utf8.decode s p).2)
        have Hst : Hid (acc ++ [((Utf8.decode s p).1 : Int)] ++ runesFrom s (f - 1) (p + (Utf8.decode s p).2) = runes s) := by
          show _ = _
          obtain ⟨g, rfl⟩ : ∃ g, f = g + 1 := ⟨f - 1, by omega⟩
          rw [runesFrom_step s g p hlt] at hacc
          rw [← hacc]
          simp
        have Hpos := hidd (iterPos_of hit)
        have Hit2 := hidd hit2
        have HB2 := hidd hbel2
        have hzw : w.heap.size ≤ (wr.iterAt B s (p + (Utf8.decode s p).2)).heap.size := hbel2.size
        have hzB : B < (wr.iterAt B s (p + (Utf8.decode s p).2)).heap.size := (Array.getElem?_eq_some_iff.1 hit2).1
        clear hacc HO hit2 hbel2 hbel
        generalize (Utf8.decode s p).1 = r at *
        generalize (Utf8.decode s p).2 = n at *
        generalize wr.iterAt B s (p + n) = wi at *
        go_wp2_with (at_builtin; refine wpList_append_own _ rfl _ _ 42 rfl w.heap.size 3 i0 (.int .i64 0) 1 8 Tryd.underlying42 hi hz0 hz1 hz2 rfl (by decide) _ _ _ rfl (HO2.out.alloc _) ⟨wi.heap.size, 0, none⟩ 1 1 [.int .i64 (r : Int)] rfl rfl ?c1 ?c2 ?c3 ?c4 ?c5 ?_)
        case c1 =>
          intro j u hj
          match j, hj with
          | 0, hj => simp at hj; subst hj; simp [Addr.add]
        case c2 => intro u hu; simp at hu; subst hu; rfl
        case c3 => unfold maxLen; omega
        case c4 => omega
        case c5 => simp; omega
        intro v' w5 hown' hgrow hne
        have R : Hid (w5.ownsRow w.heap.size 3 1 v' (acc ++ [(r : Int)]).length ((acc ++ [(r : Int)]).map (Value.int .i64)) ∧ w5.heap[B]? = some (.stringIter s (p + n)) ∧ Below w.heap.size w w5) := by
          refine ⟨?_, ?_, (HB2.out.alloc hzw _).grown hgrow (by simp; omega) (own_block HO2.out)⟩
          · rw [List.length_append, List.map_append]
            exact hown'
          · rw [hgrow.block B (by simp; omega) (own_ne_iter HO2.out Hit2.out), Below.heap_alloc _ _ _ hzB]
            exact Hit2.out
        clear hown' hgrow HO2 Hit2 HB2
        go_wp2
        go_roundw
        case rel => exact ⟨p + n, f - 1, acc ++ [(r : Int)], R.out.1, R.out.2.1, R.out.2.2, Hst.out, by omega⟩
        case measure => rw [iterPos_of R.out.2.1, Hpos.out]; omega
      · have hnx : ∀ ty, (Instr.next (.pointer (some ⟨B, 0, none⟩)) true ty).run Tryd.prog wr = _ := fun ty => Lib.run_next_end_at wr B s p ty hit hlt
        have HL2 : Hid (runes s = acc) := by show _ = _; rw [← hacc, runesFrom_end s f p hlt, List.append_nil]
        clear hacc hit
        go_wp2
        go_ret2
        rw [HL.out, HL2.out, HC.out]
        exact ⟨_, rfl, HO.out, hbel⟩
  · have hcn : (decCode s != 0) = true := by rw [bne_iff_ne]; exact hc
    have HL := hidd (decCode_ne s hc)
    clear hc
    go_enter Tryd.func24, Tryd.ntmps24
    go_wp2_with fail
    refine (textCode_any s _ hs HT.out).mono ?_
    rintro e w1 ⟨rfl, hb1⟩
    go_wp2
    go_ret2
    rw [HL.out]
    exact ⟨_, rfl, World.ownsRow_nil _ _ _ _, hb1⟩
end Go.Proofs.YtifgcimmlonagaaDoor

namespace Go.Proofs.YtifgcimmlonagaaDoor
open Go Go.RowKit
set_option linter.unusedVariables false

theorem clone_any (s : ByteArray) (w : World) (hs : s.size ≤ 65536) :
    Calls Tryd.prog 32 #[.string s] w fun e w' => e = .returned (.string s) ∧ Below w.heap.size w w' := by
  go_enter Tryd.func32, Tryd.ntmps32
  go_wp2_with fail
  refine (Tryd.stringslite_Clone s _ (by omega)).mono ?_
  rintro e w1 ⟨rfl, hb⟩
  go_wp2
  go_ret
  exact ⟨rfl, hb⟩
end Go.Proofs.YtifgcimmlonagaaDoor
