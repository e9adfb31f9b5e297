import Derived.Test.YtmnfioghhdgciaaDoorWildJ20
import Derived.Lib.Strings
import Derived.Test.YtmnfioghhdgciaaDoorWildJ00
import Derived.Deep.AppendLies
import Derived.Deep.RegionLaw
import Derived.BigQuiet
import Derived.WalkLawsBesides
import Derived.Test.YtmnfioghhdgciaaDoorWildJ11
namespace Go.Proofs.YtmnfioghhdgciaaDoor
open Go

def runesFrom (s : ByteArray) : Nat → Nat → List Int
  | 0, _ => []
  | f + 1, p => if p < s.size then ((Utf8.decode s p).1 : Int) :: runesFrom s f (p + (Utf8.decode s p).2) else []
def runes (s : ByteArray) : List Int := runesFrom s s.size 0
def vFrom (s : ByteArray) (p : Nat) : Bool := Lib.validD (s.data.toList.drop p)
def validB (s : ByteArray) : Bool := Lib.validD s.data.toList
theorem data_len (s : ByteArray) : s.data.toList.length = s.size := (Lib.size_eq s).symm
theorem vFrom_zero (s : ByteArray) : vFrom s 0 = validB s := by simp [vFrom, validB]
theorem vFrom_end (s : ByteArray) (p : Nat) (h : ¬ p < s.size) : vFrom s p = true := by
  have : s.data.toList.drop p = [] := List.drop_of_length_le (by rw [data_len]; omega)
  rw [vFrom, this]; rfl
theorem vFrom_step (s : ByteArray) (p : Nat) (h : p < s.size) : vFrom s p = if bad s p then false else vFrom s (p + (Utf8.decode s p).2) := by
  have hne : s.data.toList.drop p ≠ [] := by
    intro e
    have := congrArg List.length e
    rw [List.length_drop, data_len] at this
    simp at this
    omega
  rw [vFrom, Lib.validD_step _ hne, Lib.decodeL_drop, List.drop_drop]
  rfl
theorem vFrom_bad (s : ByteArray) (p : Nat) (h : p < s.size) (hb : bad s p) : vFrom s p = false := by rw [vFrom_step s p h, if_pos hb]
theorem vFrom_good (s : ByteArray) (p : Nat) (h : p < s.size) (hb : ¬ bad s p) : vFrom s (p + (Utf8.decode s p).2) = vFrom s p := by rw [vFrom_step s p h, if_neg hb]
theorem width_le (s : ByteArray) (p : Nat) (h : p < s.size) : 1 ≤ (Utf8.decode s p).2 ∧ p + (Utf8.decode s p).2 ≤ s.size := by
  have hne : s.data.toList.drop p ≠ [] := by
    intro e
    have := congrArg List.length e
    rw [List.length_drop, data_len] at this
    simp at this
    omega
  have h1 := Lib.decodeL_width (s.data.toList.drop p)
  have h2 := Lib.decodeL_le (s.data.toList.drop p) hne
  rw [Lib.decodeL_drop] at h1 h2
  rw [List.length_drop, data_len] at h2
  omega
theorem rune_le (s : ByteArray) (p : Nat) : (Utf8.decode s p).1 ≤ 1114111 := by
  have := Lib.decodeL_rune (s.data.toList.drop p)
  rw [Lib.decodeL_drop] at this
  exact this
theorem runesFrom_end (s : ByteArray) (f p : Nat) (h : ¬ p < s.size) : runesFrom s f p = [] := by
  cases f with
  | zero => rfl
  | succ f => simp [runesFrom, h]
theorem runesFrom_step (s : ByteArray) (f p : Nat) (h : p < s.size) : runesFrom s (f + 1) p = ((Utf8.decode s p).1 : Int) :: runesFrom s f (p + (Utf8.decode s p).2) := by
  simp [runesFrom, h]
theorem runesFrom_le (s : ByteArray) : ∀ f p, (runesFrom s f p).length ≤ f
  | 0, _ => by simp [runesFrom]
  | f + 1, p => by
    by_cases h : p < s.size
    · rw [runesFrom_step s f p h, List.length_cons]; have := runesFrom_le s f (p + (Utf8.decode s p).2); omega
    · rw [runesFrom_end s _ p h]; simp
theorem runes_le (s : ByteArray) : (runes s).length ≤ s.size := runesFrom_le s _ _
theorem atW_good (s : ByteArray) (p : Nat) (hb : ¬ bad s p) : atW s p = ((Utf8.decode s p).2 : Int) := by rw [atW, if_neg hb]
theorem atC_good (s : ByteArray) (p : Nat) (hb : ¬ bad s p) : atC s p = ((Utf8.decode s p).1 : Int) := by rw [atC, if_neg hb]
theorem atW_bad (s : ByteArray) (p : Nat) (hb : bad s p) : atW s p = 0 := by rw [atW, if_pos hb]
def decL (s : ByteArray) : List Int := if validB s = true then runes s else []
def decList (s : ByteArray) : List Int := if 65536 < s.size then [] else decL s
def decCode (s : ByteArray) : Int := if 65536 < s.size then 2 else if validB s = true then 0 else 3
end Go.Proofs.YtmnfioghhdgciaaDoor

namespace Go.Proofs.YtmnfioghhdgciaaDoor
open Go Go.RowKit
set_option linter.unusedVariables false
theorem Tryd.infoInt : (Tryd.prog.info? 3).map (fun i => (i.zero, i.size, i.bytes)) = some (some (.int .i64 0), 1, 8) := by kernel_rfl
set_option maxHeartbeats 1000000 in
set_option maxRecDepth 100000 in
theorem decode_any (s : ByteArray) (w : World) (hs : s.size ≤ 1048576) :
    Calls Tryd.prog 29 #[.string s] w fun e w' => ∃ v, e = .returned (.tuple #[v, .bool (validB s)]) ∧ w'.ownsRow w.heap.size 3 1 v (decL s).length ((decL s).map (Value.int .i64)) ∧ Below w.heap.size w w' := by
  obtain ⟨i0, hi, hz0, hz1, hz2⟩ := info_parts Tryd.infoInt
  go_enter Tryd.func29, Tryd.ntmps29
  go_wp2
  go_loopw [4, 5] (fun v i wr => ∃ (p f : Nat) (acc : List Int), p ≤ s.size ∧ i = .int .i64 p ∧ wr.ownsRow w.heap.size 3 1 v acc.length (acc.map (Value.int .i64)) ∧ Below w.heap.size w wr ∧ acc ++ runesFrom s f p = runes s ∧ s.size ≤ p + f ∧ vFrom s p = validB s) (fun _ i _ => s.size - (intOf i).toNat)
  case atStart => exact ⟨0, s.size, [], Nat.zero_le _, rfl, own_empty w _, (Below.refl _ _).alloc (Nat.le_refl _) _, rfl, by omega, vFrom_zero s⟩
  case round =>
    obtain ⟨p, f, acc, hp, rfl, hown, hbel, hacc, hf, hv⟩ := hrel
    have hlen : acc.length ≤ s.size := by have := congrArg List.length hacc; rw [List.length_append] at this; have := runes_le s; omega
    by_cases hlt : p < s.size
    · have hw := width_le s p hlt
      have hr := rune_le s p
      have HO := hidd hown
      by_cases hb : bad s p
      · have HV : Hid (validB s = false) := by show _ = _; rw [← hv]; exact vFrom_bad s p hlt hb
        have HL : Hid (decL s = []) := by show _ = _; rw [decL, if_neg (by rw [HV.out]; simp)]
        have HW := hidd (atW_bad s p hb)
        clear hown hacc hv
        go_wp2_with fail
        refine (at_any s p _ hs hlt).mono ?_
        rintro e w1 ⟨rfl, hb1⟩
        rw [HW.out]
        have hbel1 : Below w.heap.size w w1 := hbel.trans (hb1.mono hbel.size)
        clear hb1
        go_wp2
        go_ret2
        rw [HV.out, HL.out]
        refine ⟨_, rfl, own_mono (own_empty _ _) hbel1.size, hbel1.alloc hbel1.size _⟩
      · have HW := hidd (atW_good s p hb)
        have HC := hidd (atC_good s p hb)
        have Hst : Hid (acc ++ [((Utf8.decode s p).1 : Int)] ++ runesFrom s (f - 1) (p + (Utf8.decode s p).2) = runes s) := by
          show _ = _
          obtain ⟨g, rfl⟩ : ∃ g, f = g + 1 := ⟨f - 1, by omega⟩
          rw [runesFrom_step s g p hlt] at hacc
          rw [← hacc]
          simp
        have Hv2 : Hid (vFrom s (p + (Utf8.decode s p).2) = validB s) := by show _ = _; rw [vFrom_good s p hlt hb, hv]
        clear hown hacc hv
        go_wp2_with fail
        refine (at_any s p _ hs hlt).mono ?_
        rintro e w1 ⟨rfl, hb1⟩
        rw [HW.out, HC.out]
        have hbel1 : Below w.heap.size w w1 := hbel.trans (hb1.mono hbel.size)
        have HO1 := hidd (own_below HO.out hb1)
        clear hb1 HO
        generalize (Utf8.decode s p).1 = r at *
        generalize (Utf8.decode s p).2 = n at *
        go_wp2_with (at_builtin; refine wpList_append_own _ rfl _ _ 30 rfl w.heap.size 3 i0 (.int .i64 0) 1 8 Tryd.underlying30 hi hz0 hz1 hz2 rfl (by decide) _ _ _ rfl (HO1.out.alloc _) ⟨w1.heap.size, 0, none⟩ 1 1 [.int .i64 (r : Int)] rfl rfl ?c1 ?c2 ?c3 ?c4 ?c5 ?_)
        case c1 =>
          intro j u hj
          match j, hj with
          | 0, hj => simp at hj; subst hj; simp [Addr.add]
        case c2 => intro u hu; simp at hu; subst hu; rfl
        case c3 => unfold maxLen; omega
        case c4 => omega
        case c5 => have := hbel1.size; simp; omega
        intro v' w2 hown' hgrow hne
        have R : Hid (w2.ownsRow w.heap.size 3 1 v' (acc ++ [(r : Int)]).length ((acc ++ [(r : Int)]).map (Value.int .i64)) ∧ Below w.heap.size w w2) := by
          refine ⟨?_, (hbel1.alloc hbel1.size _).grown hgrow (by have := hbel1.size; simp; omega) (own_block HO1.out)⟩
          rw [List.length_append, List.map_append]
          exact hown'
        clear hown' hgrow HO1
        go_wp2
        go_roundw
        case rel => exact ⟨p + n, f - 1, acc ++ [(r : Int)], by omega, by go_num, R.out.1, R.out.2, Hst.out, by omega, Hv2.out⟩
        case measure => simp [intOf]; omega
    · have HV : Hid (validB s = true) := by show _ = _; rw [← hv]; exact vFrom_end s p hlt
      have HL : Hid (decL s = acc) := by show _ = _; rw [decL, if_pos HV.out, ← hacc, runesFrom_end s f p hlt, List.append_nil]
      clear hacc hv
      have HO := hidd hown
      clear hown
      go_wp2
      go_ret2
      rw [HV.out, HL.out]
      exact ⟨_, rfl, HO.out, hbel⟩
end Go.Proofs.YtmnfioghhdgciaaDoor

namespace Go.Proofs.YtmnfioghhdgciaaDoor
open Go Go.RowKit
set_option linter.unusedVariables false

set_option maxHeartbeats 1000000 in
theorem specDecode_any (s : ByteArray) (w : World) (hs : s.size ≤ 1048576) :
    Calls Tryd.prog 9 #[.string s] w fun e w' => ∃ v, e = .returned (.tuple #[v, .int .i64 (decCode s)]) ∧ w'.ownsRow w.heap.size 3 1 v (decList s).length ((decList s).map (Value.int .i64)) ∧ Below w.heap.size w w' := by
  by_cases hlong : 65536 < s.size
  · have HL : Hid (decList s = []) := by show _ = _; rw [decList, if_pos hlong]
    have HC : Hid (decCode s = 2) := by show _ = _; rw [decCode, if_pos hlong]
    have hlz : (65536 : Int) < (s.size : Int) := by omega
    go_enter Tryd.func9, Tryd.ntmps9
    go_wp2
    go_ret2
    rw [HL.out, HC.out]
    exact ⟨_, rfl, own_empty _ _, (Below.refl _ _).alloc (Nat.le_refl _) _⟩
  · have hlz : ¬ (65536 : Int) < (s.size : Int) := by omega
    by_cases hv : validB s = true
    · have HL : Hid (decList s = decL s) := by show _ = _; rw [decList, if_neg hlong]
      have HC : Hid (decCode s = 0) := by show _ = _; rw [decCode, if_neg hlong, if_pos hv]
      go_enter Tryd.func9, Tryd.ntmps9
      go_wp2_with fail
      refine (decode_any s _ hs).mono ?_
      rintro e w1 ⟨v, rfl, hown, hb1⟩
      have HO := hidd hown
      clear hown
      go_wp2
      go_ret2
      rw [HL.out, HC.out]
      exact ⟨_, rfl, HO.out, hb1⟩
    · have hv' : validB s = false := by simpa using hv
      have HL : Hid (decList s = []) := by show _ = _; rw [decList, if_neg hlong, decL, if_neg hv]
      have HC : Hid (decCode s = 3) := by show _ = _; rw [decCode, if_neg hlong, if_neg hv]
      clear hv
      go_enter Tryd.func9, Tryd.ntmps9
      go_wp2_with fail
      refine (decode_any s _ hs).mono ?_
      rintro e w1 ⟨v, rfl, hown, hb1⟩
      clear hown
      go_wp2
      go_ret2
      rw [HL.out, HC.out]
      exact ⟨_, rfl, own_mono (own_empty _ _) hb1.size, hb1.alloc hb1.size _⟩
end Go.Proofs.YtmnfioghhdgciaaDoor

namespace Go.Proofs.YtmnfioghhdgciaaDoor
open Go Go.RowKit
set_option linter.unusedVariables false

/-! Edits, plain: cut off EdS and EdT, over LeI's rows of ints. -/
end Go.Proofs.YtmnfioghhdgciaaDoor

namespace Go.Proofs.YtmnfioghhdgciaaDoor
open Go Go.RowKit
set_option linter.unusedVariables false

theorem drop_atK (zs : List Int) (i : Nat) (h : i < zs.length) : zs.drop i = zs.getD i 0 :: zs.drop (i + 1) := by
  rw [List.drop_eq_getElem_cons h]; simp [h]
set_option maxHeartbeats 4000000 in
set_option maxRecDepth 100000 in
theorem l05Parts_any (zs : List Int) (v : Value) (w : World) (hl : zs.length ≤ 65536) (hv : HoldI w v zs) :
    Calls Tryd.prog 10 #[v] w fun e w' => ∃ v', e = .returned v' ∧ w'.ownsRow w.heap.size 3 1 v' (partsL zs).length (zI (partsL zs)) ∧ Below w.heap.size w w' := by
  obtain ⟨i0, hi, hz0, hz1, hz2⟩ := info_parts Tryd.infoInt
  obtain ⟨ad, cv, rfl, had⟩ := hv
  have HA := hidd had
  clear had
  go_enter Tryd.func10, Tryd.ntmps10
  go_wp2
  go_loopw [3, 4] (fun ov iv wr => ∃ (i : Nat) (acc : List Int), i ≤ zs.length ∧ iv = .int .i64 (i : Int) ∧ wr.ownsRow w.heap.size 3 1 ov acc.length (zI acc) ∧ Below w.heap.size w wr ∧ acc ++ partsL (zs.drop i) = partsL zs ∧ acc.length ≤ i) (fun _ iv _ => zs.length - (intOf iv).toNat)
  case atStart => exact ⟨0, [], Nat.zero_le _, rfl, own_empty w 3, (Below.refl _ _).alloc (Nat.le_refl _) _, by simp, by simp⟩
  case round =>
    obtain ⟨i, acc, hin, rfl, hown, hbel, hacc, hal⟩ := hrel
    have HO := hidd hown
    have HB := hidd hbel
    have HAc := hidd hacc
    have hzw := hbel.size
    clear hown hbel hacc
    by_cases hlt : i < zs.length
    · have hltz : (i : Int) < (zs.length : Int) := by omega
      obtain ⟨g, off, rfl, hg, hc⟩ := HA.out.resolve_left (fun h => by rw [h] at hlt; simp at hlt)
      have c1 := (HB.out.cell (p := ⟨g, off + i, none⟩) hg).trans (hc i hlt)
      have Hdr := hidd (drop_atK zs i hlt)
      have Hc := hidd hc
      clear hc
      obtain ⟨x, hx⟩ : ∃ x, zs.getD i 0 = x := ⟨_, rfl⟩
      rw [hx] at c1 Hdr
      clear hx
      by_cases h42 : x = 42
      · have Hn : Hid (acc ++ [-2] ++ partsL (zs.drop (i + 1)) = partsL zs) := by
          show _ = _
          rw [← HAc.out, Hdr.out, partsL_cons (Or.inl (by omega)), mapP, if_pos h42]
          simp
        subst h42
        clear Hdr
        go_wp2_with (at_builtin; refine wpList_append_own _ rfl _ _ 30 rfl w.heap.size 3 i0 (.int .i64 0) 1 8 Tryd.underlying30 hi hz0 hz1 hz2 rfl (by decide) _ _ _ rfl (HO.out.alloc _) ⟨wr.heap.size, 0, none⟩ 1 1 [.int .i64 (-2)] rfl rfl ?c1a ?c2a ?c3a ?c4a ?c5a ?_)
        try case c1a =>
          intro j u hj
          match j, hj with
          | 0, hj => simp at hj; subst hj; simp [Addr.add]
        case c2a => first | rfl | (intro u hu; simp at hu; subst hu; rfl)
        case c3a => unfold maxLen; omega
        case c4a => omega
        case c5a => first | omega | (simp; omega)
        intro v' w2 hown' hgrow hne
        have R : Hid (w2.ownsRow w.heap.size 3 1 v' (acc ++ [-2]).length (zI (acc ++ [-2])) ∧ Below w.heap.size w w2) := by
          refine ⟨?_, (HB.out.alloc hzw _).grown hgrow (by simp; omega) (own_block HO.out)⟩
          rw [zI_snoc, List.length_append]
          exact hown'
        clear hown' hgrow HO HB
        go_wp2
        go_roundw
        case rel => exact ⟨i + 1, acc ++ [-2], by omega, by go_num, R.out.1, R.out.2, Hn.out, by simp; omega⟩
        case measure => simp [intOf]; omega
      have b42 : (x == 42) = false := beq_false_of_ne h42
      by_cases h63 : x = 63
      · have Hn : Hid (acc ++ [-1] ++ partsL (zs.drop (i + 1)) = partsL zs) := by
          show _ = _
          rw [← HAc.out, Hdr.out, partsL_cons (Or.inl (by omega)), mapP, if_neg h42, if_pos h63]
          simp
        subst h63
        clear Hdr b42
        go_wp2_with (at_builtin; refine wpList_append_own _ rfl _ _ 30 rfl w.heap.size 3 i0 (.int .i64 0) 1 8 Tryd.underlying30 hi hz0 hz1 hz2 rfl (by decide) _ _ _ rfl (HO.out.alloc _) ⟨wr.heap.size, 0, none⟩ 1 1 [.int .i64 (-1)] rfl rfl ?c1b ?c2b ?c3b ?c4b ?c5b ?_)
        try case c1b =>
          intro j u hj
          match j, hj with
          | 0, hj => simp at hj; subst hj; simp [Addr.add]
        case c2b => first | rfl | (intro u hu; simp at hu; subst hu; rfl)
        case c3b => unfold maxLen; omega
        case c4b => omega
        case c5b => first | omega | (simp; omega)
        intro v' w2 hown' hgrow hne
        have R : Hid (w2.ownsRow w.heap.size 3 1 v' (acc ++ [-1]).length (zI (acc ++ [-1])) ∧ Below w.heap.size w w2) := by
          refine ⟨?_, (HB.out.alloc hzw _).grown hgrow (by simp; omega) (own_block HO.out)⟩
          rw [zI_snoc, List.length_append]
          exact hown'
        clear hown' hgrow HO HB
        go_wp2
        go_roundw
        case rel => exact ⟨i + 1, acc ++ [-1], by omega, by go_num, R.out.1, R.out.2, Hn.out, by simp; omega⟩
        case measure => simp [intOf]; omega
      have b63 : (x == 63) = false := beq_false_of_ne h63
      by_cases h92 : x = 92 ∧ i + 1 < zs.length
      · obtain ⟨h92, hl2⟩ := h92
        have hl2z : (i : Int) + 1 < (zs.length : Int) := by omega
        have c2 := (HB.out.cell (p := ⟨g, off + (i + 1), none⟩) hg).trans (Hc.out (i + 1) hl2)
        have Hd2 := hidd (drop_atK zs (i + 1) hl2)
        obtain ⟨y, hy⟩ : ∃ y, zs.getD (i + 1) 0 = y := ⟨_, rfl⟩
        rw [hy] at c2 Hd2
        clear hy
        have Hn : Hid (acc ++ [y] ++ partsL (zs.drop (i + 2)) = partsL zs) := by
          show _ = _
          rw [← HAc.out, Hdr.out, h92, Hd2.out, partsL_esc]
          simp
        subst h92
        clear Hdr Hd2 b42 b63
        go_wp2_with (at_builtin; refine wpList_append_own _ rfl _ _ 30 rfl w.heap.size 3 i0 (.int .i64 0) 1 8 Tryd.underlying30 hi hz0 hz1 hz2 rfl (by decide) _ _ _ rfl (HO.out.alloc _) ⟨wr.heap.size, 0, none⟩ 1 1 [.int .i64 (y)] rfl rfl ?c1c ?c2c ?c3c ?c4c ?c5c ?_)
        try case c1c =>
          intro j u hj
          match j, hj with
          | 0, hj => simp at hj; subst hj; simp [Addr.add]
        case c2c => first | rfl | (intro u hu; simp at hu; subst hu; rfl)
        case c3c => unfold maxLen; omega
        case c4c => omega
        case c5c => first | omega | (simp; omega)
        intro v' w2 hown' hgrow hne
        have R : Hid (w2.ownsRow w.heap.size 3 1 v' (acc ++ [y]).length (zI (acc ++ [y])) ∧ Below w.heap.size w w2) := by
          refine ⟨?_, (HB.out.alloc hzw _).grown hgrow (by simp; omega) (own_block HO.out)⟩
          rw [zI_snoc, List.length_append]
          exact hown'
        clear hown' hgrow HO HB
        go_wp2
        go_roundw
        case rel => exact ⟨i + 2, acc ++ [y], by omega, by go_num, R.out.1, R.out.2, Hn.out, by simp; omega⟩
        case measure => simp [intOf]; omega
      have hmp : mapP x = x := by rw [mapP, if_neg h42, if_neg h63]
      by_cases h9 : x = 92
      · have hl2 : ¬ (i : Int) + 1 < (zs.length : Int) := by omega
        have hdn : zs.drop (i + 1) = [] := List.drop_eq_nil_iff.2 (by omega)
        have Hn : Hid (acc ++ [92] ++ partsL (zs.drop (i + 1)) = partsL zs) := by
          show _ = _
          rw [← HAc.out, Hdr.out, h9, partsL_cons (Or.inr hdn), (show mapP 92 = 92 from by decide)]
          simp
        subst h9
        clear Hdr hdn hmp h92 b42 b63
        go_wp2_with (at_builtin; refine wpList_append_own _ rfl _ _ 30 rfl w.heap.size 3 i0 (.int .i64 0) 1 8 Tryd.underlying30 hi hz0 hz1 hz2 rfl (by decide) _ _ _ rfl (HO.out.alloc _) ⟨wr.heap.size, 0, none⟩ 1 1 [.int .i64 (92)] rfl rfl ?c1d ?c2d ?c3d ?c4d ?c5d ?_)
        try case c1d =>
          intro j u hj
          match j, hj with
          | 0, hj => simp at hj; subst hj; simp [Addr.add]
        case c2d => first | rfl | (intro u hu; simp at hu; subst hu; rfl)
        case c3d => unfold maxLen; omega
        case c4d => omega
        case c5d => first | omega | (simp; omega)
        intro v' w2 hown' hgrow hne
        have R : Hid (w2.ownsRow w.heap.size 3 1 v' (acc ++ [92]).length (zI (acc ++ [92])) ∧ Below w.heap.size w w2) := by
          refine ⟨?_, (HB.out.alloc hzw _).grown hgrow (by simp; omega) (own_block HO.out)⟩
          rw [zI_snoc, List.length_append]
          exact hown'
        clear hown' hgrow HO HB
        go_wp2
        go_roundw
        case rel => exact ⟨i + 1, acc ++ [92], by omega, by go_num, R.out.1, R.out.2, Hn.out, by simp; omega⟩
        case measure => simp [intOf]; omega
      have b92 : (x == 92) = false := beq_false_of_ne h9
      have Hn : Hid (acc ++ [x] ++ partsL (zs.drop (i + 1)) = partsL zs) := by
        show _ = _
        rw [← HAc.out, Hdr.out, partsL_cons (Or.inl h9), hmp]
        simp
      clear Hdr hmp h92
      go_wp2_with (at_builtin; refine wpList_append_own _ rfl _ _ 30 rfl w.heap.size 3 i0 (.int .i64 0) 1 8 Tryd.underlying30 hi hz0 hz1 hz2 rfl (by decide) _ _ _ rfl (HO.out.alloc _) ⟨wr.heap.size, 0, none⟩ 1 1 [.int .i64 (x)] rfl rfl ?c1e ?c2e ?c3e ?c4e ?c5e ?_)
      try case c1e =>
        intro j u hj
        match j, hj with
        | 0, hj => simp at hj; subst hj; simp [Addr.add]
      case c2e => first | rfl | (intro u hu; simp at hu; subst hu; rfl)
      case c3e => unfold maxLen; omega
      case c4e => omega
      case c5e => first | omega | (simp; omega)
      intro v' w2 hown' hgrow hne
      have R : Hid (w2.ownsRow w.heap.size 3 1 v' (acc ++ [x]).length (zI (acc ++ [x])) ∧ Below w.heap.size w w2) := by
        refine ⟨?_, (HB.out.alloc hzw _).grown hgrow (by simp; omega) (own_block HO.out)⟩
        rw [zI_snoc, List.length_append]
        exact hown'
      clear hown' hgrow HO HB
      go_wp2
      go_roundw
      case rel => exact ⟨i + 1, acc ++ [x], by omega, by go_num, R.out.1, R.out.2, Hn.out, by simp; omega⟩
      case measure => simp [intOf]; omega
    · have hltz : ¬ (i : Int) < (zs.length : Int) := by omega
      have HE : Hid (partsL zs = acc) := by show _ = _; rw [← HAc.out, List.drop_eq_nil_iff.2 (by omega), partsL_nil, List.append_nil]
      go_wp2
      go_ret
      rw [HE.out]
      exact ⟨_, rfl, HO.out, HB.out⟩
end Go.Proofs.YtmnfioghhdgciaaDoor
