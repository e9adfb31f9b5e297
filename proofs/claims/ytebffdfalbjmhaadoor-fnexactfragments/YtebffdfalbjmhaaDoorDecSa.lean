import Derived.Test.YtebffdfalbjmhaaDoorAt
import Derived.Test.YtebffdfalbjmhaaDoorRunes
import Derived.Test.YtebffdfalbjmhaaDoorOwn
namespace Go.Proofs.YtebffdfalbjmhaaDoor
open Go Go.RowKit
set_option linter.unusedVariables false
theorem Tryd.infoInt : (Tryd.prog.info? 3).map (fun i => (i.zero, i.size, i.bytes)) = some (some (.int .i64 0), 1, 8) := by kernel_rfl

set_option maxHeartbeats 1000000 in
set_option maxRecDepth 100000 in
theorem decode_any (s : ByteArray) (w : World) (hs : s.size ≤ 1048576) :
    Calls Tryd.prog 18 #[.string s] w fun e w' => ∃ v, e = .returned (.tuple #[v, .bool (validB s)]) ∧ w'.ownsRow w.heap.size 3 1 v (decL s).length ((decL s).map (Value.int .i64)) ∧ Below w.heap.size w w' := by
  obtain ⟨i0, hi, hz0, hz1, hz2⟩ := info_parts Tryd.infoInt
  go_enter Tryd.func18, Tryd.ntmps18
  go_wp2
  go_loopw [4, 5] (fun v i wr => ∃ (p f : Nat) (acc : List Int), p ≤ s.size ∧ i = .int .i64 p ∧ wr.ownsRow w.heap.size 3 1 v acc.length (acc.map (Value.int .i64)) ∧ Below w.heap.size w wr ∧ acc ++ runesFrom s f p = runes s ∧ s.size ≤ p + f ∧ vFrom s p = validB s) (fun _ i _ => s.size - (intOf i).toNat)
  case atStart => exact ⟨0, s.size, [], Nat.zero_le _, rfl, own_empty w _, (Below.refl _ _).alloc (Nat.le_refl _) _, rfl, by omega, vFrom_zero s⟩
  case round =>
    obtain ⟨p, f, acc, hp, rfl, hown, hbel, hacc, hf, hv⟩ := hrel
    have hlen : acc.length ≤ s.size := by have := congrArg List.length hacc; rw [List.length_append] at this; have := runes_le s; omega
    by_cases hlt : p < s.size
    · have hw := width_le s p hlt
      have hr := rune_le s p
      have HO := hidd hown
      by_cases hb : bad s p
      · have HV : Hid (validB s = false) := by show _ = _; rw [← hv]; exact vFrom_bad s p hlt hb
        have HL : Hid (decL s = []) := by show _ = _; rw [decL, if_neg (by rw [HV.out]; simp)]
        have HW := hidd (atW_bad s p hb)
        clear hown hacc hv
        go_wp2_with fail
        refine (at_any s p _ hs hlt).mono ?_
        rintro e w1 ⟨rfl, hb1⟩
        rw [HW.out]
        have hbel1 : Below w.heap.size w w1 := hbel.trans (hb1.mono hbel.size)
        clear hb1
        go_wp2
        go_ret2
        rw [HV.out, HL.out]
        refine ⟨_, rfl, own_mono (own_empty _ _) hbel1.size, hbel1.alloc hbel1.size _⟩
      · have HW := hidd (atW_good s p hb)
        have HC := hidd (atC_good s p hb)
        have Hst : Hid (acc ++ [((Utf8.decode s p).1 : Int)] ++ runesFrom s (f - 1) (p + (Utf8.decode s p).2) = runes s) := by
          show _ = _
          obtain ⟨g, rfl⟩ : ∃ g, f = g + 1 := ⟨f - 1, by omega⟩
          rw [runesFrom_step s g p hlt] at hacc
          rw [← hacc]
          simp
        have Hv2 : Hid (vFrom s (p + (Utf8.decode s p).2) = validB s) := by show _ = _; rw [vFrom_good s p hlt hb, hv]
        clear hown hacc hv
        go_wp2_with fail
        refine (at_any s p _ hs hlt).mono ?_
        rintro e w1 ⟨rfl, hb1⟩
        rw [HW.out, HC.out]
        have hbel1 : Below w.heap.size w w1 := hbel.trans (hb1.mono hbel.size)
        have HO1 := hidd (own_below HO.out hb1)
        clear hb1 HO
        generalize (Utf8.decode s p).1 = r at *
        generalize (Utf8.decode s p).2 = n at *
        go_wp2_with (at_builtin; refine wpList_append_own _ rfl _ _ 28 rfl w.heap.size 3 i0 (.int .i64 0) 1 8 Tryd.underlying28 hi hz0 hz1 hz2 rfl (by decide) _ _ _ rfl (HO1.out.alloc _) ⟨w1.heap.size, 0, none⟩ 1 1 [.int .i64 (r : Int)] rfl rfl ?c1 ?c2 ?c3 ?c4 ?c5 ?_)
        case c1 =>
          intro j u hj
          match j, hj with
          | 0, hj => simp at hj; subst hj; simp [Addr.add]
        case c2 => intro u hu; simp at hu; subst hu; rfl
        case c3 => unfold maxLen; omega
        case c4 => omega
        case c5 => have := hbel1.size; simp; omega
        intro v' w2 hown' hgrow hne
        have R : Hid (w2.ownsRow w.heap.size 3 1 v' (acc ++ [(r : Int)]).length ((acc ++ [(r : Int)]).map (Value.int .i64)) ∧ Below w.heap.size w w2) := by
          refine ⟨?_, (hbel1.alloc hbel1.size _).grown hgrow (by have := hbel1.size; simp; omega) (own_block HO1.out)⟩
          rw [List.length_append, List.map_append]
          exact hown'
        clear hown' hgrow HO1
        go_wp2
        go_roundw
        case rel => exact ⟨p + n, f - 1, acc ++ [(r : Int)], by omega, by go_num, R.out.1, R.out.2, Hst.out, by omega, Hv2.out⟩
        case measure => simp [intOf]; omega
    · have HV : Hid (validB s = true) := by show _ = _; rw [← hv]; exact vFrom_end s p hlt
      have HL : Hid (decL s = acc) := by show _ = _; rw [decL, if_pos HV.out, ← hacc, runesFrom_end s f p hlt, List.append_nil]
      clear hacc hv
      have HO := hidd hown
      clear hown
      go_wp2
      go_ret2
      rw [HV.out, HL.out]
      exact ⟨_, rfl, HO.out, hbel⟩

end Go.Proofs.YtebffdfalbjmhaaDoor
