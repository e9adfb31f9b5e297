import Derived.Test.YtpdiaddgialanaaGreatDoorFwE
import Derived.Lib.OthersKept
namespace Go.Proofs.YtpdiaddgialanaaGreatDoor
open Go Go.RowKit
set_option linter.unusedVariables false
set_option linter.unusedSimpArgs false
set_option maxRecDepth 100000

/-! No sign in a short text of the letters that the law draws. -/
/-- The letters. -/
def wdR : List Int := [97, 122, 81, 55, 233, 95]
theorem iterPos_ofW {w : World} {k p : Nat} {s : ByteArray} (h : w.heap[k]? = some (.stringIter s p)) : w.iterPos k = p := by simp [World.iterPos, h]
theorem sgRune_any (r : Int) (hr : r ∈ wdR) (w : World) : Calls Tryz.prog 106 #[.string sgB, .int .i32 r] w fun e w' => e = .returned (.int .i64 (-1)) ∧ Below w.heap.size w w' := by
  by_cases h : r = 233
  · subst h; exact sgRune_233 w
  · have h2 : 0 ≤ r ∧ r < 128 ∧ Lib.indexByte sgB.data.toList r.toNat.toUInt8 = -1 := by
      simp only [wdR, List.mem_cons, List.not_mem_nil, or_false] at hr
      rcases hr with rfl | rfl | rfl | rfl | rfl | rfl
      · exact ⟨by omega, by omega, rfl⟩
      · exact ⟨by omega, by omega, rfl⟩
      · exact ⟨by omega, by omega, rfl⟩
      · exact ⟨by omega, by omega, rfl⟩
      · exact absurd rfl h
      · exact ⟨by omega, by omega, rfl⟩
    refine (Tryz.strings_IndexRune_ascii sgB r w h2.1 h2.2.1).mono ?_
    rintro e w' ⟨rfl, rfl⟩
    exact ⟨by rw [h2.2.2], Below.refl _ _⟩
set_option maxHeartbeats 4000000 in
theorem sgAny_short (s : ByteArray) (w : World) (h8 : s.size ≤ 8) (hr : ∀ r ∈ runes s, r ∈ wdR) :
    Calls Tryz.prog 98 #[.string s, .string sgB] w fun e w' => e = .returned (.int .i64 (-1)) ∧ Below w.heap.size w w' := by
  have HR := hidd hr
  have h8z : decide ((8 : Int) < (s.size : Int)) = false := decide_eq_false (by omega)
  have hit0 := hidd (World.iter_heap w s 0)
  have HB1 : Hid (Below w.heap.size w (w.iter s 0)) := (Below.refl _ _).alloc (Nat.le_refl _) _
  have HRn : Hid (∀ r ∈ wdR, ∀ V, Calls Tryz.prog 106 #[.string sgB, .int .i32 r] V fun e w' => e = .returned (.int .i64 (-1)) ∧ Below V.heap.size V w') := fun r h V => sgRune_any r h V
  clear hr
  have hsb : sgB = ⟨#[32, 40, 41, 34, 58, 94, 126, 91, 93, 43, 45, 42, 63, 64, 92]⟩ := rfl
  rw [hsb] at *
  clear hsb
  go_enter Tryz.func98, Tryz.ntmps98
  go_wp2_with fail
  refine (Tryz.strings_shouldUseASCIISet _ _).mono ?_
  rintro e w1 ⟨rfl, hw⟩
  obtain rfl := hw.symm
  rw [h8z]
  go_wp2_with fail
  generalize w.iter s 0 = W2 at *
  obtain ⟨B, hB⟩ : ∃ B, w.heap.size = B := ⟨_, rfl⟩
  rw [hB] at hit0
  simp only [hB]
  have hBge := Nat.le_of_eq hB
  go_loopw [9, 10] (fun _ _ wr => ∃ (p f : Nat), wr.heap[B]? = some (.stringIter s p) ∧ Below w.heap.size w wr ∧ (∀ r ∈ runesFrom s f p, r ∈ wdR) ∧ s.size ≤ p + f) (fun _ _ wr => s.size - wr.iterPos B)
  case atStart => exact ⟨0, s.size, hit0.out, HB1.out, HR.out, by omega⟩
  case round =>
    obtain ⟨p, f, hit, hbel, hacc, hf⟩ := hrel
    clear hit0 HB1
    by_cases hlt : p < s.size
    · have hnx : ∀ ty, (Instr.next (.pointer (some ⟨B, 0, none⟩)) true ty).run Tryz.prog wr = _ := fun ty => Lib.run_next_any_at wr B s p ty hit hlt
      have hw := width_le s p hlt
      have hr := rune_le s p
      have hit2 := Lib.iterAt_heap wr B s p (p + (Utf8.decode s p).2) hit
      have hbel2 := Lib.below_iterAt hbel (k := B) hBge s (p + (Utf8.decode s p).2)
      have Hst : Hid (((Utf8.decode s p).1 : Int) ∈ wdR ∧ ∀ r ∈ runesFrom s (f - 1) (p + (Utf8.decode s p).2), r ∈ wdR) := by
        obtain ⟨g, rfl⟩ : ∃ g, f = g + 1 := ⟨f - 1, by omega⟩
        rw [runesFrom_step s g p hlt] at hacc
        exact ⟨hacc _ (List.mem_cons_self ..), fun r h => hacc r (List.mem_cons_of_mem _ h)⟩
      have Hpos := hidd (iterPos_ofW hit)
      have Hit2 := hidd hit2
      have HB2 := hidd hbel2
      clear hacc hit2 hbel2 hbel
      generalize (Utf8.decode s p).1 = r at *
      generalize (Utf8.decode s p).2 = n at *
      generalize wr.iterAt B s (p + n) = wi at *
      go_wp2_with fail
      refine (HRn.out (r : Int) Hst.out.1 _).mono ?_
      rintro e w5 ⟨rfl, hb5⟩
      have HB5 := hidd (HB2.out.trans (hb5.mono HB2.out.size))
      have Hit5 : Hid (w5.heap[B]? = some (.stringIter s (p + n))) := by
        show _ = _
        rw [hb5.block B (Array.getElem?_eq_some_iff.1 Hit2.out).1]
        exact Hit2.out
      clear hb5
      go_wp2_with fail
      go_roundw
      case rel => exact ⟨p + n, f - 1, Hit5.out, HB5.out, Hst.out.2, by omega⟩
      case measure =>
        rw [iterPos_ofW Hit5.out, Hpos.out]
        omega
    · have hnx : ∀ ty, (Instr.next (.pointer (some ⟨B, 0, none⟩)) true ty).run Tryz.prog wr = _ := fun ty => Lib.run_next_end_at wr B s p ty hit (by omega)
      have HBb := hidd hbel
      clear hacc hit hbel
      go_wp2_with fail
      go_ret
      exact ⟨rfl, HBb.out⟩
end Go.Proofs.YtpdiaddgialanaaGreatDoor
