import Derived.Test.YtefhmbnhhkgifaaPkA
import Derived.Test.YtefhmbnhhkgifaaWithin
namespace Go.Proofs.Ytefhmbnhhkgifaa
open Go Go.RowKit
set_option linter.unusedVariables false

def putOK (z : Int) : Bool := decide (0 ≤ z ∧ z ≤ 4611686018427387903)
def putB (z : Int) : List UInt8 := if putOK z then putL z.toNat else []
def putC (z : Int) : Int := if putOK z then 0 else 12
theorem putB_length (z : Int) : (putB z).length ≤ 9 := by
  unfold putB
  split
  · rename_i h; simp [putOK] at h; exact putL_length9 _ (by omega)
  · simp

set_option maxHeartbeats 1000000 in
set_option maxRecDepth 100000 in
theorem specPut_any (x : Nat) : ∀ (w : World), x < 4611686018427387904 →
    Calls Try.prog 28 #[.int .i64 (x : Int)] w fun e w' => ∃ g cap, e = .returned (.slice (some ⟨g, 0, none⟩) (putL x).length cap) ∧ w'.ownsRow w.heap.size 5 1 (.slice (some ⟨g, 0, none⟩) (putL x).length cap) (putL x).length (Lib.byteCells (putL x)) ∧ Below w.heap.size w w' := by
  obtain ⟨i0, hi, hz0, hz1, hz2⟩ := info_parts Try.infoByte
  induction x using Nat.strongRecOn with
  | _ x ih =>
    intro w hx
    by_cases hlt : x < 128
    · have hlz : (x : Int) < 128 := by omega
      have Hp := hidd (putL_small x hlt)
      clear ih
      go_enter Try.func28, Try.ntmps28
      go_wp2
      go_ret
      refine ⟨w.heap.size, 1, ?_, ?_, (Below.refl _ _).alloc (Nat.le_refl _) _⟩
      · rw [Hp.out]; rfl
      · rw [Hp.out, byte_cell1 x (by omega)]
        have := World.ownsRow_lit (base := w.heap.size) (e := 5) (size := 1) w #[.int .u8 (x : Int)] 1 (Nat.le_refl _) (by unfold maxLen; omega) (by simp)
        simpa using this
    · have hlz : ¬ (x : Int) < 128 := by omega
      have IH := hidd (ih (x / 128) (by omega))
      clear ih
      have Hp := hidd (putL_big x hlt)
      go_enter Try.func28, Try.ntmps28
      go_wp2_with fail
      refine (IH.out _ (by omega)).mono ?_
      rintro e w1 ⟨g, cap, rfl, ho, hbl⟩
      have hL : (w.alloc (.cells #[Value.int .u8 (128 + (x : Int) % 128)] 5)).ownsRow w.heap.size 5 1 (.slice (some ⟨w.heap.size, 0, none⟩) 1 1) 1 [.int .u8 (128 + (x : Int) % 128)] := by
        have := World.ownsRow_lit (base := w.heap.size) (e := 5) (size := 1) w #[.int .u8 (128 + (x : Int) % 128)] 1 (Nat.le_refl _) (by unfold maxLen; omega) (by simp)
        simpa using this
      have HL := hidd (own_below hL hbl)
      have HO := hidd ho
      have HB : Hid (Below w.heap.size w w1) := ((Below.refl _ _).alloc (Nat.le_refl _) _).trans (hbl.mono (by simp))
      have Hc : Hid (∀ j u, (Lib.byteCells (putL (x / 128)))[j]? = some u → w1.cell? ((⟨g, 0, none⟩ : Addr).add j) = some u) := by
        intro j u hj
        rw [add_head, ho.cellAt j (by have := (List.getElem?_eq_some_iff.1 hj).1; rw [Lib.byteCells_length] at this; omega)]
        exact hj
      have hp9 := putL_length9 (x / 128) (by omega)
      have hsz := HB.out.size
      clear hL ho hbl
      go_wp2_with (at_builtin; refine wpList_append_own_at _ rfl _ _ 28 rfl w.heap.size 5 i0 (.int .u8 0) 1 1 Try.underlying28 hi hz0 hz1 hz2 rfl (by decide) _ _ _ rfl HL.out ⟨g, 0, none⟩ (putL (x / 128)).length cap (Lib.byteCells (putL (x / 128))) rfl (by rw [Lib.byteCells_length, Nat.mul_one]) Hc.out (Lib.byteCells_one _) ?c3 ?c4 ?c5 ?_)
      case c3 => unfold maxLen; omega
      case c4 => omega
      case c5 => exact hsz
      intro v' w5 hown' hgrow hne hat
      have R : Hid (w5.ownsRow w.heap.size 5 1 v' (putL x).length (Lib.byteCells (putL x)) ∧ Below w.heap.size w w5) := by
        refine ⟨?_, HB.out.grown hgrow hsz (own_block HL.out)⟩
        have e1 : (putL x).length = 1 + (putL (x / 128)).length := by rw [Hp.out, List.length_cons]; omega
        have e2 : Lib.byteCells (putL x) = [.int .u8 (128 + (x : Int) % 128)] ++ Lib.byteCells (putL (x / 128)) := by
          rw [Hp.out]
          show Lib.byteCells ([UInt8.ofNat (128 + x % 128)] ++ putL (x / 128)) = _
          rw [Lib.byteCells_append, byte_cell1 _ (by omega)]
          simp
        rw [e1, e2]; exact hown'
      clear hown' hgrow hat HL HO HB Hc
      have hpos := putL_pos x
      rcases own_cases R.out.1 with ⟨rfl, h0⟩ | ⟨g2, cap2, rfl, _, _⟩
      · omega
      · go_wp2
        go_ret
        exact ⟨g2, cap2, rfl, R.out.1, R.out.2⟩
end Go.Proofs.Ytefhmbnhhkgifaa
