import Derived.Test.YtefhmbnhhkgifaaDoorReadLogJ04
import Derived.Test.YtefhmbnhhkgifaaDoorReadLogJ02
import Derived.Test.YtefhmbnhhkgifaaDoorReadLogJ01
namespace Go.Proofs.YtefhmbnhhkgifaaDoor
open Go Go.RowKit
set_option linter.unusedVariables false
set_option linter.unusedSimpArgs false
set_option maxRecDepth 100000

/-- Bytes taken off the front of a reader. -/
def TakeG (ty : TypeId) (w0 W : World) (B : Nat) (bs : List UInt8) (sh : Bool) (n : Nat) (e : Ending) (w' : World) : Prop := ∃ a c, e = .returned (.slice a n c) ∧ (n = 0 ∨ ∃ b off, a = some ⟨b, off, none⟩ ∧ n ≤ c ∧ b < w0.heap.size ∧ BytesAt w0 b off (bs.take n)) ∧ RdrG ty w0 w' B (bs.drop n) sh ∧ RdFr B W w'
set_option maxHeartbeats 1000000 in
theorem takeG_some {ty : TypeId} {w0 W : World} {B n : Nat} {bs : List UInt8} {sh : Bool} (hn : bs.length ≤ 1048576) (h : RdrG ty w0 W B bs sh) (hle : n ≤ bs.length) :
    Calls Tryd.prog 22 #[.pointer (some ⟨B, 0, none⟩), .int .i64 (n : Int)] W (TakeG ty w0 W B bs sh n) := by
  obtain ⟨v, hb, hv⟩ := h.box
  have x0 := blkc hb 0
  have f0 := blkf hb 0
  rcases hv with ⟨rfl, a, c, rfl⟩ | ⟨b, off, c, rfl, hc, hlt, hB⟩
  · obtain rfl : n = 0 := by simpa using hle
    have HP : Hid (∀ a c, RdrG ty w0 (W.setCell ⟨B, 0, none⟩ (.slice a 0 c)) B [] sh ∧ RdFr B W (W.setCell ⟨B, 0, none⟩ (.slice a 0 c))) := fun a c => ⟨⟨h.old.setCell (p := ⟨B, 0, none⟩) h.new _, h.new, .slice a 0 c, (blk_setk hb 0 _).trans (by simp), Or.inl ⟨rfl, a, c, rfl⟩⟩, RdFr.set B 0 _ W⟩
    have hnz : ¬ ((0 : Nat) : Int) > (([] : List UInt8).length : Int) := by simp
    clear h hb
    go_enter Tryd.func22, Tryd.ntmps22
    go_wp2_with fail
    all_goals
      go_ret
      exact ⟨_, _, rfl, Or.inl rfl, HP.out _ _⟩
  · have hnz : ¬ (n : Int) > (bs.length : Int) := by omega
    have hnz2 : (n : Int) ≤ (bs.length : Int) := by omega
    have HP := hidd (h.cut hb hc hlt hB n (bs.length - n) (by omega))
    have HT : Hid (BytesAt w0 b off (bs.take n)) := fun t ht => by
      rw [List.length_take] at ht
      have := hB t (by omega)
      rw [this]
      simp [List.getD_eq_getElem?_getD, show t < n by omega]
    have HO := hidd h.old
    have hnew := h.new
    clear h hb hB
    go_enter Tryd.func22, Tryd.ntmps22
    go_wp2_with fail
    all_goals
      go_ret
      refine ⟨_, _, rfl, ?_, HP.out _ _ (by first | exact Or.inr ⟨rfl, rfl⟩ | (left; omega))⟩
      exact Or.inr ⟨b, off, rfl, by omega, hlt, HT.out⟩
set_option maxHeartbeats 1000000 in
theorem takeG_none {ty : TypeId} {w0 W : World} {B n : Nat} {bs : List UInt8} {sh : Bool} (hn : bs.length ≤ 1048576) (hn2 : n ≤ 1048576) (h : RdrG ty w0 W B bs sh) (hle : ¬ n ≤ bs.length) :
    Calls Tryd.prog 22 #[.pointer (some ⟨B, 0, none⟩), .int .i64 (n : Int)] W fun e w' => e = .returned (.slice none 0 0) ∧ RdrG ty w0 w' B [] true ∧ RdFr B W w' := by
  obtain ⟨v, hb, hv⟩ := h.box
  obtain ⟨a, c, rfl⟩ : ∃ a c, v = .slice a bs.length c := by
    rcases hv with ⟨rfl, a, c, e⟩ | ⟨b, off, c, e, _⟩
    · exact ⟨a, c, e⟩
    · exact ⟨_, c, e⟩
  have x0 := blkc hb 0
  have hnz : (n : Int) > (bs.length : Int) := by omega
  have HH := hidd h
  clear h hb hv
  go_enter Tryd.func22, Tryd.ntmps22
  go_wp2_with fail
  refine (stop_any HH.out).mono ?_
  rintro e w2 ⟨rfl, h2, h3⟩
  have HP := hidd (And.intro h2 h3)
  clear h2 h3
  go_wp2_with fail
  go_ret
  exact ⟨rfl, HP.out⟩
theorem RdrG.drew {ty : TypeId} {w0 W : World} {B : Nat} {bs : List UInt8} {sh : Bool} (h : RdrG ty w0 W B bs sh) : RdrG ty w0 W.drew B bs sh := h.below (below_drewN (Below.refl _ _) 1)
set_option maxHeartbeats 1000000 in
theorem next_none {ty : TypeId} {w0 W : World} {B : Nat} {sh : Bool} (h : RdrG ty w0 W B [] sh) :
    Calls Tryd.prog 42 #[.pointer (some ⟨B, 0, none⟩)] W fun e w' => e = .returned (.int .i64 0) ∧ RdrG ty w0 w' B [] true ∧ RdFr B W w' := by
  obtain ⟨v, hb, hv⟩ := h.box
  obtain ⟨a, c, rfl⟩ : ∃ a c, v = .slice a 0 c := by
    rcases hv with ⟨_, a, c, e⟩ | ⟨b, off, c, e, _⟩
    · exact ⟨a, c, e⟩
    · exact ⟨_, c, e⟩
  have x0 := blkc hb 0
  have HH := hidd h
  clear h hb hv
  go_enter Tryd.func42, Tryd.ntmps42
  go_wp2_with fail
  refine (stop_any HH.out).mono ?_
  rintro e w2 ⟨rfl, h2, h3⟩
  have HP := hidd (And.intro h2 h3)
  clear h2 h3
  go_wp2_with fail
  go_ret
  exact ⟨rfl, HP.out⟩
set_option maxHeartbeats 1000000 in
theorem next_some {ty : TypeId} {w0 W : World} {B : Nat} {x : UInt8} {q : List UInt8} {sh : Bool} (hn : q.length ≤ 1048576) (h : RdrG ty w0 W B (x :: q) sh) :
    Calls Tryd.prog 42 #[.pointer (some ⟨B, 0, none⟩)] W fun e w' => e = .returned (.int .i64 (x.toNat : Int)) ∧ RdrG ty w0 w' B q sh ∧ RdFr B W w' := by
  obtain ⟨v, hb, hv⟩ := h.box
  obtain ⟨b, off, c, rfl, hc, hlt, hB⟩ := hv.resolve_left (fun h => by simp at h)
  have HP := hidd (h.cut hb hc hlt hB 1 q.length (by simp; omega))
  have hx8 := UInt8.toNat_lt x
  have x0 := blkc hb 0
  have f0 := blkf hb 0
  have y0 : W.cell? ⟨b, off, none⟩ = some (.int .u8 (x.toNat : Int)) := by have := hB.old h.old hlt 0 (by simp); simpa using this
  have hL : (x :: q).length = q.length + 1 := rfl
  rw [hL] at hc x0
  have hnz : ¬ ((q.length + 1 : Nat) : Int) = 0 := by omega
  clear h hb hB hv hL
  obtain ⟨n, hqn⟩ : ∃ n, q.length = n := ⟨_, rfl⟩
  rw [hqn] at hn hc x0 HP hnz
  clear hqn
  go_enter Tryd.func42, Tryd.ntmps42
  go_wp2_with fail
  all_goals
    go_ret
    exact ⟨rfl, HP.out _ _ (by first | exact Or.inr ⟨rfl, rfl⟩ | (left; omega))⟩
end Go.Proofs.YtefhmbnhhkgifaaDoor

namespace Go.Proofs.YtefhmbnhhkgifaaDoor
open Go Go.RowKit
set_option linter.unusedVariables false

def putOK (z : Int) : Bool := decide (0 ≤ z ∧ z ≤ 4611686018427387903)
def putB (z : Int) : List UInt8 := if putOK z then putL z.toNat else []
def putC (z : Int) : Int := if putOK z then 0 else 12
theorem putB_length (z : Int) : (putB z).length ≤ 9 := by
  unfold putB
  split
  · rename_i h; simp [putOK] at h; exact putL_length9 _ (by omega)
  · simp

set_option maxHeartbeats 1000000 in
set_option maxRecDepth 100000 in
theorem specPut_any (x : Nat) : ∀ (w : World), x < 4611686018427387904 →
    Calls Tryd.prog 35 #[.int .i64 (x : Int)] w fun e w' => ∃ g cap, e = .returned (.slice (some ⟨g, 0, none⟩) (putL x).length cap) ∧ w'.ownsRow w.heap.size 5 1 (.slice (some ⟨g, 0, none⟩) (putL x).length cap) (putL x).length (Lib.byteCells (putL x)) ∧ Below w.heap.size w w' := by
  obtain ⟨i0, hi, hz0, hz1, hz2⟩ := info_parts Tryd.infoByte
  induction x using Nat.strongRecOn with
  | _ x ih =>
    intro w hx
    by_cases hlt : x < 128
    · have hlz : (x : Int) < 128 := by omega
      have Hp := hidd (putL_small x hlt)
      clear ih
      go_enter Tryd.func35, Tryd.ntmps35
      go_wp2
      go_ret
      refine ⟨w.heap.size, 1, ?_, ?_, (Below.refl _ _).alloc (Nat.le_refl _) _⟩
      · rw [Hp.out]; rfl
      · rw [Hp.out, byte_cell1 x (by omega)]
        have := World.ownsRow_lit (base := w.heap.size) (e := 5) (size := 1) w #[.int .u8 (x : Int)] 1 (Nat.le_refl _) (by unfold maxLen; omega) (by simp)
        simpa using this
    · have hlz : ¬ (x : Int) < 128 := by omega
      have IH := hidd (ih (x / 128) (by omega))
      clear ih
      have Hp := hidd (putL_big x hlt)
      go_enter Tryd.func35, Tryd.ntmps35
      go_wp2_with fail
      refine (IH.out _ (by omega)).mono ?_
      rintro e w1 ⟨g, cap, rfl, ho, hbl⟩
      have hL : (w.alloc (.cells #[Value.int .u8 (128 + (x : Int) % 128)] 5)).ownsRow w.heap.size 5 1 (.slice (some ⟨w.heap.size, 0, none⟩) 1 1) 1 [.int .u8 (128 + (x : Int) % 128)] := by
        have := World.ownsRow_lit (base := w.heap.size) (e := 5) (size := 1) w #[.int .u8 (128 + (x : Int) % 128)] 1 (Nat.le_refl _) (by unfold maxLen; omega) (by simp)
        simpa using this
      have HL := hidd (own_below hL hbl)
      have HO := hidd ho
      have HB : Hid (Below w.heap.size w w1) := ((Below.refl _ _).alloc (Nat.le_refl _) _).trans (hbl.mono (by simp))
      have Hc : Hid (∀ j u, (Lib.byteCells (putL (x / 128)))[j]? = some u → w1.cell? ((⟨g, 0, none⟩ : Addr).add j) = some u) := by
        intro j u hj
        rw [add_head, ho.cellAt j (by have := (List.getElem?_eq_some_iff.1 hj).1; rw [Lib.byteCells_length] at this; omega)]
        exact hj
      have hp9 := putL_length9 (x / 128) (by omega)
      have hsz := HB.out.size
      clear hL ho hbl
      go_wp2_with (at_builtin; refine wpList_append_own_at _ rfl _ _ 22 rfl w.heap.size 5 i0 (.int .u8 0) 1 1 Tryd.underlying22 hi hz0 hz1 hz2 rfl (by decide) _ _ _ rfl HL.out ⟨g, 0, none⟩ (putL (x / 128)).length cap (Lib.byteCells (putL (x / 128))) rfl (by rw [Lib.byteCells_length, Nat.mul_one]) Hc.out (Lib.byteCells_one _) ?c3 ?c4 ?c5 ?_)
      case c3 => unfold maxLen; omega
      case c4 => omega
      case c5 => exact hsz
      intro v' w5 hown' hgrow hne hat
      have R : Hid (w5.ownsRow w.heap.size 5 1 v' (putL x).length (Lib.byteCells (putL x)) ∧ Below w.heap.size w w5) := by
        refine ⟨?_, HB.out.grown hgrow hsz (own_block HL.out)⟩
        have e1 : (putL x).length = 1 + (putL (x / 128)).length := by rw [Hp.out, List.length_cons]; omega
        have e2 : Lib.byteCells (putL x) = [.int .u8 (128 + (x : Int) % 128)] ++ Lib.byteCells (putL (x / 128)) := by
          rw [Hp.out]
          show Lib.byteCells ([UInt8.ofNat (128 + x % 128)] ++ putL (x / 128)) = _
          rw [Lib.byteCells_append, byte_cell1 _ (by omega)]
          simp
        rw [e1, e2]; exact hown'
      clear hown' hgrow hat HL HO HB Hc
      have hpos := putL_pos x
      rcases own_cases R.out.1 with ⟨rfl, h0⟩ | ⟨g2, cap2, rfl, _, _⟩
      · omega
      · go_wp2
        go_ret
        exact ⟨g2, cap2, rfl, R.out.1, R.out.2⟩
end Go.Proofs.YtefhmbnhhkgifaaDoor
