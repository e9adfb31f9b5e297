import Derived.Test.YtanolccfmpbjgalDfDK
import Derived.Test.YtanolccfmpbjgalDictOKJ05
namespace Go.Proofs.Ytanolccfmpbjgal
open Go Go.RowKit
set_option linter.unusedVariables false
set_option maxRecDepth 100000

/-- A cursor as it lies in a world: at the state i, behind the bytes p, with the number k. -/
structure CurAt (w0 W : World) (B : Nat) (aS : Option Addr) (cS : Nat) (S : List St) (i k : Nat) (p : Tx) (gv : Value) : Prop where
  old : Below w0.heap.size w0 W
  hold : HoldS w0 aS S
  new : w0.heap.size ≤ B
  box : W.heap[B]? = some (.cells #[.slice aS S.length cS, .int .i64 (i : Int), gv, .int .i64 (k : Int)] 69)
  row : W.ownsRow (B + 1) 5 1 gv p.length (Lib.byteCells p)
theorem CurAt.below {w0 W W' : World} {B : Nat} {aS : Option Addr} {cS : Nat} {S : List St} {i k : Nat} {p : Tx} {gv : Value} (h : CurAt w0 W B aS cS S i k p gv) (hb : Below W.heap.size W W') : CurAt w0 W' B aS cS S i k p gv :=
  ⟨h.old.trans (hb.mono h.old.size), h.hold, h.new, blko h.box hb, own_below h.row hb⟩
section
variable {w0 W : World} {B : Nat} {aS : Option Addr} {cS : Nat} {S : List St} {i k : Nat} {p : Tx} {gv : Value}
set_option maxHeartbeats 1000000 in
theorem arcs_any (h : CurAt w0 W B aS cS S i k p gv) (hi : i < S.length) : Calls Try.prog 63 #[.pointer (some ⟨B, 0, none⟩)] W fun e w' => ∃ ai ci m, e = .returned (.slice ai (arcsAt S i).length ci) ∧ HoldA w0 ai (arcsAt S i) ∧ w' = W.drewN m := by
  obtain ⟨b, off, rfl, hb, hc⟩ := h.hold.resolve_left (fun e => by rw [e] at hi; simp at hi)
  obtain ⟨_, ai, ci, c1, hA⟩ := hc i hi
  have c1' := (h.old.cell (p := ⟨b, off + i * 2 + 1, none⟩) hb).trans c1
  have x0 := blkc h.box 0
  have x1 := blkc h.box 1
  have hiz : (i : Int) < (S.length : Int) := by omega
  have HA : Hid (HoldA w0 ai (arcsAt S i)) := hA
  clear h hc hA c1
  change W.cell? _ = some (.slice ai (arcsAt S i).length ci) at c1'
  generalize (arcsAt S i).length = n at *
  go_enter Try.func63, Try.ntmps63
  go_wp2_with fail
  go_quiet (fail)
  go_wp2_with fail
  go_ret
  exact ⟨ai, ci, nq, rfl, HA.out, rfl⟩
set_option maxHeartbeats 1000000 in
theorem final_any (h : CurAt w0 W B aS cS S i k p gv) (hi : i < S.length) : Calls Try.prog 37 #[.pointer (some ⟨B, 0, none⟩)] W fun e w' => e = .returned (.bool (finAt S i)) ∧ ∃ m, w' = W.drewN m := by
  obtain ⟨b, off, rfl, hb, hc⟩ := h.hold.resolve_left (fun e => by rw [e] at hi; simp at hi)
  obtain ⟨c0, _⟩ := hc i hi
  have c0' := (h.old.cell (p := ⟨b, off + i * 2, none⟩) hb).trans c0
  have x0 := blkc h.box 0
  have x1 := blkc h.box 1
  have hiz : (i : Int) < (S.length : Int) := by omega
  clear h hc c0
  change W.cell? _ = some (.bool (finAt S i)) at c0'
  generalize finAt S i = F at *
  go_enter Try.func37, Try.ntmps37
  go_wp2_with fail
  go_quiet (fail)
  go_wp2_with fail
  go_ret
  exact ⟨rfl, nq, rfl⟩
theorem byteCells_snoc (l : List UInt8) (b : UInt8) : Lib.byteCells (l ++ [b]) = Lib.byteCells l ++ [.int .u8 (b.toNat : Int)] := by simp [Lib.byteCells]
theorem CurAt.setSt (h : CurAt w0 W B aS cS S i k p gv) (j : Nat) : CurAt w0 (W.setCell ⟨B, 1, none⟩ (.int .i64 (j : Int))) B aS cS S j k p gv :=
  ⟨h.old.setCell (p := ⟨B, 1, none⟩) h.new _, h.hold, h.new, blk_setk h.box 1 _, own_congr h.row fun b hb => by have := (own_blk h.row hb).1; exact heap_set_other W B 1 _ b (by omega)⟩
theorem CurAt.setNum (h : CurAt w0 W B aS cS S i k p gv) (j : Nat) : CurAt w0 (W.setCell ⟨B, 3, none⟩ (.int .i64 (j : Int))) B aS cS S i j p gv :=
  ⟨h.old.setCell (p := ⟨B, 3, none⟩) h.new _, h.hold, h.new, blk_setk h.box 3 _, own_congr h.row fun b hb => by have := (own_blk h.row hb).1; exact heap_set_other W B 3 _ b (by omega)⟩
theorem CurAt.push {V w6 : World} {g6 cp6 : Nat} {x : UInt8} (h : CurAt w0 W B aS cS S i k p gv) (hV : Below W.heap.size W V) (hown : w6.ownsRow (B + 1) 5 1 (.slice (some ⟨g6, 0, none⟩) (p.length + 1) cp6) (p.length + 1) (Lib.byteCells p ++ [.int .u8 (x.toNat : Int)])) (hg : V.grownBy w6 gv.ownBlock) (hat : gv.ownBlock = some g6 ∨ g6 = V.heap.size) :
    w6.heap[B]? = some (.cells #[.slice aS S.length cS, .int .i64 (i : Int), gv, .int .i64 (k : Int)] 69) ∧ CurAt w0 (w6.setCell ⟨B, 2, none⟩ (.slice (some ⟨g6, 0, none⟩) (p.length + 1) cp6)) B aS cS S i k (p ++ [x]) (.slice (some ⟨g6, 0, none⟩) (p.length + 1) cp6) := by
  have hBl := (Array.getElem?_eq_some_iff.1 h.box).1
  have hVs := hV.size
  have hgv : ∀ b, gv.ownBlock = some b → B + 1 ≤ b := fun b hb => (own_blk h.row hb).1
  have hbox : w6.heap[B]? = some (.cells #[.slice aS S.length cS, .int .i64 (i : Int), gv, .int .i64 (k : Int)] 69) := by
    rw [hg.block B (by omega) (fun e => by have := hgv B e.symm; omega), hV.block B hBl]
    exact h.box
  have hg6 : g6 ≠ B := by
    rcases hat with e | e
    · have := hgv g6 e; omega
    · omega
  have hb2 : Below w0.heap.size w0 V := h.old.trans (hV.mono h.old.size)
  have hb3 : Below w0.heap.size w0 w6 := hb2.grown hg hb2.size (fun b e => by have := hgv b e; have := h.new; omega)
  refine ⟨hbox, hb3.setCell (p := ⟨B, 2, none⟩) h.new _, h.hold, h.new, blk_setk hbox 2 _, ?_⟩
  rw [List.length_append, byteCells_snoc]
  exact own_congr hown fun b hb => heap_set_other w6 B 2 _ b (by cases hb; exact hg6)
end
end Go.Proofs.Ytanolccfmpbjgal
