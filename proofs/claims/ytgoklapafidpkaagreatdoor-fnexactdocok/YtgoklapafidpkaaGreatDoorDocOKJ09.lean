import Derived.Test.YtgoklapafidpkaaGreatDoorDocOKJ05
import Derived.Test.YtgoklapafidpkaaGreatDoorDocOKJ08
namespace Go.Proofs.YtgoklapafidpkaaGreatDoor
open Go Go.RowKit
set_option linter.unusedVariables false
set_option linter.unusedSimpArgs false
set_option maxRecDepth 100000

set_option maxHeartbeats 8000000 in
theorem fieldHit_any (a : Option Addr) (cap : Nat) (l : List Fd) (n : List UInt8) (w : World) (hn : l.length ≤ 1048576) (hS : HoldF w a l) (hit : fldIx l n < l.length) (f : Fd) (hf : l.getD (fldIx l n) fd0 = f) :
    Calls Tryz.prog 40 #[.agg #[.slice a l.length cap], .string (bs n)] w fun e w' => ∃ aS cS aY cY, e = .returned (.tuple #[.agg #[.string (bs f.name), .int .i64 f.kind, .bool f.bf, .bool f.bsm, .bool f.bp, .slice aS f.stops.length cS, .slice aY f.syns.length cY, .int .i64 f.lo, .int .i64 f.hi], .bool true]) ∧ HoldS w' aS f.stops ∧ HoldY w' aY f.syns ∧ Below w.heap.size w w' := by
  have HS := hidd hS
  clear hS
  have hk := alloc3 w (.cells #[.slice a l.length cap] 33) (.cells #[.string (bs n)] 9) (.cells #[.string ⟨#[]⟩, .int .i64 0, .bool false, .bool false, .bool false, .slice none 0 0, .slice none 0 0, .int .i64 0, .int .i64 0] 79)
  have HB3 : Hid (Below w.heap.size w (((w.alloc (.cells #[.slice a l.length cap] 33)).alloc (.cells #[.string (bs n)] 9)).alloc (.cells #[.string ⟨#[]⟩, .int .i64 0, .bool false, .bool false, .bool false, .slice none 0 0, .slice none 0 0, .int .i64 0, .int .i64 0] 79))) := (((Below.refl _ _).alloc (Nat.le_refl _) _).alloc (by simp) _).alloc (by simp; omega) _
  have hsz3 : w.heap.size + 1 + 1 < (((w.alloc (.cells #[.slice a l.length cap] 33)).alloc (.cells #[.string (bs n)] 9)).alloc (.cells #[.string ⟨#[]⟩, .int .i64 0, .bool false, .bool false, .bool false, .slice none 0 0, .slice none 0 0, .int .i64 0, .int .i64 0] 79)).heap.size := by simp
  simp only [] at hk
  have HK := hidd hk
  clear hk
  go_enter Tryz.func40, Tryz.ntmps40
  go_upto_region 1 with fail
  obtain ⟨W3, hW3⟩ : ∃ W3, (((w.alloc (.cells #[.slice a l.length cap] 33)).alloc (.cells #[.string (bs n)] 9)).alloc (.cells #[.string ⟨#[]⟩, .int .i64 0, .bool false, .bool false, .bool false, .slice none 0 0, .slice none 0 0, .int .i64 0, .int .i64 0] 79)) = W3 := ⟨_, rfl⟩
  rw [hW3] at HK HB3 hsz3
  try rw [hW3]
  clear hW3
  have x0 : W3.cell? ⟨w.heap.size, 0, none⟩ = some (.slice a l.length cap) := blkc HK.out.1 0
  have HI := hidd (fieldIndex_any a cap l n (w.heap.size + 1) W3 hn (HS.out.below HB3.out) HK.out.2.1)
  rw [show fldZ l n = (fldIx l n : Int) by rw [fldZ, if_pos hit]] at HI
  have Hf := hidd hf
  clear hf
  generalize fldIx l n = k at *
  go_wp2_with fail
  refine HI.out.mono ?_
  rintro e w4 ⟨rfl, hb4⟩
  have HB4 : Hid (Below w.heap.size w w4) := HB3.out.trans (hb4.mono (by omega))
  have k0 := blko HK.out.1 hb4
  have k2 := blko HK.out.2.2 hb4
  have hz4 := hb4.size
  clear hb4 HI x0
  have x0 : w4.cell? ⟨w.heap.size, 0, none⟩ = some (.slice a l.length cap) := blkc k0 0
  obtain ⟨b, off, rfl, hbl, hc⟩ := HS.out.resolve_left (fun h => by rw [h] at hit; simp at hit)
  obtain ⟨p0, p1, p2, p3, p4, ⟨aS, cS, p5, hSt⟩, ⟨aY, cY, p6, hYt⟩, p7, p8⟩ := hc k hit
  rw [Hf.out] at p0 p1 p2 p3 p4 p5 p6 p7 p8 hSt hYt
  have HSt := hidd hSt
  have HYt := hidd hYt
  clear hc hSt hYt HS
  have up : ∀ o u, w.cell? ⟨b, o, none⟩ = some u → w4.cell? ⟨b, o, none⟩ = some u := fun o u h => (HB4.out.cell (p := ⟨b, o, none⟩) hbl).trans h
  have q0 := up _ _ p0
  have q1 := up _ _ p1
  have q2 := up _ _ p2
  have q3 := up _ _ p3
  have q4 := up _ _ p4
  have q5 := up _ _ p5
  have q6 := up _ _ p6
  have q7 := up _ _ p7
  have q8 := up _ _ p8
  clear up p0 p1 p2 p3 p4 p5 p6 p7 p8
  have d0 := blkc k2 0
  have y0 := blkf k2 0
  have d1 := blkc k2 1
  have y1 := blkf k2 1
  have d2 := blkc k2 2
  have y2 := blkf k2 2
  have d3 := blkc k2 3
  have y3 := blkf k2 3
  have d4 := blkc k2 4
  have y4 := blkf k2 4
  have d5 := blkc k2 5
  have y5 := blkf k2 5
  have d6 := blkc k2 6
  have y6 := blkf k2 6
  have d7 := blkc k2 7
  have y7 := blkf k2 7
  have d8 := blkc k2 8
  have y8 := blkf k2 8
  simp only [List.getElem?_toArray, List.getElem?_cons_zero, List.getElem?_cons_succ] at d0 d1 d2 d3 d4 d5 d6 d7 d8
  clear k0 k2 HK HB3
  go_wp2_with fail
  refine bodyPost_ret (v := .tuple #[.agg #[.string (bs f.name), .int .i64 f.kind, .bool f.bf, .bool f.bsm, .bool f.bp, .slice aS f.stops.length cS, .slice aY f.syns.length cY, .int .i64 f.lo, .int .i64 f.hi], .bool true]) (by simp [results, Tryz.results40, go_sem, *]) rfl ?_
  have hb9 : Below w.heap.size w (((((((((w4.setCell ⟨w.heap.size + 1 + 1, 0, none⟩ (.string (bs f.name))).setCell ⟨w.heap.size + 1 + 1, 1, none⟩ (.int .i64 f.kind)).setCell ⟨w.heap.size + 1 + 1, 2, none⟩ (.bool f.bf)).setCell ⟨w.heap.size + 1 + 1, 3, none⟩ (.bool f.bsm)).setCell ⟨w.heap.size + 1 + 1, 4, none⟩ (.bool f.bp)).setCell ⟨w.heap.size + 1 + 1, 5, none⟩ (.slice aS f.stops.length cS)).setCell ⟨w.heap.size + 1 + 1, 6, none⟩ (.slice aY f.syns.length cY)).setCell ⟨w.heap.size + 1 + 1, 7, none⟩ (.int .i64 f.lo)).setCell ⟨w.heap.size + 1 + 1, 8, none⟩ (.int .i64 f.hi)) := by
    iterate 9 refine Below.setCell ?_ (by dsimp only; omega) _
    exact HB4.out
  exact ⟨aS, cS, aY, cY, rfl, HSt.out.below hb9, HYt.out.below hb9, hb9⟩
set_option maxHeartbeats 8000000 in
theorem fieldMiss_any (a : Option Addr) (cap : Nat) (l : List Fd) (n : List UInt8) (w : World) (hn : l.length ≤ 1048576) (hS : HoldF w a l) (hit : ¬ fldIx l n < l.length) :
    Calls Tryz.prog 40 #[.agg #[.slice a l.length cap], .string (bs n)] w fun e w' => e = .returned (.tuple #[.agg #[.string ⟨#[]⟩, .int .i64 0, .bool false, .bool false, .bool false, .slice none 0 0, .slice none 0 0, .int .i64 0, .int .i64 0], .bool false]) ∧ Below w.heap.size w w' := by
  have HS := hidd hS
  clear hS
  have hk := alloc3 w (.cells #[.slice a l.length cap] 33) (.cells #[.string (bs n)] 9) (.cells #[.string ⟨#[]⟩, .int .i64 0, .bool false, .bool false, .bool false, .slice none 0 0, .slice none 0 0, .int .i64 0, .int .i64 0] 79)
  have HB3 : Hid (Below w.heap.size w (((w.alloc (.cells #[.slice a l.length cap] 33)).alloc (.cells #[.string (bs n)] 9)).alloc (.cells #[.string ⟨#[]⟩, .int .i64 0, .bool false, .bool false, .bool false, .slice none 0 0, .slice none 0 0, .int .i64 0, .int .i64 0] 79))) := (((Below.refl _ _).alloc (Nat.le_refl _) _).alloc (by simp) _).alloc (by simp; omega) _
  have hsz3 : w.heap.size + 1 + 1 < (((w.alloc (.cells #[.slice a l.length cap] 33)).alloc (.cells #[.string (bs n)] 9)).alloc (.cells #[.string ⟨#[]⟩, .int .i64 0, .bool false, .bool false, .bool false, .slice none 0 0, .slice none 0 0, .int .i64 0, .int .i64 0] 79)).heap.size := by simp
  simp only [] at hk
  have HK := hidd hk
  clear hk
  go_enter Tryz.func40, Tryz.ntmps40
  go_upto_region 1 with fail
  obtain ⟨W3, hW3⟩ : ∃ W3, (((w.alloc (.cells #[.slice a l.length cap] 33)).alloc (.cells #[.string (bs n)] 9)).alloc (.cells #[.string ⟨#[]⟩, .int .i64 0, .bool false, .bool false, .bool false, .slice none 0 0, .slice none 0 0, .int .i64 0, .int .i64 0] 79)) = W3 := ⟨_, rfl⟩
  rw [hW3] at HK HB3 hsz3
  try rw [hW3]
  clear hW3
  have x0 : W3.cell? ⟨w.heap.size, 0, none⟩ = some (.slice a l.length cap) := blkc HK.out.1 0
  have HI := hidd (fieldIndex_any a cap l n (w.heap.size + 1) W3 hn (HS.out.below HB3.out) HK.out.2.1)
  rw [show fldZ l n = -1 by rw [fldZ, if_neg hit]] at HI
  clear hit
  go_wp2_with fail
  refine HI.out.mono ?_
  rintro e w4 ⟨rfl, hb4⟩
  have HB4 : Hid (Below w.heap.size w w4) := HB3.out.trans (hb4.mono (by omega))
  have k2 := blko HK.out.2.2 hb4
  have hz4 := hb4.size
  clear hb4 HI x0
  have d0 := blkc k2 0
  have y0 := blkf k2 0
  have d1 := blkc k2 1
  have y1 := blkf k2 1
  have d2 := blkc k2 2
  have y2 := blkf k2 2
  have d3 := blkc k2 3
  have y3 := blkf k2 3
  have d4 := blkc k2 4
  have y4 := blkf k2 4
  have d5 := blkc k2 5
  have y5 := blkf k2 5
  have d6 := blkc k2 6
  have y6 := blkf k2 6
  have d7 := blkc k2 7
  have y7 := blkf k2 7
  have d8 := blkc k2 8
  have y8 := blkf k2 8
  simp only [List.getElem?_toArray, List.getElem?_cons_zero, List.getElem?_cons_succ] at d0 d1 d2 d3 d4 d5 d6 d7 d8
  clear k2 HK HB3
  go_wp2_with fail
  refine bodyPost_ret (v := .tuple #[.agg #[.string ⟨#[]⟩, .int .i64 0, .bool false, .bool false, .bool false, .slice none 0 0, .slice none 0 0, .int .i64 0, .int .i64 0], .bool false]) (by simp [results, Tryz.results40, go_sem, *]) rfl ?_
  have hb9 : Below w.heap.size w (((((((((w4.setCell ⟨w.heap.size + 1 + 1, 0, none⟩ (.string ⟨#[]⟩)).setCell ⟨w.heap.size + 1 + 1, 1, none⟩ (.int .i64 0)).setCell ⟨w.heap.size + 1 + 1, 2, none⟩ (.bool false)).setCell ⟨w.heap.size + 1 + 1, 3, none⟩ (.bool false)).setCell ⟨w.heap.size + 1 + 1, 4, none⟩ (.bool false)).setCell ⟨w.heap.size + 1 + 1, 5, none⟩ (.slice none 0 0)).setCell ⟨w.heap.size + 1 + 1, 6, none⟩ (.slice none 0 0)).setCell ⟨w.heap.size + 1 + 1, 7, none⟩ (.int .i64 0)).setCell ⟨w.heap.size + 1 + 1, 8, none⟩ (.int .i64 0)) := by
    iterate 9 refine Below.setCell ?_ (by dsimp only; omega) _
    exact HB4.out
  exact ⟨rfl, hb9⟩
end Go.Proofs.YtgoklapafidpkaaGreatDoor
