import Derived.Test.YtgoklapafidpkaaGreatDoorTermsJ09
import Derived.WalkLawsBesides
import Derived.BigQuiet
import Derived.Deep.QuietTactic
import Derived.Deep.RegionWith
import Derived.Deep.CutBlock
import Derived.Test.YtgoklapafidpkaaGreatDoorTermsJ07
import Derived.Test.YtgoklapafidpkaaGreatDoorTermsJ06
import Derived.Test.YtgoklapafidpkaaGreatDoorTermsJ00
import Derived.Laws.IdiomCopy
namespace Go.Proofs.YtgoklapafidpkaaGreatDoor
open Go Go.RowKit
set_option linter.unusedVariables false
set_option maxRecDepth 100000

theorem Tryz.infoFd : (Tryz.prog.info? 79).map (fun i => (i.zero, i.size, i.bytes)) = some (some (.agg #[.string ⟨#[]⟩, .int .i64 0, .bool false, .bool false, .bool false, .slice none 0 0, .slice none 0 0, .int .i64 0, .int .i64 0]), 9, 96) := by kernel_rfl
set_option maxHeartbeats 1000000 in
theorem setNine (zs xs : List Value) (k n : Nat) (v0 v1 v2 v3 v4 v5 v6 v7 v8 : Value) (hz : zs.length = k * 9) (hx : xs.length = n * 9) (hk : k < n) : (((((((((zs ++ xs.drop (k * 9)).set (k * 9) v0).set (k * 9 + 1) v1).set (k * 9 + 2) v2).set (k * 9 + 3) v3).set (k * 9 + 4) v4).set (k * 9 + 5) v5).set (k * 9 + 6) v6).set (k * 9 + 7) v7).set (k * 9 + 8) v8 = (zs ++ [v0, v1, v2, v3, v4, v5, v6, v7, v8]) ++ xs.drop ((k + 1) * 9) := by
  have hd : xs.drop (k * 9) = xs[k * 9] :: xs[k * 9 + 1] :: xs[k * 9 + 2] :: xs[k * 9 + 3] :: xs[k * 9 + 4] :: xs[k * 9 + 5] :: xs[k * 9 + 6] :: xs[k * 9 + 7] :: xs[k * 9 + 8] :: xs.drop ((k + 1) * 9) := by
    iterate 9 rw [List.drop_eq_getElem_cons (by omega)]
    congr 9
    congr 1
    omega
  rw [hd]
  have e : ∀ (j : Nat) (ys : List Value) (u : Value), (zs ++ ys).set (k * 9 + j) u = zs ++ ys.set j u := fun j ys u => by rw [List.set_append_right _ _ (by omega), hz, Nat.add_sub_cancel_left]
  have e0 : ∀ (ys : List Value) (u : Value), (zs ++ ys).set (k * 9) u = zs ++ ys.set 0 u := fun ys u => e 0 ys u
  rw [e0]
  iterate 8 rw [e]
  simp
theorem HoldS.keep {w w' : World} {g : Nat} {l : List (List UInt8)} (h : HoldS w (some ⟨g, 0, none⟩) l) (hk : g < w.heap.size → w'.heap[g]? = w.heap[g]?) : HoldS w' (some ⟨g, 0, none⟩) l := by
  rcases h with h | ⟨b, off, h1, h2, h3⟩
  · exact Or.inl h
  · simp only [Option.some.injEq, Addr.mk.injEq, and_true] at h1
    obtain ⟨rfl, rfl⟩ := h1
    have hh := hk h2
    refine Or.inr ⟨g, 0, rfl, ?_, fun t ht => ?_⟩
    · have := (Array.getElem?_eq_some_iff.1 (hh.trans (Array.getElem?_eq_getElem h2))).1
      exact this
    · rw [← h3 t ht]; simp [World.cell?, hh]
theorem HoldY.keep {w w' : World} {g : Nat} {l : List (List UInt8 × List UInt8)} (h : HoldY w (some ⟨g, 0, none⟩) l) (hk : g < w.heap.size → w'.heap[g]? = w.heap[g]?) : HoldY w' (some ⟨g, 0, none⟩) l := by
  rcases h with h | ⟨b, off, h1, h2, h3⟩
  · exact Or.inl h
  · simp only [Option.some.injEq, Addr.mk.injEq, and_true] at h1
    obtain ⟨rfl, rfl⟩ := h1
    have hh := hk h2
    refine Or.inr ⟨g, 0, rfl, ?_, fun t ht => ?_⟩
    · have := (Array.getElem?_eq_some_iff.1 (hh.trans (Array.getElem?_eq_getElem h2))).1
      exact this
    · rw [← (h3 t ht).1, ← (h3 t ht).2]; simp [World.cell?, hh]
theorem own_base {w : World} {base e sz g n cap : Nat} {xs : List Value} (h : w.ownsRow base e sz (.slice (some ⟨g, 0, none⟩) n cap) n xs) : base ≤ g := by
  rcases h.2 with ⟨h', _⟩ | ⟨g', cap', cur, h1, h2, h3⟩
  · simp at h'
  · cases h1; exact h2
theorem heap_set_oth (w : World) (b j : Nat) (u : Value) (g : Nat) (h : g ≠ b) : (w.setCell ⟨b, j, none⟩ u).heap[g]? = w.heap[g]? := Deep.blk_setCell_other w ⟨b, j, none⟩ u g h
end Go.Proofs.YtgoklapafidpkaaGreatDoor

namespace Go.Proofs.YtgoklapafidpkaaGreatDoor
open Go Go.RowKit
set_option linter.unusedVariables false
set_option linter.unusedSimpArgs false
set_option maxRecDepth 100000

set_option maxHeartbeats 8000000 in
theorem fieldHit_any (a : Option Addr) (cap : Nat) (l : List Fd) (n : List UInt8) (w : World) (hn : l.length ≤ 1048576) (hS : HoldF w a l) (hit : fldIx l n < l.length) (f : Fd) (hf : l.getD (fldIx l n) fd0 = f) :
    Calls Tryz.prog 40 #[.agg #[.slice a l.length cap], .string (bs n)] w fun e w' => ∃ aS cS aY cY, e = .returned (.tuple #[.agg #[.string (bs f.name), .int .i64 f.kind, .bool f.bf, .bool f.bsm, .bool f.bp, .slice aS f.stops.length cS, .slice aY f.syns.length cY, .int .i64 f.lo, .int .i64 f.hi], .bool true]) ∧ HoldS w' aS f.stops ∧ HoldY w' aY f.syns ∧ Below w.heap.size w w' := by
  have HS := hidd hS
  clear hS
  have hk := alloc3 w (.cells #[.slice a l.length cap] 33) (.cells #[.string (bs n)] 9) (.cells #[.string ⟨#[]⟩, .int .i64 0, .bool false, .bool false, .bool false, .slice none 0 0, .slice none 0 0, .int .i64 0, .int .i64 0] 79)
  have HB3 : Hid (Below w.heap.size w (((w.alloc (.cells #[.slice a l.length cap] 33)).alloc (.cells #[.string (bs n)] 9)).alloc (.cells #[.string ⟨#[]⟩, .int .i64 0, .bool false, .bool false, .bool false, .slice none 0 0, .slice none 0 0, .int .i64 0, .int .i64 0] 79))) := (((Below.refl _ _).alloc (Nat.le_refl _) _).alloc (by simp) _).alloc (by simp; omega) _
  have hsz3 : w.heap.size + 1 + 1 < (((w.alloc (.cells #[.slice a l.length cap] 33)).alloc (.cells #[.string (bs n)] 9)).alloc (.cells #[.string ⟨#[]⟩, .int .i64 0, .bool false, .bool false, .bool false, .slice none 0 0, .slice none 0 0, .int .i64 0, .int .i64 0] 79)).heap.size := by simp
  simp only [] at hk
  have HK := hidd hk
  clear hk
  go_enter Tryz.func40, Tryz.ntmps40
  go_upto_region 1 with fail
  obtain ⟨W3, hW3⟩ : ∃ W3, (((w.alloc (.cells #[.slice a l.length cap] 33)).alloc (.cells #[.string (bs n)] 9)).alloc (.cells #[.string ⟨#[]⟩, .int .i64 0, .bool false, .bool false, .bool false, .slice none 0 0, .slice none 0 0, .int .i64 0, .int .i64 0] 79)) = W3 := ⟨_, rfl⟩
  rw [hW3] at HK HB3 hsz3
  try rw [hW3]
  clear hW3
  have x0 : W3.cell? ⟨w.heap.size, 0, none⟩ = some (.slice a l.length cap) := blkc HK.out.1 0
  have HI := hidd (fieldIndex_any a cap l n (w.heap.size + 1) W3 hn (HS.out.below HB3.out) HK.out.2.1)
  rw [show fldZ l n = (fldIx l n : Int) by rw [fldZ, if_pos hit]] at HI
  have Hf := hidd hf
  clear hf
  generalize fldIx l n = k at *
  go_wp2_with fail
  refine HI.out.mono ?_
  rintro e w4 ⟨rfl, hb4⟩
  have HB4 : Hid (Below w.heap.size w w4) := HB3.out.trans (hb4.mono (by omega))
  have k0 := blko HK.out.1 hb4
  have k2 := blko HK.out.2.2 hb4
  have hz4 := hb4.size
  clear hb4 HI x0
  have x0 : w4.cell? ⟨w.heap.size, 0, none⟩ = some (.slice a l.length cap) := blkc k0 0
  obtain ⟨b, off, rfl, hbl, hc⟩ := HS.out.resolve_left (fun h => by rw [h] at hit; simp at hit)
  obtain ⟨p0, p1, p2, p3, p4, ⟨aS, cS, p5, hSt⟩, ⟨aY, cY, p6, hYt⟩, p7, p8⟩ := hc k hit
  rw [Hf.out] at p0 p1 p2 p3 p4 p5 p6 p7 p8 hSt hYt
  have HSt := hidd hSt
  have HYt := hidd hYt
  clear hc hSt hYt HS
  have up : ∀ o u, w.cell? ⟨b, o, none⟩ = some u → w4.cell? ⟨b, o, none⟩ = some u := fun o u h => (HB4.out.cell (p := ⟨b, o, none⟩) hbl).trans h
  have q0 := up _ _ p0
  have q1 := up _ _ p1
  have q2 := up _ _ p2
  have q3 := up _ _ p3
  have q4 := up _ _ p4
  have q5 := up _ _ p5
  have q6 := up _ _ p6
  have q7 := up _ _ p7
  have q8 := up _ _ p8
  clear up p0 p1 p2 p3 p4 p5 p6 p7 p8
  have d0 := blkc k2 0
  have y0 := blkf k2 0
  have d1 := blkc k2 1
  have y1 := blkf k2 1
  have d2 := blkc k2 2
  have y2 := blkf k2 2
  have d3 := blkc k2 3
  have y3 := blkf k2 3
  have d4 := blkc k2 4
  have y4 := blkf k2 4
  have d5 := blkc k2 5
  have y5 := blkf k2 5
  have d6 := blkc k2 6
  have y6 := blkf k2 6
  have d7 := blkc k2 7
  have y7 := blkf k2 7
  have d8 := blkc k2 8
  have y8 := blkf k2 8
  simp only [List.getElem?_toArray, List.getElem?_cons_zero, List.getElem?_cons_succ] at d0 d1 d2 d3 d4 d5 d6 d7 d8
  clear k0 k2 HK HB3
  go_wp2_with fail
  refine bodyPost_ret (v := .tuple #[.agg #[.string (bs f.name), .int .i64 f.kind, .bool f.bf, .bool f.bsm, .bool f.bp, .slice aS f.stops.length cS, .slice aY f.syns.length cY, .int .i64 f.lo, .int .i64 f.hi], .bool true]) (by simp [results, Tryz.results40, go_sem, *]) rfl ?_
  have hb9 : Below w.heap.size w (((((((((w4.setCell ⟨w.heap.size + 1 + 1, 0, none⟩ (.string (bs f.name))).setCell ⟨w.heap.size + 1 + 1, 1, none⟩ (.int .i64 f.kind)).setCell ⟨w.heap.size + 1 + 1, 2, none⟩ (.bool f.bf)).setCell ⟨w.heap.size + 1 + 1, 3, none⟩ (.bool f.bsm)).setCell ⟨w.heap.size + 1 + 1, 4, none⟩ (.bool f.bp)).setCell ⟨w.heap.size + 1 + 1, 5, none⟩ (.slice aS f.stops.length cS)).setCell ⟨w.heap.size + 1 + 1, 6, none⟩ (.slice aY f.syns.length cY)).setCell ⟨w.heap.size + 1 + 1, 7, none⟩ (.int .i64 f.lo)).setCell ⟨w.heap.size + 1 + 1, 8, none⟩ (.int .i64 f.hi)) := by
    iterate 9 refine Below.setCell ?_ (by dsimp only; omega) _
    exact HB4.out
  exact ⟨aS, cS, aY, cY, rfl, HSt.out.below hb9, HYt.out.below hb9, hb9⟩
set_option maxHeartbeats 8000000 in
theorem fieldMiss_any (a : Option Addr) (cap : Nat) (l : List Fd) (n : List UInt8) (w : World) (hn : l.length ≤ 1048576) (hS : HoldF w a l) (hit : ¬ fldIx l n < l.length) :
    Calls Tryz.prog 40 #[.agg #[.slice a l.length cap], .string (bs n)] w fun e w' => e = .returned (.tuple #[.agg #[.string ⟨#[]⟩, .int .i64 0, .bool false, .bool false, .bool false, .slice none 0 0, .slice none 0 0, .int .i64 0, .int .i64 0], .bool false]) ∧ Below w.heap.size w w' := by
  have HS := hidd hS
  clear hS
  have hk := alloc3 w (.cells #[.slice a l.length cap] 33) (.cells #[.string (bs n)] 9) (.cells #[.string ⟨#[]⟩, .int .i64 0, .bool false, .bool false, .bool false, .slice none 0 0, .slice none 0 0, .int .i64 0, .int .i64 0] 79)
  have HB3 : Hid (Below w.heap.size w (((w.alloc (.cells #[.slice a l.length cap] 33)).alloc (.cells #[.string (bs n)] 9)).alloc (.cells #[.string ⟨#[]⟩, .int .i64 0, .bool false, .bool false, .bool false, .slice none 0 0, .slice none 0 0, .int .i64 0, .int .i64 0] 79))) := (((Below.refl _ _).alloc (Nat.le_refl _) _).alloc (by simp) _).alloc (by simp; omega) _
  have hsz3 : w.heap.size + 1 + 1 < (((w.alloc (.cells #[.slice a l.length cap] 33)).alloc (.cells #[.string (bs n)] 9)).alloc (.cells #[.string ⟨#[]⟩, .int .i64 0, .bool false, .bool false, .bool false, .slice none 0 0, .slice none 0 0, .int .i64 0, .int .i64 0] 79)).heap.size := by simp
  simp only [] at hk
  have HK := hidd hk
  clear hk
  go_enter Tryz.func40, Tryz.ntmps40
  go_upto_region 1 with fail
  obtain ⟨W3, hW3⟩ : ∃ W3, (((w.alloc (.cells #[.slice a l.length cap] 33)).alloc (.cells #[.string (bs n)] 9)).alloc (.cells #[.string ⟨#[]⟩, .int .i64 0, .bool false, .bool false, .bool false, .slice none 0 0, .slice none 0 0, .int .i64 0, .int .i64 0] 79)) = W3 := ⟨_, rfl⟩
  rw [hW3] at HK HB3 hsz3
  try rw [hW3]
  clear hW3
  have x0 : W3.cell? ⟨w.heap.size, 0, none⟩ = some (.slice a l.length cap) := blkc HK.out.1 0
  have HI := hidd (fieldIndex_any a cap l n (w.heap.size + 1) W3 hn (HS.out.below HB3.out) HK.out.2.1)
  rw [show fldZ l n = -1 by rw [fldZ, if_neg hit]] at HI
  clear hit
  go_wp2_with fail
  refine HI.out.mono ?_
  rintro e w4 ⟨rfl, hb4⟩
  have HB4 : Hid (Below w.heap.size w w4) := HB3.out.trans (hb4.mono (by omega))
  have k2 := blko HK.out.2.2 hb4
  have hz4 := hb4.size
  clear hb4 HI x0
  have d0 := blkc k2 0
  have y0 := blkf k2 0
  have d1 := blkc k2 1
  have y1 := blkf k2 1
  have d2 := blkc k2 2
  have y2 := blkf k2 2
  have d3 := blkc k2 3
  have y3 := blkf k2 3
  have d4 := blkc k2 4
  have y4 := blkf k2 4
  have d5 := blkc k2 5
  have y5 := blkf k2 5
  have d6 := blkc k2 6
  have y6 := blkf k2 6
  have d7 := blkc k2 7
  have y7 := blkf k2 7
  have d8 := blkc k2 8
  have y8 := blkf k2 8
  simp only [List.getElem?_toArray, List.getElem?_cons_zero, List.getElem?_cons_succ] at d0 d1 d2 d3 d4 d5 d6 d7 d8
  clear k2 HK HB3
  go_wp2_with fail
  refine bodyPost_ret (v := .tuple #[.agg #[.string ⟨#[]⟩, .int .i64 0, .bool false, .bool false, .bool false, .slice none 0 0, .slice none 0 0, .int .i64 0, .int .i64 0], .bool false]) (by simp [results, Tryz.results40, go_sem, *]) rfl ?_
  have hb9 : Below w.heap.size w (((((((((w4.setCell ⟨w.heap.size + 1 + 1, 0, none⟩ (.string ⟨#[]⟩)).setCell ⟨w.heap.size + 1 + 1, 1, none⟩ (.int .i64 0)).setCell ⟨w.heap.size + 1 + 1, 2, none⟩ (.bool false)).setCell ⟨w.heap.size + 1 + 1, 3, none⟩ (.bool false)).setCell ⟨w.heap.size + 1 + 1, 4, none⟩ (.bool false)).setCell ⟨w.heap.size + 1 + 1, 5, none⟩ (.slice none 0 0)).setCell ⟨w.heap.size + 1 + 1, 6, none⟩ (.slice none 0 0)).setCell ⟨w.heap.size + 1 + 1, 7, none⟩ (.int .i64 0)).setCell ⟨w.heap.size + 1 + 1, 8, none⟩ (.int .i64 0)) := by
    iterate 9 refine Below.setCell ?_ (by dsimp only; omega) _
    exact HB4.out
  exact ⟨rfl, hb9⟩
end Go.Proofs.YtgoklapafidpkaaGreatDoor

namespace Go.Proofs.YtgoklapafidpkaaGreatDoor
open Go Go.RowKit
set_option linter.unusedVariables false

/-! Rows of tokens that are written in place. -/
/-- All stays but what X names. -/
structure But (X : Nat → Prop) (w w' : World) : Prop where
  os : w'.os = w.os
  tape : w'.tape = w.tape
  output : w'.output = w.output
  size : w.heap.size ≤ w'.heap.size
  block : ∀ b, b < w.heap.size → ¬ X b → w'.heap[b]? = w.heap[b]?
theorem But.refl (X : Nat → Prop) (w : World) : But X w w := ⟨rfl, rfl, rfl, Nat.le_refl _, fun _ _ _ => rfl⟩
theorem But.trans {X Y Z : Nat → Prop} {a b c : World} (h : But X a b) (k : But Y b c) (hx : ∀ i, i < a.heap.size → X i → Z i) (hy : ∀ i, i < a.heap.size → Y i → Z i) : But Z a c :=
  ⟨k.os.trans h.os, k.tape.trans h.tape, k.output.trans h.output, Nat.le_trans h.size k.size, fun i hi hn =>
    (k.block i (Nat.lt_of_lt_of_le hi h.size) fun e => hn (hy i hi e)).trans (h.block i hi fun e => hn (hx i hi e))⟩
theorem But.mono {X Z : Nat → Prop} {a b : World} (h : But X a b) (hx : ∀ i, i < a.heap.size → X i → Z i) : But Z a b :=
  ⟨h.os, h.tape, h.output, h.size, fun i hi hn => h.block i hi fun e => hn (hx i hi e)⟩
theorem But.of_below {X : Nat → Prop} {a b : World} (h : Below a.heap.size a b) : But X a b := ⟨h.os, h.tape, h.output, h.size, fun i hi _ => h.block i hi⟩
theorem But.below {X : Nat → Prop} {n : Nat} {a b : World} (h : But X a b) (hn : n ≤ a.heap.size) (hx : ∀ i, i < n → ¬ X i) : Below n a b :=
  ⟨h.os, h.tape, h.output, h.size, fun i hi => h.block i (by omega) (hx i hi)⟩
theorem But.set {X : Nat → Prop} {a b : World} (h : But X a b) (g k : Nat) (u : Value) (hg : X g) : But X a (b.setCell ⟨g, k, none⟩ u) :=
  ⟨h.os, h.tape, h.output, by simpa using h.size, fun i hi hn => (heap_set_other b g k u i (fun e => hn (e ▸ hg))).trans (h.block i hi hn)⟩
theorem But.alloc {X : Nat → Prop} {a b : World} (h : But X a b) (o : Obj) : But X a (b.alloc o) :=
  ⟨h.os, h.tape, h.output, by have := h.size; simp; omega, fun i hi hn => (Below.heap_alloc b o i (Nat.lt_of_lt_of_le hi h.size)).trans (h.block i hi hn)⟩
theorem But.cell {X : Nat → Prop} {a b : World} (h : But X a b) {p : Addr} (hp : p.block < a.heap.size) (hx : ¬ X p.block) : b.cell? p = a.cell? p := by
  simp only [World.cell?]
  rw [h.block p.block hp hx]
theorem HoldT.but {X : Nat → Prop} {w w' : World} {a : Option Addr} {l : List Tk} (h : HoldT w a l) (hb : But X w w') (hx : ∀ b off, a = some ⟨b, off, none⟩ → ¬ X b) : HoldT w' a l :=
  h.cells hb.size fun b off e hl => hb.block b hl (hx b off e)
theorem HoldS.but {X : Nat → Prop} {w w' : World} {a : Option Addr} {l : List (List UInt8)} (h : HoldS w a l) (hb : But X w w') (hx : ∀ b off, a = some ⟨b, off, none⟩ → ¬ X b) : HoldS w' a l := by
  rcases h with h | ⟨b, off, h1, h2, h3⟩
  · exact Or.inl h
  · exact Or.inr ⟨b, off, h1, Nat.lt_of_lt_of_le h2 hb.size, fun t ht => (hb.cell (p := ⟨b, off + t, none⟩) h2 (hx b off h1)).trans (h3 t ht)⟩
theorem own4_but {X : Nat → Prop} {w w' : World} {base e n : Nat} {v : Value} {xs : List Value} (h : w.ownsRow base e 4 v n xs) (hb : But X w w') (hx : ∀ b, v.ownBlock = some b → ¬ X b) : w'.ownsRow base e 4 v n xs := by
  refine ⟨h.1, ?_⟩
  rcases h.2 with h' | ⟨g, cap, cur, rfl, h2, h3, h4⟩
  · exact Or.inl h'
  · exact Or.inr ⟨g, cap, cur, rfl, h2, (hb.block g (Array.getElem?_eq_some_iff.1 h3).1 (hx g rfl)).trans h3, h4⟩
/-- One cell of an owned row. -/
theorem own4_set {w : World} {base e n g cap : Nat} {xs : List Value} (h : w.ownsRow base e 4 (.slice (some ⟨g, 0, none⟩) n cap) n xs) (k : Nat) (u : Value) (hk : k < n * 4) :
    (w.setCell ⟨g, k, none⟩ u).ownsRow base e 4 (.slice (some ⟨g, 0, none⟩) n cap) n (xs.set k u) := by
  refine ⟨by rw [List.length_set]; exact h.1, ?_⟩
  rcases h.2 with ⟨h', _⟩ | ⟨g', cap', cur, h1, h2, h3, h4, h5, h6, h7⟩
  · cases h'
  · simp only [Value.slice.injEq, Option.some.injEq, Addr.mk.injEq, and_true, true_and] at h1
    obtain ⟨rfl, rfl⟩ := h1
    refine Or.inr ⟨g, cap, cur.setIfInBounds k u, rfl, h2, blk_setk h3 k u, h4, h5, by rw [Array.size_setIfInBounds]; exact h6, ?_⟩
    rw [Array.toList_setIfInBounds, List.take_set, h7]
theorem own4_cut {w : World} {base e n g cap i : Nat} {xs : List Value} (h : w.ownsRow base e 4 (.slice (some ⟨g, 0, none⟩) n cap) n xs) (hi : i ≤ n) :
    w.ownsRow base e 4 (.slice (some ⟨g, 0, none⟩) i cap) i (xs.take (i * 4)) := by
  refine ⟨by rw [List.length_take, h.1]; omega, ?_⟩
  rcases h.2 with ⟨h', _⟩ | ⟨g', cap', cur, h1, h2, h3, h4, h5, h6, h7⟩
  · cases h'
  · simp only [Value.slice.injEq, Option.some.injEq, Addr.mk.injEq, and_true, true_and] at h1
    obtain ⟨rfl, rfl⟩ := h1
    refine Or.inr ⟨g, cap, cur, rfl, h2, h3, by omega, h5, h6, ?_⟩
    rw [← h7, List.take_take, Nat.min_eq_left (by omega)]
theorem own4_cap {w : World} {base e n g cap : Nat} {xs : List Value} (h : w.ownsRow base e 4 (.slice (some ⟨g, 0, none⟩) n cap) n xs) : n ≤ cap ∧ cap ≤ maxLen := by
  rcases h.2 with ⟨h', _⟩ | ⟨g', cap', cur, h1, h2, h3, h4, h5, h6, h7⟩
  · cases h'
  · simp only [Value.slice.injEq, Option.some.injEq, Addr.mk.injEq, and_true, true_and] at h1
    obtain ⟨rfl, rfl⟩ := h1
    exact ⟨h4, h5⟩
theorem own4_frozen {w : World} {base e n g cap : Nat} {xs : List Value} (h : w.ownsRow base e 4 (.slice (some ⟨g, 0, none⟩) n cap) n xs) (k : Nat) : w.frozen? ⟨g, k, none⟩ = false := by
  rcases h.2 with ⟨h', _⟩ | ⟨g', cap', cur, h1, h2, h3, h4, h5, h6, h7⟩
  · cases h'
  · simp only [Value.slice.injEq, Option.some.injEq, Addr.mk.injEq, and_true, true_and] at h1
    obtain ⟨rfl, rfl⟩ := h1
    exact frozen_of_row w g k _ _ h3
theorem toksCells_set (l : List Tk) (k : Nat) (x : Tk) (h : k < l.length) :
    ((((toksCells l).set (k * 4) (.string (bs x.1))).set (k * 4 + 1) (.int .i64 x.2.1)).set (k * 4 + 2) (.int .i64 x.2.2.1)).set (k * 4 + 3) (.int .i64 x.2.2.2) = toksCells (l.set k x) := by
  induction l generalizing k with
  | nil => simp at h
  | cons y t ih =>
    have e : ∀ (z : Tk) (r : List Tk), toksCells (z :: r) = (Value.string (bs z.1)) :: (.int .i64 z.2.1) :: (.int .i64 z.2.2.1) :: (.int .i64 z.2.2.2) :: toksCells r := fun z r => by simp [toksCells, tokCells, bs]
    cases k with
    | zero => simp [e]
    | succ k =>
      rw [List.set_cons_succ, e, e, show (k + 1) * 4 = k * 4 + 4 by omega]
      simp only [show k * 4 + 4 + 1 = k * 4 + 1 + 4 by omega, show k * 4 + 4 + 2 = k * 4 + 2 + 4 by omega, show k * 4 + 4 + 3 = k * 4 + 3 + 4 by omega, List.set_cons_succ]
      rw [ih k (by simpa using h)]
theorem toksCells_text (l : List Tk) (k : Nat) (x : List UInt8) (h : k < l.length) : (toksCells l).set (k * 4) (.string (bs x)) = toksCells (l.set k (x, (l.getD k tk0).2)) := by
  induction l generalizing k with
  | nil => simp at h
  | cons y t ih =>
    have e : ∀ (z : Tk) (r : List Tk), toksCells (z :: r) = (Value.string (bs z.1)) :: (.int .i64 z.2.1) :: (.int .i64 z.2.2.1) :: (.int .i64 z.2.2.2) :: toksCells r := fun z r => by simp [toksCells, tokCells, bs]
    cases k with
    | zero => simp [e]
    | succ k =>
      rw [List.set_cons_succ, e, e, show (k + 1) * 4 = k * 4 + 4 by omega]
      simp only [List.set_cons_succ]
      rw [ih k (by simpa using h)]
      simp
theorem toksCells_take (l : List Tk) (k : Nat) : (toksCells l).take (k * 4) = toksCells (l.take k) := by
  induction l generalizing k with
  | nil => simp [toksCells]
  | cons y t ih =>
    have e : ∀ (z : Tk) (r : List Tk), toksCells (z :: r) = (Value.string (bs z.1)) :: (.int .i64 z.2.1) :: (.int .i64 z.2.2.1) :: (.int .i64 z.2.2.2) :: toksCells r := fun z r => by simp [toksCells, tokCells, bs]
    cases k with
    | zero => simp [toksCells]
    | succ k =>
      rw [List.take_succ_cons, e, e, show (k + 1) * 4 = k * 4 + 4 by omega]
      simp only [List.take_succ_cons]
      rw [ih k]
theorem own4_text {w : World} {base e g cap : Nat} {l : List Tk} (h : w.ownsRow base e 4 (.slice (some ⟨g, 0, none⟩) l.length cap) l.length (toksCells l)) (k : Nat) (x : List UInt8) (hk : k < l.length) :
    (w.setCell ⟨g, k * 4, none⟩ (.string (bs x))).ownsRow base e 4 (.slice (some ⟨g, 0, none⟩) l.length cap) l.length (toksCells (l.set k (x, (l.getD k tk0).2))) := by
  rw [← toksCells_text l k x hk]
  exact own4_set h (k * 4) _ (by omega)
theorem own4_tokset {w : World} {base e g cap : Nat} {l : List Tk} (h : w.ownsRow base e 4 (.slice (some ⟨g, 0, none⟩) l.length cap) l.length (toksCells l)) (k : Nat) (x : Tk) (hk : k < l.length) :
    ((((w.setCell ⟨g, k * 4, none⟩ (.string (bs x.1))).setCell ⟨g, k * 4 + 1, none⟩ (.int .i64 x.2.1)).setCell ⟨g, k * 4 + 2, none⟩ (.int .i64 x.2.2.1)).setCell ⟨g, k * 4 + 3, none⟩ (.int .i64 x.2.2.2)).ownsRow base e 4 (.slice (some ⟨g, 0, none⟩) l.length cap) l.length (toksCells (l.set k x)) := by
  rw [← toksCells_set l k x hk]
  exact own4_set (own4_set (own4_set (own4_set h (k * 4) _ (by omega)) (k * 4 + 1) _ (by omega)) (k * 4 + 2) _ (by omega)) (k * 4 + 3) _ (by omega)
theorem own4_cells {w : World} {base e g cap : Nat} {l : List Tk} (h : w.ownsRow base e 4 (.slice (some ⟨g, 0, none⟩) l.length cap) l.length (toksCells l)) (t : Nat) (ht : t < l.length) :
    w.cell? ⟨g, t * 4, none⟩ = some (.string (bs (l.getD t tk0).1)) ∧ w.cell? ⟨g, t * 4 + 1, none⟩ = some (.int .i64 ((l.getD t tk0).2.1 : Int)) ∧
    w.cell? ⟨g, t * 4 + 2, none⟩ = some (.int .i64 ((l.getD t tk0).2.2.1 : Int)) ∧ w.cell? ⟨g, t * 4 + 3, none⟩ = some (.int .i64 ((l.getD t tk0).2.2.2 : Int)) := by
  obtain ⟨a, c, he, hH, _⟩ := holdT_row h
  simp only [Value.slice.injEq, true_and] at he
  obtain ⟨rfl, rfl⟩ := he
  obtain ⟨b, off, hb, _, hc⟩ := hH.resolve_left (fun h => by rw [h] at ht; simp at ht)
  simp only [Option.some.injEq, Addr.mk.injEq, and_true] at hb
  obtain ⟨rfl, rfl⟩ := hb
  simpa using hc t ht
end Go.Proofs.YtgoklapafidpkaaGreatDoor
