import Derived.Test.YtefhmbnhhkgifaaDoorReadLogJ18
import Derived.Test.YtefhmbnhhkgifaaDoorReadLogJ20
namespace Go.Proofs.YtefhmbnhhkgifaaDoor
open Go Go.RowKit
set_option linter.unusedVariables false
set_option maxRecDepth 100000

variable {rb ro rc : Nat} {rs : List UInt8} {bd bd' : Bool}

/-- The reader of a document behind some values. -/
structure E1 (rb ro rc : Nat) (rs : List UInt8) (w0 W wr : World) (B B0 B1 : Nat) (id : List UInt8) (va : Value) (V : List Vl) (xs : List Value) (r : List UInt8) (bd : Bool) : Prop where
  rdr : SpAt w0 wr B rb ro rc rs r bd
  b0 : B < B0
  b1 : B0 < B1
  res : wr.heap[B0]? = some (.cells #[.string ⟨#[]⟩, .slice none 0 0] 34)
  box : wr.heap[B1]? = some (.cells #[.string ⟨id.toArray⟩, va] 34)
  ans : AnsV wr (B1 + 1) wr.heap.size va V xs
  fr : ∀ b, b < B0 → b ≠ B → wr.heap[b]? = W.heap[b]?
  top : W.heap.size ≤ B0
/-- And within one. -/
structure E2 (rb ro rc : Nat) (rs : List UInt8) (w0 W wr : World) (B B0 B1 B2 : Nat) (id f : List UInt8) (va vt vn : Value) (V : List Vl) (xs : List Value) (tx : List (List UInt8)) (nz : List Int) (r : List UInt8) (bd : Bool) : Prop where
  rdr : SpAt w0 wr B rb ro rc rs r bd
  b0 : B < B0
  b1 : B0 < B1
  b2 : B1 < B2
  res : wr.heap[B0]? = some (.cells #[.string ⟨#[]⟩, .slice none 0 0] 34)
  box : wr.heap[B1]? = some (.cells #[.string ⟨id.toArray⟩, va] 34)
  ans : AnsV wr (B1 + 1) B2 va V xs
  vbx : wr.heap[B2]? = some (.cells #[.string ⟨f.toArray⟩, vt, vn] 64)
  rt : wr.ownsRow (B2 + 1) 9 1 vt tx.length (tx.map mkS)
  rn : wr.ownsRow (B2 + 1) 3 1 vn nz.length (nz.map mkI)
  fr : ∀ b, b < B0 → b ≠ B → wr.heap[b]? = W.heap[b]?
  top : W.heap.size ≤ B0
theorem E1.lt {w0 W wr : World} {B B0 B1 : Nat} {id : List UInt8} {va : Value} {V : List Vl} {xs : List Value} {r : List UInt8} (h : E1 rb ro rc rs w0 W wr B B0 B1 id va V xs r bd) : B1 < wr.heap.size := (Array.getElem?_eq_some_iff.1 h.box).1
theorem E2.lt {w0 W wr : World} {B B0 B1 B2 : Nat} {id f : List UInt8} {va vt vn : Value} {V : List Vl} {xs : List Value} {tx : List (List UInt8)} {nz : List Int} {r : List UInt8} (h : E2 rb ro rc rs w0 W wr B B0 B1 B2 id f va vt vn V xs tx nz r bd) : B2 < wr.heap.size := (Array.getElem?_eq_some_iff.1 h.vbx).1
theorem E1.call {w0 W wr W' : World} {B B0 B1 : Nat} {id : List UInt8} {va : Value} {V : List Vl} {xs : List Value} {r r' : List UInt8} (h : E1 rb ro rc rs w0 W wr B B0 B1 id va V xs r bd) (hr : SpAt w0 W' B rb ro rc rs r' bd') (hf : RdFr B wr W') : E1 rb ro rc rs w0 W W' B B0 B1 id va V xs r' bd' := by
  have hl := h.lt
  have a0 := h.b0
  have a1 := h.b1
  exact ⟨hr, h.b0, h.b1, (hf.2 _ (by omega) (by omega)).trans h.res, (hf.2 _ hl (by omega)).trans h.box, (h.ans.keep fun b h1 h2 => hf.2 b h2 (by omega)).mono hf.1, fun b hb hne => (hf.2 b (by omega) hne).trans (h.fr b hb hne), h.top⟩
theorem E2.call {w0 W wr W' : World} {B B0 B1 B2 : Nat} {id f : List UInt8} {va vt vn : Value} {V : List Vl} {xs : List Value} {tx : List (List UInt8)} {nz : List Int} {r r' : List UInt8} (h : E2 rb ro rc rs w0 W wr B B0 B1 B2 id f va vt vn V xs tx nz r bd) (hr : SpAt w0 W' B rb ro rc rs r' bd') (hf : RdFr B wr W') : E2 rb ro rc rs w0 W W' B B0 B1 B2 id f va vt vn V xs tx nz r' bd' := by
  have hl := h.lt
  have a0 := h.b0
  have a1 := h.b1
  have a2 := h.b2
  exact ⟨hr, h.b0, h.b1, h.b2, (hf.2 _ (by omega) (by omega)).trans h.res, (hf.2 _ (by omega) (by omega)).trans h.box, h.ans.keep fun b h1 h2 => hf.2 b (by omega) (by omega), (hf.2 _ hl (by omega)).trans h.vbx, own_keep h.rt fun b hb => hf.2 b (h.rt.lt b hb).2 (by have := (h.rt.lt b hb).1; omega), own_keep h.rn fun b hb => hf.2 b (h.rn.lt b hb).2 (by have := (h.rn.lt b hb).1; omega), fun b hb hne => (hf.2 b (by omega) hne).trans (h.fr b hb hne), h.top⟩
theorem E1.below {w0 W wr W' : World} {B B0 B1 : Nat} {id : List UInt8} {va : Value} {V : List Vl} {xs : List Value} {r : List UInt8} (h : E1 rb ro rc rs w0 W wr B B0 B1 id va V xs r bd) (hb : Below wr.heap.size wr W') : E1 rb ro rc rs w0 W W' B B0 B1 id va V xs r bd := h.call (h.rdr.below hb) ⟨hb.size, fun b hl _ => hb.block b hl⟩
theorem E2.below {w0 W wr W' : World} {B B0 B1 B2 : Nat} {id f : List UInt8} {va vt vn : Value} {V : List Vl} {xs : List Value} {tx : List (List UInt8)} {nz : List Int} {r : List UInt8} (h : E2 rb ro rc rs w0 W wr B B0 B1 B2 id f va vt vn V xs tx nz r bd) (hb : Below wr.heap.size wr W') : E2 rb ro rc rs w0 W W' B B0 B1 B2 id f va vt vn V xs tx nz r bd := h.call (h.rdr.below hb) ⟨hb.size, fun b hl _ => hb.block b hl⟩
/-- A new value's box. -/
theorem E1.open {w0 W wr : World} {B B0 B1 : Nat} {id f : List UInt8} {va : Value} {V : List Vl} {xs : List Value} {r : List UInt8} (h : E1 rb ro rc rs w0 W wr B B0 B1 id va V xs r bd) : E2 rb ro rc rs w0 W (wr.alloc (.cells #[.string ⟨f.toArray⟩, .slice none 0 0, .slice none 0 0] 64)) B B0 B1 wr.heap.size id f va (.slice none 0 0) (.slice none 0 0) V xs [] [] r bd := by
  have hb : Below wr.heap.size wr (wr.alloc (.cells #[.string ⟨f.toArray⟩, .slice none 0 0, .slice none 0 0] 64)) := (Below.refl _ _).alloc (Nat.le_refl _) _
  have h2 := h.below hb
  have hl := h.lt
  exact ⟨h2.rdr, h2.b0, h2.b1, hl, h2.res, h2.box, h.ans.keep fun b _ hb2 => hb.block b hb2, heap_alloc_new _ _, World.ownsRow_nil _ _ _ _, World.ownsRow_nil _ _ _ _, h2.fr, h2.top⟩
/-- A list of the value written anew. -/
theorem E2.step {w0 W wr w' : World} {B B0 B1 B2 : Nat} {id f : List UInt8} {va vt vn vt' vn' : Value} {V : List Vl} {xs : List Value} {tx tx' : List (List UInt8)} {nz nz' : List Int} {r : List UInt8} (h : E2 rb ro rc rs w0 W wr B B0 B1 B2 id f va vt vn V xs tx nz r bd)
    (hk : ∀ b, b < B2 → w'.heap[b]? = wr.heap[b]?) (hs : wr.heap.size ≤ w'.heap.size) (ho : w'.os = wr.os) (ht : w'.tape = wr.tape) (hu : w'.output = wr.output) (hv : w'.heap[B2]? = some (.cells #[.string ⟨f.toArray⟩, vt', vn'] 64))
    (h1 : w'.ownsRow (B2 + 1) 9 1 vt' tx'.length (tx'.map mkS)) (h2 : w'.ownsRow (B2 + 1) 3 1 vn' nz'.length (nz'.map mkI)) : E2 rb ro rc rs w0 W w' B B0 B1 B2 id f va vt' vn' V xs tx' nz' r bd := by
  have hl := h.lt
  have a0 := h.b0
  have a1 := h.b1
  have a2 := h.b2
  have hn := h.rdr.new
  refine ⟨h.rdr.keep (h.rdr.old.trans ⟨ho, ht, hu, hs, fun b hb => hk b (by omega)⟩) (hk _ (by omega)), h.b0, h.b1, h.b2, (hk _ (by omega)).trans h.res, (hk _ (by omega)).trans h.box, h.ans.keep fun b _ hb => hk b hb, hv, h1, h2, fun b hb hne => (hk b (by omega)).trans (h.fr b hb hne), h.top⟩
theorem E2.pushT {w0 W wr V' w6 : World} {B B0 B1 B2 g6 cp6 : Nat} {id f t : List UInt8} {va vt vn : Value} {V : List Vl} {xs : List Value} {tx : List (List UInt8)} {nz : List Int} {r : List UInt8} (h : E2 rb ro rc rs w0 W wr B B0 B1 B2 id f va vt vn V xs tx nz r bd) (hV : Below wr.heap.size wr V')
    (hown : w6.ownsRow (B2 + 1) 9 1 (.slice (some ⟨g6, 0, none⟩) (tx.length + 1) cp6) (tx.length + 1) (tx.map mkS ++ [mkS t])) (hg : V'.grownBy w6 vt.ownBlock) (hat : vt.ownBlock = some g6 ∨ g6 = V'.heap.size) :
    w6.heap[B2]? = some (.cells #[.string ⟨f.toArray⟩, vt, vn] 64) ∧ E2 rb ro rc rs w0 W (w6.setCell ⟨B2, 1, none⟩ (.slice (some ⟨g6, 0, none⟩) (tx.length + 1) cp6)) B B0 B1 B2 id f va (.slice (some ⟨g6, 0, none⟩) (tx.length + 1) cp6) vn V xs (tx ++ [t]) nz r bd := by
  have hl := h.lt
  have hVs := hV.size
  have hva : ∀ b, vt.ownBlock = some b → B2 + 1 ≤ b := fun b hb => (h.rt.lt b hb).1
  have hk : ∀ b, b ≤ B2 → w6.heap[b]? = wr.heap[b]? := fun b hb => by
    rw [hg.block b (by omega) (fun e => by have := hva b e.symm; omega), hV.block b (by omega)]
  have hbox := (hk B2 (Nat.le_refl _)).trans h.vbx
  have hg6 : g6 ≠ B2 := by
    rcases hat with e | e
    · have := hva g6 e; omega
    · omega
  refine ⟨hbox, h.step (fun b hb => (heap_set_other w6 B2 1 _ b (by omega)).trans (hk b (by omega))) (by simpa using Nat.le_trans hV.size hg.size) (by show w6.os = _; rw [hg.os, hV.os]) (by show w6.tape = _; rw [hg.tape, hV.tape]) (by show w6.output = _; rw [hg.output, hV.output]) (blk_setk hbox 1 _) ?_ ?_⟩
  · rw [List.length_append, List.map_append]
    exact own_congr hown fun b hb => heap_set_other w6 B2 1 _ b (by cases hb; exact hg6)
  · have hn1 : w6.ownsRow (B2 + 1) 3 1 vn nz.length (nz.map mkI) := by
      refine World.ownsRow.kept (own_keep h.rn fun b hb => hV.block b (h.rn.lt b hb).2) hg ?_
      exact own_tyne h.rn h.rt (by decide)
    exact own_keep hn1 fun b hb => heap_set_other w6 B2 1 _ b (by have := (hn1.lt b hb).1; omega)
theorem E2.pushN {w0 W wr V' w6 : World} {B B0 B1 B2 g6 cp6 : Nat} {id f : List UInt8} {z : Int} {va vt vn : Value} {V : List Vl} {xs : List Value} {tx : List (List UInt8)} {nz : List Int} {r : List UInt8} (h : E2 rb ro rc rs w0 W wr B B0 B1 B2 id f va vt vn V xs tx nz r bd) (hV : Below wr.heap.size wr V')
    (hown : w6.ownsRow (B2 + 1) 3 1 (.slice (some ⟨g6, 0, none⟩) (nz.length + 1) cp6) (nz.length + 1) (nz.map mkI ++ [mkI z])) (hg : V'.grownBy w6 vn.ownBlock) (hat : vn.ownBlock = some g6 ∨ g6 = V'.heap.size) :
    w6.heap[B2]? = some (.cells #[.string ⟨f.toArray⟩, vt, vn] 64) ∧ E2 rb ro rc rs w0 W (w6.setCell ⟨B2, 2, none⟩ (.slice (some ⟨g6, 0, none⟩) (nz.length + 1) cp6)) B B0 B1 B2 id f va vt (.slice (some ⟨g6, 0, none⟩) (nz.length + 1) cp6) V xs tx (nz ++ [z]) r bd := by
  have hl := h.lt
  have hVs := hV.size
  have hva : ∀ b, vn.ownBlock = some b → B2 + 1 ≤ b := fun b hb => (h.rn.lt b hb).1
  have hk : ∀ b, b ≤ B2 → w6.heap[b]? = wr.heap[b]? := fun b hb => by
    rw [hg.block b (by omega) (fun e => by have := hva b e.symm; omega), hV.block b (by omega)]
  have hbox := (hk B2 (Nat.le_refl _)).trans h.vbx
  have hg6 : g6 ≠ B2 := by
    rcases hat with e | e
    · have := hva g6 e; omega
    · omega
  refine ⟨hbox, h.step (fun b hb => (heap_set_other w6 B2 2 _ b (by omega)).trans (hk b (by omega))) (by simpa using Nat.le_trans hV.size hg.size) (by show w6.os = _; rw [hg.os, hV.os]) (by show w6.tape = _; rw [hg.tape, hV.tape]) (by show w6.output = _; rw [hg.output, hV.output]) (blk_setk hbox 2 _) ?_ ?_⟩
  · have hn1 : w6.ownsRow (B2 + 1) 9 1 vt tx.length (tx.map mkS) := by
      refine World.ownsRow.kept (own_keep h.rt fun b hb => hV.block b (h.rt.lt b hb).2) hg ?_
      exact own_tyne h.rt h.rn (by decide)
    exact own_keep hn1 fun b hb => heap_set_other w6 B2 2 _ b (by have := (hn1.lt b hb).1; omega)
  · rw [List.length_append, List.map_append]
    exact own_congr hown fun b hb => heap_set_other w6 B2 2 _ b (by cases hb; exact hg6)
/-- The value put behind the others. -/
theorem E2.close {w0 W wr V' w6 : World} {B B0 B1 B2 g6 cp6 : Nat} {id f : List UInt8} {va vt vn : Value} {V : List Vl} {xs : List Value} {tx : List (List UInt8)} {nz : List Int} {r : List UInt8} (h : E2 rb ro rc rs w0 W wr B B0 B1 B2 id f va vt vn V xs tx nz r bd) (hV : Below wr.heap.size wr V')
    (hown : w6.ownsRow (B1 + 1) 64 3 (.slice (some ⟨g6, 0, none⟩) (V.length + 1) cp6) (V.length + 1) (xs ++ [mkS f, vt, vn])) (hg : V'.grownBy w6 va.ownBlock) (hat : va.ownBlock = some g6 ∨ g6 = V'.heap.size) (hlt : g6 < w6.heap.size) :
    w6.heap[B1]? = some (.cells #[.string ⟨id.toArray⟩, va] 34) ∧ E1 rb ro rc rs w0 W (w6.setCell ⟨B1, 1, none⟩ (.slice (some ⟨g6, 0, none⟩) (V.length + 1) cp6)) B B0 B1 id (.slice (some ⟨g6, 0, none⟩) (V.length + 1) cp6) (V ++ [(f, tx, nz)]) (xs ++ [mkS f, vt, vn]) r bd := by
  have hl := h.lt
  have hVs := hV.size
  have hgs := hg.size
  have a0 := h.b0
  have a1 := h.b1
  have a2 := h.b2
  have hn := h.rdr.new
  have hva : ∀ b, va.ownBlock = some b → B1 + 1 ≤ b := fun b hb => (h.ans.row.lt b hb).1
  have hva2 : ∀ b, va.ownBlock = some b → b < B2 := h.ans.top
  have hk : ∀ b, b < wr.heap.size → va.ownBlock ≠ some b → w6.heap[b]? = wr.heap[b]? := fun b hb hne => by
    rw [hg.block b (by omega) (fun e => hne e.symm), hV.block b hb]
  have hbox := (hk B1 (by omega) (fun e => by have := hva B1 e; omega)).trans h.box
  have hg6 : g6 ≠ B1 := by
    rcases hat with e | e
    · have := hva g6 e; omega
    · omega
  have hset : ∀ b, b ≠ B1 → (w6.setCell ⟨B1, 1, none⟩ (.slice (some ⟨g6, 0, none⟩) (V.length + 1) cp6)).heap[b]? = w6.heap[b]? := fun b hb => heap_set_other w6 B1 1 _ b hb
  have hrow : ∀ b, b < wr.heap.size → b ≠ B1 → va.ownBlock ≠ some b → (w6.setCell ⟨B1, 1, none⟩ (.slice (some ⟨g6, 0, none⟩) (V.length + 1) cp6)).heap[b]? = wr.heap[b]? := fun b hb h1 h2 => (hset b h1).trans (hk b hb h2)
  have ht1 : (w6.setCell ⟨B1, 1, none⟩ (.slice (some ⟨g6, 0, none⟩) (V.length + 1) cp6)).ownsRow (B2 + 1) 9 1 vt tx.length (tx.map mkS) := own_keep h.rt fun b hb => hrow b (h.rt.lt b hb).2 (by have := (h.rt.lt b hb).1; omega) (fun e => by have := hva2 b e; have := (h.rt.lt b hb).1; omega)
  have ht2 : (w6.setCell ⟨B1, 1, none⟩ (.slice (some ⟨g6, 0, none⟩) (V.length + 1) cp6)).ownsRow (B2 + 1) 3 1 vn nz.length (nz.map mkI) := own_keep h.rn fun b hb => hrow b (h.rn.lt b hb).2 (by have := (h.rn.lt b hb).1; omega) (fun e => by have := hva2 b e; have := (h.rn.lt b hb).1; omega)
  have hw6 : (w6.setCell ⟨B1, 1, none⟩ (.slice (some ⟨g6, 0, none⟩) (V.length + 1) cp6)).heap.size = w6.heap.size := by simp
  refine ⟨hbox, h.rdr.keep (h.rdr.old.trans ⟨by show w6.os = _; rw [hg.os, hV.os], by show w6.tape = _; rw [hg.tape, hV.tape], by show w6.output = _; rw [hg.output, hV.output], by rw [hw6]; omega, fun b hb => hrow b (by omega) (by omega) (fun e => by have := hva b e; omega)⟩) (hrow _ (by omega) (by omega) (fun e => by have := hva _ e; omega)), h.b0, h.b1, (hrow _ (by omega) (by omega) (fun e => by have := hva _ e; omega)).trans h.res, blk_setk hbox 1 _, ?_, fun b hb hne => (hrow b (by omega) (by omega) (fun e => by have := hva b e; omega)).trans (h.fr b hb hne), h.top⟩
  refine h.ans.snoc (lo2 := B2 + 1) (v := (f, tx, nz)) (by omega) (by omega) (own_congr hown fun b hb => hset b (by cases hb; exact hg6)) (fun b hb => by cases hb; rw [hw6]; exact hlt) ht1 ht2 (fun b hb => ?_) (by rw [hw6]; omega) (fun b j hj hlie => ?_)
  · rcases hb with hb | hb
    · exact (ht1.lt b hb).2
    · exact (ht2.lt b hb).2
  · have q := h.ans.lie j b hj hlie
    refine hrow b (by omega) (by omega) (fun e => ?_)
    obtain ⟨u, hu, hub⟩ := hlie
    obtain ⟨ut, un, p0, p1, p2, p3, p4⟩ := h.ans.val j hj
    rw [p1, p2] at hu
    simp only [Option.some.injEq] at hu
    rcases hu with rfl | rfl
    · rcases own_tyne h.ans.row p3 (by decide) with e2 | e2
      · rw [e2] at e; cases e
      · exact e2 (e.trans hub.symm)
    · rcases own_tyne h.ans.row p4 (by decide) with e2 | e2
      · rw [e2] at e; cases e
      · exact e2 (e.trans hub.symm)
end Go.Proofs.YtefhmbnhhkgifaaDoor
