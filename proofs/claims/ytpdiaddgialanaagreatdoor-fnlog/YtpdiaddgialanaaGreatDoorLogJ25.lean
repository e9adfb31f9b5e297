import Derived.Test.YtpdiaddgialanaaGreatDoorLogJ24
namespace Go.Proofs.YtpdiaddgialanaaGreatDoor
open Go Go.RowKit
set_option linter.unusedVariables false
set_option maxRecDepth 100000

/-- The reader of a document behind some values. -/
structure D1 (w0 W wr : World) (B B0 B1 : Nat) (id : List UInt8) (va : Value) (V : List Vl) (xs : List Value) (r : List UInt8) : Prop where
  rdr : RdrAt w0 wr B r false
  b0 : B < B0
  b1 : B0 < B1
  res : wr.heap[B0]? = some (.cells #[.string ⟨#[]⟩, .slice none 0 0] 26)
  box : wr.heap[B1]? = some (.cells #[.string ⟨id.toArray⟩, va] 26)
  ans : AnsV wr (B1 + 1) wr.heap.size va V xs
  fr : ∀ b, b < B0 → b ≠ B → wr.heap[b]? = W.heap[b]?
  top : W.heap.size ≤ B0
/-- And within one. -/
structure D2 (w0 W wr : World) (B B0 B1 B2 : Nat) (id f : List UInt8) (va vt vn : Value) (V : List Vl) (xs : List Value) (tx : List (List UInt8)) (nz : List Int) (r : List UInt8) : Prop where
  rdr : RdrAt w0 wr B r false
  b0 : B < B0
  b1 : B0 < B1
  b2 : B1 < B2
  res : wr.heap[B0]? = some (.cells #[.string ⟨#[]⟩, .slice none 0 0] 26)
  box : wr.heap[B1]? = some (.cells #[.string ⟨id.toArray⟩, va] 26)
  ans : AnsV wr (B1 + 1) B2 va V xs
  vbx : wr.heap[B2]? = some (.cells #[.string ⟨f.toArray⟩, vt, vn] 88)
  rt : wr.ownsRow (B2 + 1) 9 1 vt tx.length (tx.map mkS)
  rn : wr.ownsRow (B2 + 1) 3 1 vn nz.length (nz.map mkI)
  fr : ∀ b, b < B0 → b ≠ B → wr.heap[b]? = W.heap[b]?
  top : W.heap.size ≤ B0
theorem D1.lt {w0 W wr : World} {B B0 B1 : Nat} {id : List UInt8} {va : Value} {V : List Vl} {xs : List Value} {r : List UInt8} (h : D1 w0 W wr B B0 B1 id va V xs r) : B1 < wr.heap.size := (Array.getElem?_eq_some_iff.1 h.box).1
theorem D2.lt {w0 W wr : World} {B B0 B1 B2 : Nat} {id f : List UInt8} {va vt vn : Value} {V : List Vl} {xs : List Value} {tx : List (List UInt8)} {nz : List Int} {r : List UInt8} (h : D2 w0 W wr B B0 B1 B2 id f va vt vn V xs tx nz r) : B2 < wr.heap.size := (Array.getElem?_eq_some_iff.1 h.vbx).1
theorem D1.call {w0 W wr W' : World} {B B0 B1 : Nat} {id : List UInt8} {va : Value} {V : List Vl} {xs : List Value} {r r' : List UInt8} (h : D1 w0 W wr B B0 B1 id va V xs r) (hr : RdrAt w0 W' B r' false) (hf : RdFr B wr W') : D1 w0 W W' B B0 B1 id va V xs r' := by
  have hl := h.lt
  have a0 := h.b0
  have a1 := h.b1
  exact ⟨hr, h.b0, h.b1, (hf.2 _ (by omega) (by omega)).trans h.res, (hf.2 _ hl (by omega)).trans h.box, (h.ans.keep fun b h1 h2 => hf.2 b h2 (by omega)).mono hf.1, fun b hb hne => (hf.2 b (by omega) hne).trans (h.fr b hb hne), h.top⟩
theorem D2.call {w0 W wr W' : World} {B B0 B1 B2 : Nat} {id f : List UInt8} {va vt vn : Value} {V : List Vl} {xs : List Value} {tx : List (List UInt8)} {nz : List Int} {r r' : List UInt8} (h : D2 w0 W wr B B0 B1 B2 id f va vt vn V xs tx nz r) (hr : RdrAt w0 W' B r' false) (hf : RdFr B wr W') : D2 w0 W W' B B0 B1 B2 id f va vt vn V xs tx nz r' := by
  have hl := h.lt
  have a0 := h.b0
  have a1 := h.b1
  have a2 := h.b2
  exact ⟨hr, h.b0, h.b1, h.b2, (hf.2 _ (by omega) (by omega)).trans h.res, (hf.2 _ (by omega) (by omega)).trans h.box, h.ans.keep fun b h1 h2 => hf.2 b (by omega) (by omega), (hf.2 _ hl (by omega)).trans h.vbx, own_keep h.rt fun b hb => hf.2 b (h.rt.lt b hb).2 (by have := (h.rt.lt b hb).1; omega), own_keep h.rn fun b hb => hf.2 b (h.rn.lt b hb).2 (by have := (h.rn.lt b hb).1; omega), fun b hb hne => (hf.2 b (by omega) hne).trans (h.fr b hb hne), h.top⟩
theorem D1.below {w0 W wr W' : World} {B B0 B1 : Nat} {id : List UInt8} {va : Value} {V : List Vl} {xs : List Value} {r : List UInt8} (h : D1 w0 W wr B B0 B1 id va V xs r) (hb : Below wr.heap.size wr W') : D1 w0 W W' B B0 B1 id va V xs r := h.call (h.rdr.below hb) ⟨hb.size, fun b hl _ => hb.block b hl⟩
theorem D2.below {w0 W wr W' : World} {B B0 B1 B2 : Nat} {id f : List UInt8} {va vt vn : Value} {V : List Vl} {xs : List Value} {tx : List (List UInt8)} {nz : List Int} {r : List UInt8} (h : D2 w0 W wr B B0 B1 B2 id f va vt vn V xs tx nz r) (hb : Below wr.heap.size wr W') : D2 w0 W W' B B0 B1 B2 id f va vt vn V xs tx nz r := h.call (h.rdr.below hb) ⟨hb.size, fun b hl _ => hb.block b hl⟩
/-- A new value's box. -/
theorem D1.open {w0 W wr : World} {B B0 B1 : Nat} {id f : List UInt8} {va : Value} {V : List Vl} {xs : List Value} {r : List UInt8} (h : D1 w0 W wr B B0 B1 id va V xs r) : D2 w0 W (wr.alloc (.cells #[.string ⟨f.toArray⟩, .slice none 0 0, .slice none 0 0] 88)) B B0 B1 wr.heap.size id f va (.slice none 0 0) (.slice none 0 0) V xs [] [] r := by
  have hb : Below wr.heap.size wr (wr.alloc (.cells #[.string ⟨f.toArray⟩, .slice none 0 0, .slice none 0 0] 88)) := (Below.refl _ _).alloc (Nat.le_refl _) _
  have h2 := h.below hb
  have hl := h.lt
  exact ⟨h2.rdr, h2.b0, h2.b1, hl, h2.res, h2.box, h.ans.keep fun b _ hb2 => hb.block b hb2, heap_alloc_new _ _, World.ownsRow_nil _ _ _ _, World.ownsRow_nil _ _ _ _, h2.fr, h2.top⟩
/-- A list of the value written anew. -/
theorem D2.step {w0 W wr w' : World} {B B0 B1 B2 : Nat} {id f : List UInt8} {va vt vn vt' vn' : Value} {V : List Vl} {xs : List Value} {tx tx' : List (List UInt8)} {nz nz' : List Int} {r : List UInt8} (h : D2 w0 W wr B B0 B1 B2 id f va vt vn V xs tx nz r)
    (hk : ∀ b, b < B2 → w'.heap[b]? = wr.heap[b]?) (hs : wr.heap.size ≤ w'.heap.size) (ho : w'.os = wr.os) (ht : w'.tape = wr.tape) (hu : w'.output = wr.output) (hv : w'.heap[B2]? = some (.cells #[.string ⟨f.toArray⟩, vt', vn'] 88))
    (h1 : w'.ownsRow (B2 + 1) 9 1 vt' tx'.length (tx'.map mkS)) (h2 : w'.ownsRow (B2 + 1) 3 1 vn' nz'.length (nz'.map mkI)) : D2 w0 W w' B B0 B1 B2 id f va vt' vn' V xs tx' nz' r := by
  have hl := h.lt
  have a0 := h.b0
  have a1 := h.b1
  have a2 := h.b2
  have hn := h.rdr.new
  refine ⟨h.rdr.keep (h.rdr.old.trans ⟨ho, ht, hu, hs, fun b hb => hk b (by omega)⟩) (hk _ (by omega)), h.b0, h.b1, h.b2, (hk _ (by omega)).trans h.res, (hk _ (by omega)).trans h.box, h.ans.keep fun b _ hb => hk b hb, hv, h1, h2, fun b hb hne => (hk b (by omega)).trans (h.fr b hb hne), h.top⟩
theorem D2.pushT {w0 W wr V' w6 : World} {B B0 B1 B2 g6 cp6 : Nat} {id f t : List UInt8} {va vt vn : Value} {V : List Vl} {xs : List Value} {tx : List (List UInt8)} {nz : List Int} {r : List UInt8} (h : D2 w0 W wr B B0 B1 B2 id f va vt vn V xs tx nz r) (hV : Below wr.heap.size wr V')
    (hown : w6.ownsRow (B2 + 1) 9 1 (.slice (some ⟨g6, 0, none⟩) (tx.length + 1) cp6) (tx.length + 1) (tx.map mkS ++ [mkS t])) (hg : V'.grownBy w6 vt.ownBlock) (hat : vt.ownBlock = some g6 ∨ g6 = V'.heap.size) :
    w6.heap[B2]? = some (.cells #[.string ⟨f.toArray⟩, vt, vn] 88) ∧ D2 w0 W (w6.setCell ⟨B2, 1, none⟩ (.slice (some ⟨g6, 0, none⟩) (tx.length + 1) cp6)) B B0 B1 B2 id f va (.slice (some ⟨g6, 0, none⟩) (tx.length + 1) cp6) vn V xs (tx ++ [t]) nz r := by
  have hl := h.lt
  have hVs := hV.size
  have hva : ∀ b, vt.ownBlock = some b → B2 + 1 ≤ b := fun b hb => (h.rt.lt b hb).1
  have hk : ∀ b, b ≤ B2 → w6.heap[b]? = wr.heap[b]? := fun b hb => by
    rw [hg.block b (by omega) (fun e => by have := hva b e.symm; omega), hV.block b (by omega)]
  have hbox := (hk B2 (Nat.le_refl _)).trans h.vbx
  have hg6 : g6 ≠ B2 := by
    rcases hat with e | e
    · have := hva g6 e; omega
    · omega
  refine ⟨hbox, h.step (fun b hb => (heap_set_other w6 B2 1 _ b (by omega)).trans (hk b (by omega))) (by simpa using Nat.le_trans hV.size hg.size) (by show w6.os = _; rw [hg.os, hV.os]) (by show w6.tape = _; rw [hg.tape, hV.tape]) (by show w6.output = _; rw [hg.output, hV.output]) (blk_setk hbox 1 _) ?_ ?_⟩
  · rw [List.length_append, List.map_append]
    exact own_congr hown fun b hb => heap_set_other w6 B2 1 _ b (by cases hb; exact hg6)
  · have hn1 : w6.ownsRow (B2 + 1) 3 1 vn nz.length (nz.map mkI) := by
      refine World.ownsRow.kept (own_keep h.rn fun b hb => hV.block b (h.rn.lt b hb).2) hg ?_
      exact own_tyne h.rn h.rt (by decide)
    exact own_keep hn1 fun b hb => heap_set_other w6 B2 1 _ b (by have := (hn1.lt b hb).1; omega)
theorem D2.pushN {w0 W wr V' w6 : World} {B B0 B1 B2 g6 cp6 : Nat} {id f : List UInt8} {z : Int} {va vt vn : Value} {V : List Vl} {xs : List Value} {tx : List (List UInt8)} {nz : List Int} {r : List UInt8} (h : D2 w0 W wr B B0 B1 B2 id f va vt vn V xs tx nz r) (hV : Below wr.heap.size wr V')
    (hown : w6.ownsRow (B2 + 1) 3 1 (.slice (some ⟨g6, 0, none⟩) (nz.length + 1) cp6) (nz.length + 1) (nz.map mkI ++ [mkI z])) (hg : V'.grownBy w6 vn.ownBlock) (hat : vn.ownBlock = some g6 ∨ g6 = V'.heap.size) :
    w6.heap[B2]? = some (.cells #[.string ⟨f.toArray⟩, vt, vn] 88) ∧ D2 w0 W (w6.setCell ⟨B2, 2, none⟩ (.slice (some ⟨g6, 0, none⟩) (nz.length + 1) cp6)) B B0 B1 B2 id f va vt (.slice (some ⟨g6, 0, none⟩) (nz.length + 1) cp6) V xs tx (nz ++ [z]) r := by
  have hl := h.lt
  have hVs := hV.size
  have hva : ∀ b, vn.ownBlock = some b → B2 + 1 ≤ b := fun b hb => (h.rn.lt b hb).1
  have hk : ∀ b, b ≤ B2 → w6.heap[b]? = wr.heap[b]? := fun b hb => by
    rw [hg.block b (by omega) (fun e => by have := hva b e.symm; omega), hV.block b (by omega)]
  have hbox := (hk B2 (Nat.le_refl _)).trans h.vbx
  have hg6 : g6 ≠ B2 := by
    rcases hat with e | e
    · have := hva g6 e; omega
    · omega
  refine ⟨hbox, h.step (fun b hb => (heap_set_other w6 B2 2 _ b (by omega)).trans (hk b (by omega))) (by simpa using Nat.le_trans hV.size hg.size) (by show w6.os = _; rw [hg.os, hV.os]) (by show w6.tape = _; rw [hg.tape, hV.tape]) (by show w6.output = _; rw [hg.output, hV.output]) (blk_setk hbox 2 _) ?_ ?_⟩
  · have hn1 : w6.ownsRow (B2 + 1) 9 1 vt tx.length (tx.map mkS) := by
      refine World.ownsRow.kept (own_keep h.rt fun b hb => hV.block b (h.rt.lt b hb).2) hg ?_
      exact own_tyne h.rt h.rn (by decide)
    exact own_keep hn1 fun b hb => heap_set_other w6 B2 2 _ b (by have := (hn1.lt b hb).1; omega)
  · rw [List.length_append, List.map_append]
    exact own_congr hown fun b hb => heap_set_other w6 B2 2 _ b (by cases hb; exact hg6)
/-- The value put behind the others. -/
theorem D2.close {w0 W wr V' w6 : World} {B B0 B1 B2 g6 cp6 : Nat} {id f : List UInt8} {va vt vn : Value} {V : List Vl} {xs : List Value} {tx : List (List UInt8)} {nz : List Int} {r : List UInt8} (h : D2 w0 W wr B B0 B1 B2 id f va vt vn V xs tx nz r) (hV : Below wr.heap.size wr V')
    (hown : w6.ownsRow (B1 + 1) 88 3 (.slice (some ⟨g6, 0, none⟩) (V.length + 1) cp6) (V.length + 1) (xs ++ [mkS f, vt, vn])) (hg : V'.grownBy w6 va.ownBlock) (hat : va.ownBlock = some g6 ∨ g6 = V'.heap.size) (hlt : g6 < w6.heap.size) :
    w6.heap[B1]? = some (.cells #[.string ⟨id.toArray⟩, va] 26) ∧ D1 w0 W (w6.setCell ⟨B1, 1, none⟩ (.slice (some ⟨g6, 0, none⟩) (V.length + 1) cp6)) B B0 B1 id (.slice (some ⟨g6, 0, none⟩) (V.length + 1) cp6) (V ++ [(f, tx, nz)]) (xs ++ [mkS f, vt, vn]) r := by
  have hl := h.lt
  have hVs := hV.size
  have hgs := hg.size
  have a0 := h.b0
  have a1 := h.b1
  have a2 := h.b2
  have hn := h.rdr.new
  have hva : ∀ b, va.ownBlock = some b → B1 + 1 ≤ b := fun b hb => (h.ans.row.lt b hb).1
  have hva2 : ∀ b, va.ownBlock = some b → b < B2 := h.ans.top
  have hk : ∀ b, b < wr.heap.size → va.ownBlock ≠ some b → w6.heap[b]? = wr.heap[b]? := fun b hb hne => by
    rw [hg.block b (by omega) (fun e => hne e.symm), hV.block b hb]
  have hbox := (hk B1 (by omega) (fun e => by have := hva B1 e; omega)).trans h.box
  have hg6 : g6 ≠ B1 := by
    rcases hat with e | e
    · have := hva g6 e; omega
    · omega
  have hset : ∀ b, b ≠ B1 → (w6.setCell ⟨B1, 1, none⟩ (.slice (some ⟨g6, 0, none⟩) (V.length + 1) cp6)).heap[b]? = w6.heap[b]? := fun b hb => heap_set_other w6 B1 1 _ b hb
  have hrow : ∀ b, b < wr.heap.size → b ≠ B1 → va.ownBlock ≠ some b → (w6.setCell ⟨B1, 1, none⟩ (.slice (some ⟨g6, 0, none⟩) (V.length + 1) cp6)).heap[b]? = wr.heap[b]? := fun b hb h1 h2 => (hset b h1).trans (hk b hb h2)
  have ht1 : (w6.setCell ⟨B1, 1, none⟩ (.slice (some ⟨g6, 0, none⟩) (V.length + 1) cp6)).ownsRow (B2 + 1) 9 1 vt tx.length (tx.map mkS) := own_keep h.rt fun b hb => hrow b (h.rt.lt b hb).2 (by have := (h.rt.lt b hb).1; omega) (fun e => by have := hva2 b e; have := (h.rt.lt b hb).1; omega)
  have ht2 : (w6.setCell ⟨B1, 1, none⟩ (.slice (some ⟨g6, 0, none⟩) (V.length + 1) cp6)).ownsRow (B2 + 1) 3 1 vn nz.length (nz.map mkI) := own_keep h.rn fun b hb => hrow b (h.rn.lt b hb).2 (by have := (h.rn.lt b hb).1; omega) (fun e => by have := hva2 b e; have := (h.rn.lt b hb).1; omega)
  have hw6 : (w6.setCell ⟨B1, 1, none⟩ (.slice (some ⟨g6, 0, none⟩) (V.length + 1) cp6)).heap.size = w6.heap.size := by simp
  refine ⟨hbox, h.rdr.keep (h.rdr.old.trans ⟨by show w6.os = _; rw [hg.os, hV.os], by show w6.tape = _; rw [hg.tape, hV.tape], by show w6.output = _; rw [hg.output, hV.output], by rw [hw6]; omega, fun b hb => hrow b (by omega) (by omega) (fun e => by have := hva b e; omega)⟩) (hrow _ (by omega) (by omega) (fun e => by have := hva _ e; omega)), h.b0, h.b1, (hrow _ (by omega) (by omega) (fun e => by have := hva _ e; omega)).trans h.res, blk_setk hbox 1 _, ?_, fun b hb hne => (hrow b (by omega) (by omega) (fun e => by have := hva b e; omega)).trans (h.fr b hb hne), h.top⟩
  refine h.ans.snoc (lo2 := B2 + 1) (v := (f, tx, nz)) (by omega) (by omega) (own_congr hown fun b hb => hset b (by cases hb; exact hg6)) (fun b hb => by cases hb; rw [hw6]; exact hlt) ht1 ht2 (fun b hb => ?_) (by rw [hw6]; omega) (fun b j hj hlie => ?_)
  · rcases hb with hb | hb
    · exact (ht1.lt b hb).2
    · exact (ht2.lt b hb).2
  · have q := h.ans.lie j b hj hlie
    refine hrow b (by omega) (by omega) (fun e => ?_)
    obtain ⟨u, hu, hub⟩ := hlie
    obtain ⟨ut, un, p0, p1, p2, p3, p4⟩ := h.ans.val j hj
    rw [p1, p2] at hu
    simp only [Option.some.injEq] at hu
    rcases hu with rfl | rfl
    · rcases own_tyne h.ans.row p3 (by decide) with e2 | e2
      · rw [e2] at e; cases e
      · exact e2 (e.trans hub.symm)
    · rcases own_tyne h.ans.row p4 (by decide) with e2 | e2
      · rw [e2] at e; cases e
      · exact e2 (e.trans hub.symm)
end Go.Proofs.YtpdiaddgialanaaGreatDoor

namespace Go.Proofs.YtpdiaddgialanaaGreatDoor
open Go Go.RowKit
set_option linter.unusedVariables false
set_option maxRecDepth 100000

/-- What was read so far, and what is still to be read. -/
def glD (id : List UInt8) (V : List Vl) (o : Option (List Vl × List UInt8)) : Option (Dc × List UInt8) := o.map fun p => ((id, V ++ p.1), p.2)
def apT (tx : List (List UInt8)) (o : Option (List (List UInt8) × List UInt8)) : Option (List (List UInt8) × List UInt8) := o.map fun p => (tx ++ p.1, p.2)
def apN (nz : List Int) (o : Option (List Int × List UInt8)) : Option (List Int × List UInt8) := o.map fun p => (nz ++ p.1, p.2)
def contN (f : List UInt8) (tx : List (List UInt8)) (o : Option (List Int × List UInt8)) : Option (Vl × List UInt8) := o.map fun p => ((f, tx, p.1), p.2)
def contV (f : List UInt8) (o : Option (List (List UInt8) × List UInt8)) : Option (Vl × List UInt8) := match o with
  | none => none
  | some (tx, r3) => match rdN 4096 r3 with
    | none => none
    | some (m, r4) => contN f tx (rdZs m r4)
theorem rdV_cont {bs f r1 r2 : List UInt8} {n : Nat} (h1 : rdT bs = some (f, r1)) (h2 : rdN 4096 r1 = some (n, r2)) : rdV bs = contV f (rdTs n r2) := by
  unfold rdV contV
  rw [h1]
  simp only
  rw [h2]
  simp only
  cases rdTs n r2 with
  | none => rfl
  | some p =>
    obtain ⟨tx, r3⟩ := p
    simp only
    cases rdN 4096 r3 with
    | none => rfl
    | some q =>
      obtain ⟨m, r4⟩ := q
      simp only [contN]
      cases rdZs m r4 with
      | none => rfl
      | some x => obtain ⟨zs, r5⟩ := x; rfl
theorem rdV_no1 {bs : List UInt8} (h1 : rdT bs = none) : rdV bs = none := by unfold rdV; rw [h1]
theorem rdV_no2 {bs f r1 : List UInt8} (h1 : rdT bs = some (f, r1)) (h2 : rdN 4096 r1 = none) : rdV bs = none := by unfold rdV; rw [h1]; simp only; rw [h2]
theorem rdD_glD {bs id r1 r2 : List UInt8} {n : Nat} (h1 : rdT bs = some (id, r1)) (h2 : rdN 4096 r1 = some (n, r2)) : rdD bs = glD id [] (rdVs n r2) := by
  unfold rdD glD
  rw [h1]
  simp only
  rw [h2]
  simp only
  cases rdVs n r2 with
  | none => rfl
  | some p => rfl
theorem rdD_no1 {bs : List UInt8} (h1 : rdT bs = none) : rdD bs = none := by unfold rdD; rw [h1]
theorem rdD_no2 {bs id r1 : List UInt8} (h1 : rdT bs = some (id, r1)) (h2 : rdN 4096 r1 = none) : rdD bs = none := by unfold rdD; rw [h1]; simp only; rw [h2]
theorem glD_step {id : List UInt8} {V : List Vl} {k : Nat} {r r' : List UInt8} {v : Vl} (h : rdV r = some (v, r')) : glD id V (rdVs (k + 1) r) = glD id (V ++ [v]) (rdVs k r') := by
  unfold glD
  rw [rdVs, h]
  simp only
  cases rdVs k r' with
  | none => rfl
  | some p => simp
theorem glD_no {id : List UInt8} {V : List Vl} {k : Nat} {r : List UInt8} (h : rdV r = none) : glD id V (rdVs (k + 1) r) = none := by unfold glD; rw [rdVs, h]; rfl
theorem glD_end {id : List UInt8} {V : List Vl} {r : List UInt8} : glD id V (rdVs 0 r) = some ((id, V), r) := by unfold glD; rw [rdVs]; simp
theorem apT_step {tx : List (List UInt8)} {k : Nat} {r r' t : List UInt8} (h : rdT r = some (t, r')) : apT tx (rdTs (k + 1) r) = apT (tx ++ [t]) (rdTs k r') := by
  unfold apT
  rw [rdTs, h]
  simp only
  cases rdTs k r' with
  | none => rfl
  | some p => simp
theorem apT_no {tx : List (List UInt8)} {k : Nat} {r : List UInt8} (h : rdT r = none) : apT tx (rdTs (k + 1) r) = none := by unfold apT; rw [rdTs, h]; rfl
theorem apT_end {tx : List (List UInt8)} {r : List UInt8} : apT tx (rdTs 0 r) = some (tx, r) := by unfold apT; rw [rdTs]; simp
theorem apT_nil {o : Option (List (List UInt8) × List UInt8)} : apT [] o = o := by unfold apT; cases o <;> simp
theorem apN_step {nz : List Int} {k v : Nat} {r r' : List UInt8} (h : rdN 2000000000000 r = some (v, r')) : apN nz (rdZs (k + 1) r) = apN (nz ++ [sgn v]) (rdZs k r') := by
  unfold apN
  rw [rdZs, h]
  simp only
  cases rdZs k r' with
  | none => rfl
  | some p => simp
theorem apN_no {nz : List Int} {k : Nat} {r : List UInt8} (h : rdN 2000000000000 r = none) : apN nz (rdZs (k + 1) r) = none := by unfold apN; rw [rdZs, h]; rfl
theorem apN_end {nz : List Int} {r : List UInt8} : apN nz (rdZs 0 r) = some (nz, r) := by unfold apN; rw [rdZs]; simp
theorem apN_nil {o : Option (List Int × List UInt8)} : apN [] o = o := by unfold apN; cases o <;> simp
theorem contV_some {f r3 r4 : List UInt8} {tx : List (List UInt8)} {m : Nat} (h : rdN 4096 r3 = some (m, r4)) : contV f (some (tx, r3)) = contN f tx (rdZs m r4) := by unfold contV; simp only; rw [h]
theorem contV_no {f r3 : List UInt8} {tx : List (List UInt8)} (h : rdN 4096 r3 = none) : contV f (some (tx, r3)) = none := by unfold contV; simp only; rw [h]
theorem own_formR {w : World} {base e sz n : Nat} {v : Value} {xs : List Value} (h : w.ownsRow base e sz v n xs) : ∃ a c, v = .slice a n c := by
  rcases h.2 with ⟨rfl, rfl⟩ | ⟨g, cap, cur, rfl, _⟩
  · exact ⟨none, 0, rfl⟩
  · exact ⟨_, cap, rfl⟩
theorem vOnR {wb V w6 : World} {row : Option Nat} (h : V.grownBy w6 row) (hb : Below wb.heap.size wb V) : Hid (Below wb.heap.size wb V) := hidd hb
theorem dbx_callR1 (W : World) (a : Act) (o : Oper) (f : FuncId) (x : Operand) (t : TypeId) (ho : o.op = .call { callee := .value (.func f), args := #[x], argTypes := #[t] }) (v : Value) (hx : a.eval x = v)
    (hf : (callFunc f #[v]).run Tryz.prog W = .ok (.enter f #[v]) W) : (execOp a.eval o).run Tryz.prog W = .ok (.enter f #[v]) W := by
  have hfn : a.eval (.func f) = .func (.func f) #[] #[] := rfl
  unfold execOp
  simp [ho, resolve, invoke, Deferred.ofValue, hfn, hx, hf]
theorem dbx_callR2 (W : World) (a : Act) (o : Oper) (f : FuncId) (x y : Operand) (t u : TypeId) (ho : o.op = .call { callee := .value (.func f), args := #[x, y], argTypes := #[t, u] }) (v z : Value) (hx : a.eval x = v) (hy : a.eval y = z)
    (hf : (callFunc f #[v, z]).run Tryz.prog W = .ok (.enter f #[v, z]) W) : (execOp a.eval o).run Tryz.prog W = .ok (.enter f #[v, z]) W := by
  have hfn : a.eval (.func f) = .func (.func f) #[] #[] := rfl
  unfold execOp
  simp [ho, resolve, invoke, Deferred.ofValue, hfn, hx, hy, hf]
/-- A call within a region that draws its order. -/
theorem step_callR1 {ops : Array Oper} {o : Oper} {a : Act} {w : World} {K : Act → World → Prop} {Q : Exit → Act → World → Prop} {E : Prop} (hgd : o.guard = none) (f : FuncId) (x : Operand) (t : TypeId) (ho : o.op = .call { callee := .value (.func f), args := #[x], argTypes := #[t] })
    (v : Value) (hx : a.eval x = v) (hf : (callFunc f #[v]).run Tryz.prog w = .ok (.enter f #[v]) w) (R : Value → World → Prop) (hc : Calls Tryz.prog f #[v] w fun e w' => ∃ r, e = .returned r ∧ R r w') (h : ∀ r w', R r w' → K (a.put o.dst r) w') :
    if Region.wanted o (yielded ops a.tmps) = true then Oper.wp Tryz.prog o a w K Q else E := by
  rw [if_pos (by simp [Region.wanted, hgd])]
  simp only [Oper.wp, dbx_callR1 w a o f x t ho v hx hf, Oper.upon]
  refine hc.mono ?_
  rintro e w' ⟨r, rfl, hr⟩
  exact h r w' hr
theorem step_callR2 {ops : Array Oper} {o : Oper} {a : Act} {w : World} {K : Act → World → Prop} {Q : Exit → Act → World → Prop} {E : Prop} (hgd : o.guard = none) (f : FuncId) (x y : Operand) (t u : TypeId) (ho : o.op = .call { callee := .value (.func f), args := #[x, y], argTypes := #[t, u] })
    (v z : Value) (hx : a.eval x = v) (hy : a.eval y = z) (hf : (callFunc f #[v, z]).run Tryz.prog w = .ok (.enter f #[v, z]) w) (R : Value → World → Prop) (hc : Calls Tryz.prog f #[v, z] w fun e w' => ∃ r, e = .returned r ∧ R r w') (h : ∀ r w', R r w' → K (a.put o.dst r) w') :
    if Region.wanted o (yielded ops a.tmps) = true then Oper.wp Tryz.prog o a w K Q else E := by
  rw [if_pos (by simp [Region.wanted, hgd])]
  simp only [Oper.wp, dbx_callR2 w a o f x y t u ho v z hx hy hf, Oper.upon]
  refine hc.mono ?_
  rintro e w' ⟨r, rfl, hr⟩
  exact h r w' hr
theorem Tryz.infoStrR : (Tryz.prog.info? 9).map (fun i => (i.zero, i.size, i.bytes)) = some (some (.string ⟨#[]⟩), 1, 16) := by kernel_rfl
theorem Tryz.infoIntR : (Tryz.prog.info? 3).map (fun i => (i.zero, i.size, i.bytes)) = some (some (.int .i64 0), 1, 8) := by kernel_rfl
theorem Tryz.infoValR : (Tryz.prog.info? 88).map (fun i => (i.zero, i.size, i.bytes)) = some (some (.agg #[.string ⟨#[]⟩, .slice none 0 0, .slice none 0 0]), 3, 64) := by kernel_rfl
/-- What doc comes to. -/
def DocPost (u : TypeId) (pv : Value) (w0 W : World) (B : Nat) (bs : List UInt8) (e : Ending) (w' : World) : Prop :=
  (∃ id V va xs r lo, rdD bs = some ((id, V), r) ∧ e = .returned (.agg #[.string ⟨id.toArray⟩, va]) ∧ W.heap.size ≤ lo ∧ AnsV w' lo w'.heap.size va V xs ∧ RdrAt w0 w' B r false ∧ RdFr B W w') ∨ (rdD bs = none ∧ Cut u pv w0 W B e w')
end Go.Proofs.YtpdiaddgialanaaGreatDoor
