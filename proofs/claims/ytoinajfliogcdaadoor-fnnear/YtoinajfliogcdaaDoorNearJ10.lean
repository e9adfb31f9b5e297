import Derived.Test.YtoinajfliogcdaaDoorNearJ05
import Derived.Maps.Keyed
import Derived.DeepKeys4
import Derived.Carry
namespace Go.Proofs.YtoinajfliogcdaaDoor
open Go Go.RowKit
set_option linter.unusedVariables false
set_option linter.unusedSectionVars false
set_option maxRecDepth 100000

structure KeyT (X : Type) where
 kt : TypeId
 mt : TypeId
 bt : TypeId
 size : Nat
 enc : X → Value
 cells : X → Array Value
 ok : X → Prop
structure KeyT.Ok {X : Type} (K : KeyT X) : Prop where
 under : Tryd.prog.underlying K.mt = some (.map K.kt 3)
 keyed : Maps.Keyed Tryd.prog K.kt
 key : ∀ x, K.ok x → ∃ kl, keyOf Tryd.prog K.kt (K.enc x) = some kl
 inj : ∀ x y, K.enc x = K.enc y → x = y
section
variable {X : Type} [DecidableEq X] {K : KeyT X}
def MapK (K : KeyT X) (w : World) (mb : Nat) (L : List X) : Prop := ∃ es clock, w.heap[mb]? = some (.map es clock) ∧ es.toList.map (fun e => (e.key, e.val)) = L.mapIdx fun (j : Nat) l => (K.enc l, Value.int .i64 (j : Int))
theorem MapK.keep {w w' : World} {mb : Nat} {L : List X} (h : MapK K w mb L) (hb : w'.heap[mb]? = w.heap[mb]?) : MapK K w' mb L := by
 obtain ⟨es, clock, h1, h2⟩ := h
 exact ⟨es, clock, hb.trans h1, h2⟩
theorem MapK.lt {w : World} {mb : Nat} {L : List X} (h : MapK K w mb L) : mb < w.heap.size := by
 obtain ⟨es, clock, h1, _⟩ := h
 exact (Array.getElem?_eq_some_iff.1 h1).1
theorem mapK_new (w : World) : MapK K (w.alloc (.map #[] 0)) w.heap.size [] := ⟨#[], 0, heap_alloc_new w _, rfl⟩
theorem MapK.find (hK : K.Ok) {w : World} {mb : Nat} {L : List X} (h : MapK K w mb L) (hL : ∀ l ∈ L, K.ok l) (l : X) (hl : K.ok l) :
  ∃ es clock, w.heap[mb]? = some (.map es clock) ∧ es.toList.map (fun e => (e.key, e.val)) = L.mapIdx (fun (j : Nat) l => (K.enc l, Value.int .i64 (j : Int))) ∧
   ((l ∉ L ∧ (Instr.findKey K.kt (K.enc l) es.toList).run Tryd.prog w = .ok none w) ∨ ∃ j : Nat, L[j]? = some l ∧ (Instr.findKey K.kt (K.enc l) es.toList).run Tryd.prog w = .ok (some (j, .int .i64 (j : Int))) w) := by
 obtain ⟨es, clock, h1, h2⟩ := h
 refine ⟨es, clock, h1, h2, ?_⟩
 obtain ⟨kl, hkl⟩ := hK.key l hl
 have at_ : ∀ (j : Nat) (e : MapEntry), es.toList[j]? = some e → ∃ l', L[j]? = some l' ∧ e.key = K.enc l' ∧ e.val = .int .i64 (j : Int) := by
  intro j e he
  have h3 : (es.toList.map (fun e => (e.key, e.val)))[j]? = some (e.key, e.val) := by rw [List.getElem?_map, he]; rfl
  rw [h2, List.getElem?_mapIdx] at h3
  cases hx : L[j]? with
  | none => rw [hx] at h3; cases h3
  | some l' =>
   rw [hx] at h3
   simp only [Option.map_some, Option.some.injEq, Prod.mk.injEq] at h3
   exact ⟨l', rfl, h3.1.symm, h3.2.symm⟩
 have hkeys : ∀ e ∈ es.toList, ∃ q, keyOf Tryd.prog K.kt e.key = some q := by
  intro e he
  obtain ⟨j, hj⟩ := List.mem_iff_getElem?.1 he
  obtain ⟨l', h4, h5, _⟩ := at_ j e hj
  rw [h5]
  exact hK.key l' (hL l' (List.mem_of_getElem? h4))
 rcases hK.keyed.find w hkl es.toList hkeys with ⟨h3, h4⟩ | ⟨j, e, h3, h4, h5⟩
 ·refine Or.inl ⟨?_, h3⟩
  intro hm
  obtain ⟨j, hj⟩ := List.mem_iff_getElem?.1 hm
  have h6 : (es.toList.map (fun e => (e.key, e.val)))[j]? = some (K.enc l, .int .i64 (j : Int)) := by rw [h2, List.getElem?_mapIdx, hj]; rfl
  rw [List.getElem?_map] at h6
  cases hx : es.toList[j]? with
  | none => rw [hx] at h6; cases h6
  | some e =>
   rw [hx] at h6
   simp only [Option.map_some, Option.some.injEq, Prod.mk.injEq] at h6
   exact h4 e (List.mem_of_getElem? hx) h6.1
 ·obtain ⟨l', h6, h7, h8⟩ := at_ j e h4
  have : l' = l := hK.inj _ _ (h7.symm.trans h5)
  subst this
  exact Or.inr ⟨j, h6, by rw [h3, h8]⟩
theorem MapK.look (hK : K.Ok) {w : World} {mb : Nat} {L : List X} (h : MapK K w mb L) (hL : ∀ l ∈ L, K.ok l) (l : X) (hl : K.ok l) :
  (l ∉ L ∧ (Instr.lookup K.mt (.map (some mb)) (K.enc l) true).run Tryd.prog w = .ok (.tuple #[.int .i64 0, .bool false]) w) ∨
  ∃ j : Nat, L[j]? = some l ∧ (Instr.lookup K.mt (.map (some mb)) (K.enc l) true).run Tryd.prog w = .ok (.tuple #[.int .i64 (j : Int), .bool true]) w := by
 obtain ⟨kl, hkl⟩ := hK.key l hl
 obtain ⟨es, clock, h1, _, h3⟩ := h.find hK hL l hl
 rcases h3 with ⟨h4, h5⟩ | ⟨j, h4, h5⟩
 ·exact Or.inl ⟨h4, by simp [Instr.lookup, run_underlying hK.under, MapKept.run_getObj_map h1, hK.keyed.check w _ hkl, h5, Result.andThen]⟩
 ·exact Or.inr ⟨j, h4, by simp [Instr.lookup, run_underlying hK.under, MapKept.run_getObj_map h1, hK.keyed.check w _ hkl, h5, Result.andThen]⟩
theorem look_nil (hK : K.Ok) (w : World) (l : X) (hl : K.ok l) : (Instr.lookup K.mt (.map none) (K.enc l) true).run Tryd.prog w = .ok (.tuple #[.int .i64 0, .bool false]) w := by
 obtain ⟨kl, hkl⟩ := hK.key l hl
 rcases hK.keyed.find w hkl [] (by simp) with ⟨h3, _⟩ | ⟨j, e, _, h4, _⟩
 ·simp [Instr.lookup, run_underlying hK.under, hK.keyed.check w _ hkl, h3, Result.andThen]
 ·simp at h4
theorem MapK.put (hK : K.Ok) {w : World} {mb : Nat} {L : List X} (h : MapK K w mb L) (hL : ∀ l ∈ L, K.ok l) (l : X) (hl : K.ok l) (hn : l ∉ L) :
  ∃ w', (Instr.mapUpdate K.mt (.map (some mb)) (K.enc l) (.int .i64 (L.length : Int))).run Tryd.prog w = .ok () w' ∧ MapK K w' mb (L ++ [l]) ∧ w.grownBy w' (some mb) ∧ w'.heap.size = w.heap.size := by
 obtain ⟨kl, hkl⟩ := hK.key l hl
 obtain ⟨es, clock, h1, h2, h3⟩ := h.find hK hL l hl
 rcases h3 with ⟨h4, h5⟩ | ⟨j, h4, h5⟩
 ·refine ⟨ChangeMaps.setBlock w mb (.map (es.push ⟨K.enc l, .int .i64 (L.length : Int), clock⟩) (clock + 1)), ?_, ⟨_, _, ChangeMaps.heap_setBlock_same h1 _, ?_⟩, ⟨rfl, rfl, rfl, by simp [ChangeMaps.setBlock], fun i _ hi => ChangeMaps.heap_setBlock_other h1 _ (fun e => hi (by rw [e]))⟩, by simp [ChangeMaps.setBlock]⟩
  ·simp [Instr.mapUpdate, run_underlying hK.under, MapKept.run_getObj_map h1, hK.keyed.check w false hkl, h5, MapKept.run_setObj_map _ h1, Result.andThen, ChangeMaps.setBlock]
  ·rw [Array.toList_push, List.map_append, h2, List.mapIdx_append]
   simp
 ·exact absurd (List.mem_of_getElem? h4) hn
def rowK (K : KeyT X) (L : List X) : List Value := L.flatMap fun x => (K.cells x).toList
theorem rowK_snoc (L : List X) (x : X) : rowK K (L ++ [x]) = rowK K L ++ (K.cells x).toList := by simp [rowK]
structure SetAt (K : KeyT X) (W : World) (base sb : Nat) (vm vs : Value) (L : List X) : Prop where
 box : W.heap[sb]? = some (.cells #[vm, vs] K.bt)
 map : (vm = .map none ∧ L = []) ∨ ∃ mb, vm = .map (some mb) ∧ base ≤ mb ∧ MapK K W mb L
 row : W.ownsRow base K.kt K.size vs L.length (rowK K L)
 nodup : L.Nodup
 oks : ∀ x ∈ L, K.ok x
def SetB (sb : Nat) (vm vs : Value) (b : Nat) : Prop := b = sb ∨ vm = .map (some b) ∨ vs.ownBlock = some b
theorem SetAt.lt {W : World} {base sb : Nat} {vm vs : Value} {L : List X} (h : SetAt K W base sb vm vs L) : sb < W.heap.size := (Array.getElem?_eq_some_iff.1 h.box).1
theorem SetAt.blk {W : World} {base sb : Nat} {vm vs : Value} {L : List X} (h : SetAt K W base sb vm vs L) {b : Nat} (hb : SetB sb vm vs b) :
  b < W.heap.size ∧ ((∃ cs, W.heap[b]? = some (.cells cs K.bt)) ∨ (∃ es c, W.heap[b]? = some (.map es c)) ∨ ∃ cs, W.heap[b]? = some (.cells cs K.kt)) := by
 rcases hb with rfl | rfl | hb
 ·exact ⟨h.lt, Or.inl ⟨_, h.box⟩⟩
 ·rcases h.map with ⟨h1, _⟩ | ⟨mb, h1, _, h2⟩
  ·cases h1
  ·cases h1
   obtain ⟨es, c, h3, _⟩ := h2
   exact ⟨(Array.getElem?_eq_some_iff.1 h3).1, Or.inr (Or.inl ⟨es, c, h3⟩)⟩
 ·obtain ⟨_, cur, h2⟩ := own_blk h.row hb
  exact ⟨(Array.getElem?_eq_some_iff.1 h2).1, Or.inr (Or.inr ⟨cur, h2⟩)⟩
theorem SetAt.keep {W W' : World} {base sb : Nat} {vm vs : Value} {L : List X} (h : SetAt K W base sb vm vs L) (hb : ∀ b, SetB sb vm vs b → W'.heap[b]? = W.heap[b]?) : SetAt K W' base sb vm vs L := by
 refine ⟨(hb sb (Or.inl rfl)).trans h.box, ?_, own_congr h.row (fun b hk => hb b (Or.inr (Or.inr hk))), h.nodup, h.oks⟩
 rcases h.map with h1 | ⟨mb, h1, h2, h3⟩
 ·exact Or.inl h1
 ·exact Or.inr ⟨mb, h1, h2, h3.keep (hb mb (Or.inr (Or.inl h1)))⟩
theorem SetAt.below {W W' : World} {base sb : Nat} {vm vs : Value} {L : List X} (h : SetAt K W base sb vm vs L) (hb : Below W.heap.size W W') : SetAt K W' base sb vm vs L := h.keep fun b hk => hb.block b (h.blk hk).1
theorem SetAt.but {W W' : World} {base sb : Nat} {vm vs : Value} {L : List X} {Y : Nat → Prop} (h : SetAt K W base sb vm vs L) (hb : But Y W W') (hy : ∀ b, SetB sb vm vs b → ¬ Y b) : SetAt K W' base sb vm vs L := h.keep fun b hk => hb.block b (h.blk hk).1 (hy b hk)
theorem setAt_new (W : World) (base : Nat) : SetAt K (W.alloc (.cells #[.map none, .slice none 0 0] K.bt)) base W.heap.size (.map none) (.slice none 0 0) [] :=
 ⟨heap_alloc_new W _, Or.inl ⟨rfl, rfl⟩, World.ownsRow_nil _ _ _ _, by simp, by simp⟩
theorem SetAt.from_ {W : World} {base sb : Nat} {vm vs : Value} {L : List X} (h : SetAt K W base sb vm vs L) {b : Nat} (hb : SetB sb vm vs b) : b = sb ∨ base ≤ b := by
 rcases hb with rfl | rfl | hb
 ·exact Or.inl rfl
 ·rcases h.map with ⟨h1, _⟩ | ⟨mb, h1, h2, _⟩
  ·cases h1
  ·cases h1; exact Or.inr h2
 ·exact Or.inr (own_blk h.row hb).1
def PlPost (K : KeyT X) (W : World) (base sb : Nat) (vm vs : Value) (L : List X) (x : X) (e : Ending) (W' : World) : Prop :=
 e = .returned (.int .i64 (ix (meet L x) x : Nat)) ∧ ∃ vm' vs', SetAt K W' base sb vm' vs' (meet L x) ∧ But (SetB sb vm vs) W W' ∧ (∀ b, vs'.ownBlock = some b → vs.ownBlock = some b ∨ W.heap.size ≤ b) ∧ ∀ b, vm' = .map (some b) → vm = .map (some b) ∨ W.heap.size ≤ b
theorem meet_old {L : List X} {x : X} (h : x ∈ L) : meet L x = L := by unfold meet; rw [if_pos h]
theorem meet_fresh {L : List X} {x : X} (h : x ∉ L) : meet L x = L ++ [x] := by unfold meet; rw [if_neg h]
theorem SetAt.pushed {W2 W3 : World} {base sb mb : Nat} {vs v' : Value} {L : List X} {x : X} (hne : K.bt ≠ K.kt) (hbox : W2.heap[sb]? = some (.cells #[.map (some mb), vs] K.bt)) (hm : MapK K W2 mb (L ++ [x])) (hmb : base ≤ mb)
  (hrow : W2.ownsRow base K.kt K.size vs L.length (rowK K L)) (hbut : But (fun b => vs.ownBlock = some b) W2 W3) (ho : W3.ownsRow base K.kt K.size v' (L.length + 1) (rowK K L ++ (K.cells x).toList)) (hn : (L ++ [x]).Nodup) (hoks : ∀ y ∈ L ++ [x], K.ok y) :
  SetAt K (W3.setCell ⟨sb, 1, none⟩ v') base sb (.map (some mb)) v' (L ++ [x]) ∧ W3.heap[sb]? = some (.cells #[.map (some mb), vs] K.bt) := by
 have hsb : W3.heap[sb]? = some (.cells #[.map (some mb), vs] K.bt) := by
  rw [hbut.block sb (Array.getElem?_eq_some_iff.1 hbox).1 (fun e => by
   obtain ⟨_, cur, h2⟩ := own_blk hrow e
   rw [hbox] at h2
   simp only [Option.some.injEq, Obj.cells.injEq] at h2
   exact hne h2.2.1)]
  exact hbox
 have hm3 : W3.heap[mb]? = W2.heap[mb]? := hbut.block mb hm.lt (fun e => by
   obtain ⟨_, cur, h2⟩ := own_blk hrow e
   obtain ⟨es, c, h3, _⟩ := hm
   rw [h3] at h2
   cases h2)
 have hmsb : mb ≠ sb := by
  rintro rfl
  obtain ⟨es, c, h3, _⟩ := hm
  rw [h3] at hbox
  cases hbox
 refine ⟨⟨?_, Or.inr ⟨mb, rfl, hmb, hm.keep ((heap_set_other W3 sb 1 _ mb hmsb).trans hm3)⟩, ?_, hn, hoks⟩, hsb⟩
 ·have := blk_setk hsb 1 v'
  simpa using this
 ·rw [List.length_append, List.length_singleton, rowK_snoc]
  refine own_congr ho (fun b hk => heap_set_other W3 sb 1 _ b ?_)
  rintro rfl
  obtain ⟨_, c1, h3⟩ := own_blk ho hk
  rw [hsb] at h3
  simp only [Option.some.injEq, Obj.cells.injEq] at h3
  exact hne h3.2.1
end
end Go.Proofs.YtoinajfliogcdaaDoor

namespace Go.Proofs.YtoinajfliogcdaaDoor
open Go Go.RowKit
set_option linter.unusedVariables false
set_option maxRecDepth 100000

structure Ls7 (w0 W : World) (rb db sb : Nat) (raw : Array Value) (R : RowMap) (v : Value) (l : List MSt) (va : Value) (f : Bool) (rs : List (Int × Int)) (e : Int) : Prop where
 below : Below w0.heap.size w0 W
 rawb : W.heap[rb]? = some (.cells raw 62)
 res : W.heap[rb + 1]? = some (.cells #[.slice none 0 0] 27)
 dbox : W.heap[db]? = some (.cells #[v] 27)
 rows : RowsF W w0.heap.size R
 cur : CurM W w0.heap.size v l sb va f rs e
 from_ : w0.heap.size ≤ db
 ne : db ≠ rb + 1
structure Ls6 (w0 W : World) (rb db : Nat) (raw : Array Value) (R : RowMap) (v : Value) (l : List MSt) : Prop where
 below : Below w0.heap.size w0 W
 rawb : W.heap[rb]? = some (.cells raw 62)
 res : W.heap[rb + 1]? = some (.cells #[.slice none 0 0] 27)
 dbox : W.heap[db]? = some (.cells #[v] 27)
 rows : RowsF W w0.heap.size R
 dfa : DfaM W w0.heap.size v l
 from_ : w0.heap.size ≤ db
 ne : db ≠ rb + 1
theorem Ls6.keep {w0 W W' : World} {rb db : Nat} {raw : Array Value} {R : RowMap} {v : Value} {l : List MSt} (h : Ls6 w0 W rb db raw R v l) (hb : Below W.heap.size W W') : Ls6 w0 W' rb db raw R v l :=
 ⟨h.below.trans (hb.mono h.below.size), blko h.rawb hb, blko h.res hb, blko h.dbox hb, h.rows.below hb, h.dfa.below hb, h.from_, h.ne⟩
theorem Ls6.start {w0 W : World} {rb db : Nat} {raw : Array Value} {R : RowMap} {v : Value} {l : List MSt} (h : Ls6 w0 W rb db raw R v l) (f : Bool) (e : Int) : Ls7 w0 (W.alloc (.cells #[.bool f, .slice none 0 0, .int .i64 e] 95)) rb db W.heap.size raw R v l (.slice none 0 0) f [] e := by
 have hb : Below W.heap.size W (W.alloc (.cells #[.bool f, .slice none 0 0, .int .i64 e] 95)) := (Below.refl _ _).alloc (Nat.le_refl _) _
 have h' := h.keep hb
 exact ⟨h'.below, h'.rawb, h'.res, h'.dbox, h'.rows, h.dfa.start h.below.size f e, h.from_, h.ne⟩
theorem Ls7.ints {w0 W W' : World} {rb db sb : Nat} {raw : Array Value} {R R' : RowMap} {v : Value} {l : List MSt} {va : Value} {f : Bool} {rs : List (Int × Int)} {e : Int} (h : Ls7 w0 W rb db sb raw R v l va f rs e) (hB : Below w0.heap.size w0 W') (hk : ∀ (b : Nat) (cs : Array Value) (t : TypeId), t ≠ 3 → W.heap[b]? = some (.cells cs t) → W'.heap[b]? = some (.cells cs t)) (hR : RowsF W' w0.heap.size R') : Ls7 w0 W' rb db sb raw R' v l va f rs e :=
 ⟨hB, hk _ _ _ (by decide) h.rawb, hk _ _ _ (by decide) h.res, hk _ _ _ (by decide) h.dbox, hR, h.cur.congr fun b cs t ht hh => hk b cs t (by rcases ht with rfl | rfl <;> decide) hh, h.from_, h.ne⟩
theorem Ls7.keep {w0 W W' : World} {rb db sb : Nat} {raw : Array Value} {R : RowMap} {v : Value} {l : List MSt} {va : Value} {f : Bool} {rs : List (Int × Int)} {e : Int} (h : Ls7 w0 W rb db sb raw R v l va f rs e) (hb : Below W.heap.size W W') : Ls7 w0 W' rb db sb raw R v l va f rs e :=
 h.ints (h.below.trans (hb.mono h.below.size)) (fun b cs t _ hh => blko hh hb) (h.rows.below hb)
theorem Ls7.setInt {w0 W : World} {rb db sb : Nat} {raw : Array Value} {R : RowMap} {v : Value} {l : List MSt} {va : Value} {f : Bool} {rs : List (Int × Int)} {e : Int} (h : Ls7 w0 W rb db sb raw R v l va f rs e) {i g n cap : Nat} {zs : List Int} (hi : R i = some (.slice (some ⟨g, 0, none⟩) n cap, zs)) (hn : zs.length = n) {k : Nat} (hk : k < n) (x : Int) : Ls7 w0 (W.setCell ⟨g, k, none⟩ (.int .i64 x)) rb db sb raw (upd R i (some (.slice (some ⟨g, 0, none⟩) n cap, zs.set k x))) v l va f rs e := by
 subst hn
 obtain ⟨hge, cur, hcur⟩ := own_blk (h.rows.own i _ _ hi) (b := g) rfl
 refine h.ints (h.below.trans (((But.refl (fun b => b = g) W).set g k _ rfl).below h.below.size (fun j hj e => by omega))) (fun b cs t ht hh => ?_) (h.rows.set hi hk x)
 rw [heap_set_other W g k _ b (blk_ne hh hcur ht)]; exact hh
theorem Ls7.growInt {w0 W W' : World} {rb db sb : Nat} {raw : Array Value} {R : RowMap} {v : Value} {l : List MSt} {va : Value} {f : Bool} {rs : List (Int × Int)} {e : Int} (h : Ls7 w0 W rb db sb raw R v l va f rs e) {i : Nat} {u u' : Value} {zs ys : List Int} (hi : R i = some (u, zs)) (hg : But (fun b => u.ownBlock = some b) W W') (hv : W'.ownsRow w0.heap.size 3 1 u' ys.length (zI ys)) (hat : ∀ b, u'.ownBlock = some b → u.ownBlock = some b ∨ W.heap.size ≤ b) : Ls7 w0 W' rb db sb raw (upd R i (some (u', ys))) v l va f rs e := by
 have ho := h.rows.own i _ _ hi
 refine h.ints (h.below.trans (hg.below h.below.size (fun j hj e => by have := (own_blk ho e).1; omega))) (fun b cs t ht hh => ?_) (h.rows.growB hi hg hv hat)
 rw [hg.block b (Array.getElem?_eq_some_iff.1 hh).1 (fun e => by
  obtain ⟨_, cur, h2⟩ := own_blk ho e
  exact blk_ne hh h2 ht rfl)]
 exact hh
theorem not_int_of {W : World} {base : Nat} {R : RowMap} (h : RowsF W base R) {b : Nat} {cs : Array Value} {t : TypeId} (hh : W.heap[b]? = some (.cells cs t)) (ht : t ≠ 3) : ∀ cur, W.heap[b]? ≠ some (.cells cur 3) := by
 intro cur e
 rw [hh] at e
 simp only [Option.some.injEq, Obj.cells.injEq] at e
 exact ht e.2.1
theorem Ls7.arc {w0 W W1 : World} {rb db sb : Nat} {raw : Array Value} {R : RowMap} {v : Value} {l : List MSt} {va va' : Value} {f : Bool} {rs : List (Int × Int)} {e : Int} {a : Int × Int} (h : Ls7 w0 W rb db sb raw R v l va f rs e) (hb : But (fun b => va.ownBlock = some b) W W1) (ho : W1.ownsRow w0.heap.size 97 2 va' (rs.length + 1) (arcCells rs ++ [.int .i64 a.1, .int .i64 a.2])) (hat : ∀ b, va'.ownBlock = some b → va.ownBlock = some b ∨ W.heap.size ≤ b) :
  Ls7 w0 (W1.setCell ⟨sb, 1, none⟩ va') rb db sb raw R v l va' f (rs ++ [a]) e ∧ W1.heap[sb]? = some (.cells #[.bool f, va, .int .i64 e] 95) := by
 obtain ⟨hc, hsb⟩ := h.cur.arc hb ho hat
 have hX : But (fun b => va.ownBlock = some b ∨ b = sb) W (W1.setCell ⟨sb, 1, none⟩ va') := (hb.mono fun i _ hi => Or.inl hi).set sb 1 va' (Or.inr rfl)
 have hk : ∀ (b : Nat) (cs : Array Value) (t : TypeId), t ≠ 95 → t ≠ 97 → W.heap[b]? = some (.cells cs t) → (W1.setCell ⟨sb, 1, none⟩ va').heap[b]? = some (.cells cs t) := by
  intro b cs t h1 h2 hh
  rw [hX.block b (Array.getElem?_eq_some_iff.1 hh).1 (fun e' => by
   rcases e' with e' | e'
   ·obtain ⟨_, cur, h3⟩ := own_blk h.cur.arcs e'
    exact blk_ne hh h3 h2 rfl
   ·subst e'
    exact blk_ne hh h.cur.box h1 rfl)]
  exact hh
 refine ⟨⟨h.below.trans (hX.below h.below.size (fun j hj e' => ?_)), hk _ _ _ (by decide) (by decide) h.rawb, hk _ _ _ (by decide) (by decide) h.res, hk _ _ _ (by decide) (by decide) h.dbox, h.rows.but hX (fun b e' => ?_), hc, h.from_, h.ne⟩, hsb⟩
 ·rcases e' with e' | e'
  ·have := (own_blk h.cur.arcs e').1; omega
  ·have := h.cur.from_; omega
 ·rcases e' with e' | e'
  ·obtain ⟨_, cur, h3⟩ := own_blk h.cur.arcs e'
   exact not_int_of h.rows h3 (by decide)
  ·subst e'
   exact not_int_of h.rows h.cur.box (by decide)
theorem Ls7.els {w0 W : World} {rb db sb : Nat} {raw : Array Value} {R : RowMap} {v : Value} {l : List MSt} {va : Value} {f : Bool} {rs : List (Int × Int)} {e : Int} (h : Ls7 w0 W rb db sb raw R v l va f rs e) (x : Int) : Ls7 w0 (W.setCell ⟨sb, 2, none⟩ (.int .i64 x)) rb db sb raw R v l va f rs x := by
 have hX : But (fun b => b = sb) W (W.setCell ⟨sb, 2, none⟩ (.int .i64 x)) := (But.refl _ _).set sb 2 _ rfl
 have hk : ∀ (b : Nat), b ≠ sb → (W.setCell ⟨sb, 2, none⟩ (.int .i64 x)).heap[b]? = W.heap[b]? := fun b hb => heap_set_other W sb 2 _ b hb
 have hc := h.cur
 refine ⟨h.below.trans (hX.below h.below.size (fun j hj e' => by have := hc.from_; omega)), ?_, ?_, ?_, h.rows.but hX (fun b e' => by subst e'; exact not_int_of h.rows hc.box (by decide)), ⟨?_, ?_, ?_, hc.apart, hc.off, hc.from_⟩, h.from_, h.ne⟩
 ·rw [hk _ (blk_ne h.rawb hc.box (by decide))]; exact h.rawb
 ·rw [hk _ (blk_ne h.res hc.box (by decide))]; exact h.res
 ·rw [hk _ (blk_ne h.dbox hc.box (by decide))]; exact h.dbox
 ·refine hc.dfa.congr fun b cs t ht hkk hh => ?_
  rw [hk b (by
   rintro rfl
   rcases hkk with hkk | ⟨s, hs, hkk⟩
   ·exact hc.off hkk
   ·obtain ⟨_, c1, h3⟩ := own_blk (hc.dfa.arcs s hs) hkk
    exact blk_ne h3 hc.box (by decide) rfl)]
  exact hh
 ·have := blk_setk hc.box 2 (.int .i64 x)
  simpa using this
 ·refine own_congr hc.arcs (fun b hb => hk b ?_)
  rintro rfl
  obtain ⟨_, c1, h3⟩ := own_blk hc.arcs hb
  exact blk_ne h3 hc.box (by decide) rfl
theorem Ls7.done {w0 W W1 : World} {rb db sb : Nat} {raw : Array Value} {R : RowMap} {v v' : Value} {l : List MSt} {va : Value} {f : Bool} {rs : List (Int × Int)} {e : Int} (h : Ls7 w0 W rb db sb raw R v l va f rs e) (hb : But (fun b => v.ownBlock = some b) W W1) (ho : W1.ownsRow w0.heap.size 95 3 v' (l.length + 1) (stCells l ++ [.bool f, va, .int .i64 e])) :
  Ls6 w0 (W1.setCell ⟨db, 0, none⟩ v') rb db raw R v' (l ++ [(va, f, rs, e)]) ∧ W1.heap[db]? = some (.cells #[v] 27) := by
 have hp := h.cur.push hb ho
 have k1 : ∀ (b : Nat) (cs : Array Value) (t : TypeId), t ≠ 95 → W.heap[b]? = some (.cells cs t) → W1.heap[b]? = some (.cells cs t) := by
  intro b cs t h1 hh
  rw [hb.block b (Array.getElem?_eq_some_iff.1 hh).1 (fun e' => by
   obtain ⟨_, cur, h3⟩ := own_blk h.cur.dfa.row e'
   exact blk_ne hh h3 h1 rfl)]
  exact hh
 have hd1 := k1 _ _ _ (by decide) h.dbox
 have hX : But (fun b => v.ownBlock = some b ∨ b = db) W (W1.setCell ⟨db, 0, none⟩ v') := (hb.mono fun i _ hi => Or.inl hi).set db 0 v' (Or.inr rfl)
 have ks : ∀ b, b ≠ db → (W1.setCell ⟨db, 0, none⟩ v').heap[b]? = W1.heap[b]? := fun b hb' => heap_set_other W1 db 0 _ b hb'
 refine ⟨⟨h.below.trans (hX.below h.below.size (fun j hj e' => ?_)), ?_, ?_, ?_, h.rows.but hX (fun b e' => ?_), ?_, h.from_, h.ne⟩, hd1⟩
 ·rcases e' with e' | e'
  ·have := (own_blk h.cur.dfa.row e').1; omega
  ·have := h.from_; omega
 ·rw [ks _ (blk_ne (k1 _ _ _ (by decide) h.rawb) hd1 (by decide))]; exact k1 _ _ _ (by decide) h.rawb
 ·rw [ks _ (Ne.symm h.ne)]; exact k1 _ _ _ (by decide) h.res
 ·have := blk_setk hd1 0 v'
  simpa using this
 ·rcases e' with e' | e'
  ·obtain ⟨_, cur, h3⟩ := own_blk h.cur.dfa.row e'
   exact not_int_of h.rows h3 (by decide)
  ·subst e'
   exact not_int_of h.rows h.dbox (by decide)
 ·refine hp.congr fun b cs t ht hkk hh => ?_
  rw [ks b (by
   rintro rfl
   rw [hd1] at hh
   simp only [Option.some.injEq, Obj.cells.injEq] at hh
   rcases ht with rfl | rfl
   ·exact absurd hh.2.1 (by decide)
   ·exact absurd hh.2.1 (by decide))]
  exact hh
end Go.Proofs.YtoinajfliogcdaaDoor
