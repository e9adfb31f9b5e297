import Derived.Test.YtbkedgpligcicaaDictJ01
import Derived.Test.YtbkedgpligcicaaDictJ00
import Derived.Test.YtbkedgpligcicaaDictJ02
import Derived.Test.YtbkedgpligcicaaDictJ04
import Derived.Test.YtbkedgpligcicaaDictJ06
import Derived.Test.YtbkedgpligcicaaDictJ08
namespace Go.Proofs.Ytbkedgpligcicaa
open Go
set_option linter.unusedVariables false

/-! The states of a maker, numbered anew in the order in which they are met. -/
def renum (order : List Nat) (s : St) : St := (s.1, s.2.map fun a => (a.1, ((order.idxOf a.2.1.toNat : Nat) : Int), a.2.2))
def setAt (O : List (List Tx)) (x : Nat) : List Tx := O.getD x []
theorem setAt_idx {O : List (List Tx)} {L : List Tx} (h : L ∈ O) : setAt O (O.idxOf L) = L := by
  rw [setAt, List.getD_eq_getElem?_getD, idxOf_at h]; rfl
theorem setAt_mem {O : List (List Tx)} {x : Nat} (h : x < O.length) : setAt O x ∈ O := by
  rw [setAt, List.getD_eq_getElem?_getD, List.getElem?_eq_getElem h]; exact List.getElem_mem _
theorem setAt_inj {O : List (List Tx)} (hn : O.Nodup) {x y : Nat} (hx : x < O.length) (hy : y < O.length) (h : setAt O x = setAt O y) : x = y := by
  rw [setAt, setAt, List.getD_eq_getElem?_getD, List.getD_eq_getElem?_getD, List.getElem?_eq_getElem hx, List.getElem?_eq_getElem hy] at h
  exact (List.getElem_inj hn).1 h
theorem stM_set {O : List (List Tx)} {x : Nat} (h : x < O.length) : (stM O).getD x st0 = stOf O (setAt O x) := by
  refine stM_at ?_
  rw [setAt, List.getD_eq_getElem?_getD, List.getElem?_eq_getElem h]; rfl
theorem toAt_stM {O : List (List Tx)} (hok : OkO O) {x : Nat} (h : x < O.length) : toAt (stM O) x = (labelsT (setAt O x)).map fun n => O.idxOf (subT n (setAt O x)) := by
  rw [toAt, arcsAt, stM_set h, stOf, List.map_map]
  exact List.map_congr_left fun n _ => by simp
theorem nextT_set {O : List (List Tx)} (hok : OkO O) {x : Nat} (h : x < O.length) : nextT (setAt O x) = (toAt (stM O) x).map (setAt O) := by
  rw [toAt_stM hok h, nextT, List.map_map]
  refine List.map_congr_left fun n hn => ?_
  rw [Function.comp, setAt_idx (hok.closed _ (setAt_mem h) n hn)]
theorem toAt_lt {O : List (List Tx)} (hok : OkO O) {x : Nat} (h : x < O.length) : ∀ y ∈ toAt (stM O) x, y < O.length := by
  rw [toAt_stM hok h]
  intro y hy
  obtain ⟨n, hn, rfl⟩ := List.mem_map.1 hy
  exact List.idxOf_lt_length_of_mem (hok.closed _ (setAt_mem h) n hn)
theorem idxOf_map {O : List (List Tx)} (hn : O.Nodup) : ∀ (order : List Nat) (x : Nat), (∀ y ∈ order, y < O.length) → x < O.length → (order.map (setAt O)).idxOf (setAt O x) = order.idxOf x
  | [], x, _, _ => rfl
  | y :: t, x, h, hx => by
    rw [List.map_cons, List.idxOf_cons, List.idxOf_cons]
    by_cases e : y = x
    · subst e; simp
    · have e2 : ¬ setAt O y = setAt O x := fun e3 => e (setAt_inj hn (h y (by simp)) hx e3)
      have h1 : (setAt O y == setAt O x) = false := beq_false_of_ne e2
      have h2 : (y == x) = false := beq_false_of_ne e
      rw [idxOf_map hn t x (fun z hz => h z (by simp [hz])) hx, h1, h2]
theorem build_plain {O : List (List Tx)} {ts : List Tx} {root : Nat} {order : List Nat} (hok : OkO O) (hrl : root < O.length) (hr : setAt O root = ts) (hb : IsBfs (toAt (stM O)) root order) :
    IsBfs nextT ts (order.map (setAt O)) ∧ order.map (fun x => renum order ((stM O).getD x st0)) = (order.map (setAt O)).map (stOf (order.map (setAt O))) := by
  have hlt : ∀ x ∈ order, x < O.length := hb.all (fun x => x < O.length) hrl (fun x hx y hy => toAt_lt hok hx y hy)
  refine ⟨?_, ?_⟩
  · rw [← hr]
    exact hb.map nextT (setAt O) (fun x => x < O.length) hrl (fun x y hx hy e => setAt_inj hok.nodup hx hy e) (fun x hx y hy => toAt_lt hok hx y hy) (fun x hx => nextT_set hok hx)
  · rw [List.map_map]
    refine List.map_congr_left fun x hx => ?_
    have hxl := hlt x hx
    rw [Function.comp, stM_set hxl, renum, stOf, stOf]
    congr 1
    rw [List.map_map]
    refine List.map_congr_left fun n hn => ?_
    have hm := hok.closed _ (setAt_mem hxl) n hn
    have e := idxOf_map hok.nodup order (O.idxOf (subT n (setAt O x))) hlt (List.idxOf_lt_length_of_mem hm)
    rw [setAt_idx hm] at e
    simp only [Function.comp, Int.toNat_natCast, e]
end Go.Proofs.Ytbkedgpligcicaa

namespace Go.Proofs.Ytbkedgpligcicaa
open Go Go.RowKit
set_option linter.unusedVariables false
set_option maxRecDepth 100000

/-! spec.l04Build: how the maker begins. -/
def rStart (bm bb : Nat) : Nat → Role := fun b => if b = bm then .mk else if b = bb then .bk else .oth
theorem stM_nil : stM [] = [] := rfl
theorem bkt_nil (h : Nat) : bkt [] h = [] := rfl
theorem OkO.nil : OkO [] := ⟨List.nodup_nil, fun M h => by simp at h, fun M h => by simp at h⟩
theorem mk_start {W : World} {base bm bb : Nat} {aT : Option Addr} {nT cT : Nat} {cs : Array Value} (hbox : W.heap[bm]? = some (.cells #[.slice aT nT cT, .slice none 0 0, .slice none 0 0, .slice (some ⟨bb, 0, none⟩) 1024 1024] 112)) (hne : bm ≠ bb) (h1 : base ≤ bm) (h2 : base ≤ bb) (hbks : W.heap[bb]? = some (.cells cs 66)) (hcs : cs.size = 1024) (hat : ∀ h, h < 1024 → cs[h]? = some (.slice none 0 0)) :
    MkAt W (rStart bm bb) base bm bb aT nT cT [] (.slice none 0 0) (fun _ => .slice none 0 0) [] cs := by
  refine ⟨hbox, by simp [rStart], by simp [rStart, Ne.symm hne], h1, h2, hbks, hcs, hat, fun h hh => ⟨World.ownsRow_nil _ _ _ _, (fun b hb => by cases hb)⟩, World.ownsRow_nil _ _ _ _, (fun b hb => by cases hb), (fun j hj => by simp at hj), fun b hb => ?_⟩
  have e1 := (Array.getElem?_eq_some_iff.1 hbox).1
  have e2 := (Array.getElem?_eq_some_iff.1 hbks).1
  rw [rStart, if_neg (by omega), if_neg (by omega)]
theorem Try.infoSl : (Try.prog.info? 66).map (fun i => (i.zero, i.size, i.bytes)) = some (some (.slice none 0 0), 1, 24) := by kernel_rfl

theorem blkf {w : World} {b : Nat} {cs : Array Value} {t : TypeId} (h : w.heap[b]? = some (.cells cs t)) (k : Nat) : w.frozen? ⟨b, k, none⟩ = false := by
  simp [World.frozen?, h]
/-! A row of whole numbers, told by a function. -/
def rowZ (f : Nat → Int) (n : Nat) : List Value := (List.range n).map fun j => .int .i64 (f j)
theorem rowZ_at (f : Nat → Int) {n q : Nat} (h : q < n) : (rowZ f n)[q]? = some (.int .i64 (f q)) := by simp [rowZ, h]
theorem rowZ_congr {f g : Nat → Int} {n : Nat} (h : ∀ j, j < n → f j = g j) : rowZ f n = rowZ g n := by
  unfold rowZ
  exact List.map_congr_left fun j hj => by rw [h j (by simpa using hj)]
theorem rowZ_len (f : Nat → Int) (n : Nat) : (rowZ f n).length = n := by simp [rowZ]
theorem rowZ_set (f : Nat → Int) (n k : Nat) (x : Int) : (rowZ f n).set k (.int .i64 x) = rowZ (fun j => if j = k then x else f j) n := by
  apply List.ext_getElem?
  intro j
  rw [List.getElem?_set, rowZ_len]
  by_cases hj : j < n
  · by_cases e : k = j
    · subst e; rw [if_pos rfl, if_pos hj, rowZ_at _ hj, if_pos rfl]
    · rw [if_neg e, rowZ_at _ hj, rowZ_at _ hj, if_neg (fun h => e h.symm)]
  · have e1 : ∀ g, (rowZ g n)[j]? = none := fun g => List.getElem?_eq_none (by rw [rowZ_len]; omega)
    rw [e1, e1]
    by_cases e : k = j
    · rw [if_pos e, if_neg (by omega)]
    · rw [if_neg e]
def fillZ (k j : Nat) : Int := if j < k then -1 else 0
theorem fillZ_zero (n : Nat) : rowZ (fillZ 0) n = List.replicate n (.int .i64 0) := by
  apply List.ext_getElem?
  intro j
  by_cases hj : j < n
  · rw [rowZ_at _ hj, fillZ, if_neg (by omega)]; simp [hj]
  · rw [List.getElem?_eq_none (by rw [rowZ_len]; omega), List.getElem?_eq_none (by simp; omega)]
theorem fillZ_step (k n : Nat) : rowZ (fun j => if j = k then -1 else fillZ k j) n = rowZ (fillZ (k + 1)) n := rowZ_congr fun j _ => by
  unfold fillZ
  by_cases e : j = k
  · rw [if_pos e, if_pos (by omega)]
  · rw [if_neg e]
    by_cases h : j < k
    · rw [if_pos h, if_pos (by omega)]
    · rw [if_neg h, if_neg (by omega)]
/-- What stands in the number row: where a state is met, -1 where it is not met yet. -/
def numZ (order : List Nat) (x : Nat) : Int := if x ∈ order then ((order.idxOf x : Nat) : Int) else -1
theorem fillZ_end (n : Nat) : rowZ (fillZ n) n = rowZ (numZ []) n := rowZ_congr fun j hj => by
  rw [fillZ, if_pos hj, numZ, if_neg (by simp)]
theorem numZ_push (order : List Nat) (x n : Nat) (hx : x ∉ order) : rowZ (fun j => if j = x then (order.length : Int) else numZ order j) n = rowZ (numZ (order ++ [x])) n := rowZ_congr fun j _ => by
  unfold numZ
  by_cases e : j = x
  · subst e
    rw [if_pos rfl, if_pos (by simp), List.idxOf_append, if_neg hx]; simp
  · rw [if_neg e]
    by_cases h : j ∈ order
    · rw [if_pos h, if_pos (by simp [h]), List.idxOf_append, if_pos h]
    · rw [if_neg h, if_neg (by simp [h, e])]

theorem renum_pre {order r : List Nat} {s : St} (h : ∀ a ∈ s.2, a.2.1.toNat ∈ order) : renum (order ++ r) s = renum order s := by
  rw [renum, renum]
  congr 1
  refine List.map_congr_left fun a ha => ?_
  rw [List.idxOf_append, if_pos (h a ha)]
/-- The rows and boxes of l04Build: i states are told, those of ord are met. -/
structure BC (w2 : World) (O : List (List Tx)) (n DB i : Nat) (ord : List Nat) (ov dv : Value) (xs : List Value) (W : World) : Prop where
  bel : Below w2.heap.size w2 W
  num : W.ownsRow w2.heap.size 3 1 (.slice (some ⟨w2.heap.size, 0, none⟩) O.length O.length) O.length (rowZ (numZ ord) O.length)
  ordr : W.ownsRow (w2.heap.size + 1) 3 1 ov ord.length (nV ord)
  lt : w2.heap.size < DB
  dbox : W.heap[DB]? = some (.cells #[.int .i64 (n : Int), dv] 27)
  drow : W.ownsRow (w2.heap.size + 1) 82 2 dv i xs
  all : ∀ x ∈ ord, x < O.length
  sts : ∀ j, j < i → (∀ a ∈ ((stM O).getD (ord.getD j 0) st0).2, a.2.1.toNat ∈ ord) ∧ xs[j * 2]? = some (.bool ((stM O).getD (ord.getD j 0) st0).1) ∧ ∃ aj cj, xs[j * 2 + 1]? = some (.slice aj ((stM O).getD (ord.getD j 0) st0).2.length cj) ∧ HoldA W aj (renum ord ((stM O).getD (ord.getD j 0) st0)).2 ∧ ∀ b off, aj = some ⟨b, off, none⟩ → w2.heap.size < b ∧ ∃ cur, W.heap[b]? = some (.cells cur 85)
/-- How things stand before a round of l04Build. -/
structure BI (w2 : World) (O : List (List Tx)) (n root DB i : Nat) (ord : List Nat) (ov dv : Value) (xs : List Value) (W : World) : Prop extends BC w2 O n DB i ord ov dv xs W where
  met : bfs (toAt (stM O)) i 0 [root] = ord
  le : i ≤ ord.length
/-- The boxes and rows within a round, behind k of the arcs of the state s: SB is its box, SB + 1 the box of what is told of it. -/
structure BL (w2 : World) (O : List (List Tx)) (n DB SB i k : Nat) (ord : List Nat) (s : St) (aj : Option Addr) (cj : Nat) (ov dv va : Value) (xs : List Value) (W : World) : Prop extends BC w2 O n DB i ord ov dv xs W where
  il : i < ord.length
  slt : w2.heap.size < SB ∧ DB < SB
  dlt : ∀ b, dv.ownBlock = some b → b < SB
  olds : ∀ j q a c b off, j < i → xs[j * 2 + 1]? = some (.slice a q c) → a = some ⟨b, off, none⟩ → b < SB
  sbox : W.heap[SB]? = some (.cells #[.bool s.1, .slice aj s.2.length cj] 82)
  obox : W.heap[SB + 1]? = some (.cells #[.bool s.1, va] 82)
  arow : W.ownsRow (SB + 2) 85 3 va k (aC ((renum ord s).2.take k))
/-- How things stand within a round. -/
structure BJ (w2 : World) (O : List (List Tx)) (n DB SB i k : Nat) (ord0 ord : List Nat) (s : St) (aj : Option Addr) (cj : Nat) (ov dv va : Value) (xs : List Value) (W : World) : Prop extends BL w2 O n DB SB i k ord s aj cj ov dv va xs W where
  kle : k ≤ s.2.length
  ordk : ord = meets ord0 ((s.2.take k).map fun a => a.2.1.toNat)
theorem BC.below {w2 : World} {O : List (List Tx)} {n DB i : Nat} {ord : List Nat} {ov dv : Value} {xs : List Value} {W W' : World} (h : BC w2 O n DB i ord ov dv xs W) (hb : Below W.heap.size W W') : BC w2 O n DB i ord ov dv xs W' := by
  refine ⟨h.bel.trans (hb.mono h.bel.size), own_below h.num hb, own_below h.ordr hb, h.lt, blko h.dbox hb, own_congr h.drow (fun b hb2 => ?_), h.all, fun j hj => ?_⟩
  · rcases h.drow.2 with ⟨e, _⟩ | ⟨g, cap, cur, e, _, hg, _⟩
    · rw [e] at hb2; cases hb2
    · rw [e] at hb2
      cases hb2
      exact hb.block _ (Array.getElem?_eq_some_iff.1 hg).1
  · obtain ⟨q0, q1, aj, cj, q2, q3, q4⟩ := h.sts j hj
    exact ⟨q0, q1, aj, cj, q2, q3.below hb, fun b off e => ⟨(q4 b off e).1, (q4 b off e).2.imp fun cur hc => blko hc hb⟩⟩
theorem BI.below {w2 : World} {O : List (List Tx)} {n root DB i : Nat} {ord : List Nat} {ov dv : Value} {xs : List Value} {W W' : World} (h : BI w2 O n root DB i ord ov dv xs W) (hb : Below W.heap.size W W') : BI w2 O n root DB i ord ov dv xs W' := ⟨h.toBC.below hb, h.met, h.le⟩
theorem BI.len {w2 : World} {O : List (List Tx)} {n root DB i : Nat} {ord : List Nat} {ov dv : Value} {xs : List Value} {W : World} (h : BI w2 O n root DB i ord ov dv xs W) : ord.length ≤ O.length := by
  have hn : ord.Nodup := by rw [← h.met]; exact bfs_nodup _ _ _ _ (by simp)
  have hs := hn.length_le_of_subset (l₂ := List.range O.length) (fun x hx => by simpa using h.all x hx)
  simpa using hs
theorem numZ_not {ord : List Nat} {y : Nat} (h : y ∉ ord) : numZ ord y = -1 := by rw [numZ, if_neg h]
theorem numZ_in {ord : List Nat} {y : Nat} (h : y ∈ ord) : numZ ord y = ((ord.idxOf y : Nat) : Int) := by rw [numZ, if_pos h]
theorem renum_take {ord r : List Nat} {s : St} {k : Nat} (h : ∀ a ∈ s.2.take k, a.2.1.toNat ∈ ord) : (renum (ord ++ r) s).2.take k = (renum ord s).2.take k := by
  rw [renum, renum, ← List.map_take, ← List.map_take]
  refine List.map_congr_left fun a ha => ?_
  rw [List.idxOf_append, if_pos (h a ha)]

/-- What l04Build does. -/
def BuildPost (ts : List Tx) (w : World) (e : Ending) (w' : World) : Prop :=
  ∃ (ord : List (List Tx)) (a : Option Addr) (c : Nat), e = .returned (.agg #[.int .i64 (ts.length : Int), .slice a ord.length c]) ∧ IsBfs nextT ts ord ∧ HoldS w' a (dictOf ts ord).2 ∧ Below w.heap.size w w' ∧ ord.length ≤ 300000
theorem blk_setk {w : World} {b : Nat} {cs : Array Value} {t : TypeId} (h : w.heap[b]? = some (.cells cs t)) (k : Nat) (u : Value) : (w.setCell ⟨b, k, none⟩ u).heap[b]? = some (.cells (cs.setIfInBounds k u) t) := by
  obtain ⟨hlt, hk⟩ := Array.getElem?_eq_some_iff.1 h
  show (w.heap.modify b _)[b]? = _
  rw [Array.getElem?_eq_getElem (by rw [Array.size_modify]; exact hlt), Array.getElem_modify_self, hk]
  rfl
theorem blk_set2 {w : World} {b : Nat} {u v x y : Value} {t : TypeId} (h : w.heap[b]? = some (.cells #[u, v] t)) : ((w.setCell ⟨b, 0, none⟩ x).setCell ⟨b, 1, none⟩ y).heap[b]? = some (.cells #[x, y] t) := by
  have h2 := blk_setk (blk_setk h 0 x) 1 y
  simpa using h2
theorem build_post {w w2 W : World} {O : List (List Tx)} {ts : List Tx} {DB : Nat} {ord : List Nat} {ov : Value} {aD : Option Addr} {cD : Nat} {xs : List Value} {x y u v : Value} {t : TypeId} (hi : BI w2 O ts.length (O.idxOf ts) DB ord.length ord ov (.slice aD ord.length cD) xs W) (hok : OkO O) (hin : ts ∈ O) (hb : Below w.heap.size w w2) (hz : w.heap.size < w2.heap.size) (hx : W.heap[w.heap.size]? = some (.cells #[u, v] t)) (hO : O.length ≤ 300000) :
    BuildPost ts w (.returned (.agg #[.int .i64 (ts.length : Int), .slice aD ord.length cD])) ((W.setCell ⟨w.heap.size, 0, none⟩ x).setCell ⟨w.heap.size, 1, none⟩ y) := by
  have hr := setAt_idx hin
  have hbf : IsBfs (toAt (stM O)) (O.idxOf ts) ord := ⟨ord.length, hi.met, Nat.le_refl _⟩
  obtain ⟨p1, p2⟩ := build_plain hok (List.idxOf_lt_length_of_mem hin) hr hbf
  have hbel : Below w.heap.size w ((W.setCell ⟨w.heap.size, 0, none⟩ x).setCell ⟨w.heap.size, 1, none⟩ y) := ((hb.trans (hi.bel.mono (by omega))).setCell (p := ⟨w.heap.size, 0, none⟩) (Nat.le_refl _) _).setCell (p := ⟨w.heap.size, 1, none⟩) (Nat.le_refl _) _
  refine ⟨ord.map (setAt O), aD, cD, by simp, p1, ?_, hbel, by have := hi.len; simp; omega⟩
  show HoldS _ _ ((ord.map (setAt O)).map (stOf (ord.map (setAt O))))
  rw [← p2]
  have hcell : ∀ g, w2.heap.size ≤ g → ((W.setCell ⟨w.heap.size, 0, none⟩ x).setCell ⟨w.heap.size, 1, none⟩ y).heap[g]? = W.heap[g]? := fun g hg => (heap_setCell_other _ ⟨w.heap.size, 1, none⟩ g _ (by show g ≠ w.heap.size; omega)).trans (heap_setCell_other _ ⟨w.heap.size, 0, none⟩ g _ (by show g ≠ w.heap.size; omega))
  rcases hi.drow.2 with ⟨h0, h1⟩ | ⟨g, cap, cur, e, hg, hcur, _⟩
  · left
    have : ord = [] := List.length_eq_zero_iff.1 h1
    rw [this]; rfl
  · right
    simp only [Value.slice.injEq] at e
    obtain ⟨rfl, _, rfl⟩ := e
    have hgl := (Array.getElem?_eq_some_iff.1 hcur).1
    refine ⟨g, 0, rfl, by simpa using hgl, fun j hj => ?_⟩
    rw [List.length_map] at hj
    have e1 : (ord.map (fun x => renum ord ((stM O).getD x st0))).getD j st0 = renum ord ((stM O).getD (ord.getD j 0) st0) := by
      simp [List.getD_eq_getElem?_getD, hj]
    obtain ⟨q0, q1, aj, cj, q2, q3, q4⟩ := hi.sts j hj
    have c0 : ∀ k, ((W.setCell ⟨w.heap.size, 0, none⟩ x).setCell ⟨w.heap.size, 1, none⟩ y).cell? ⟨g, k, none⟩ = W.cell? ⟨g, k, none⟩ := fun k => by simp [World.cell?, hcell g (by omega)]
    rw [e1, Nat.zero_add, c0, c0]
    refine ⟨(hi.drow.cellAt (j * 2) (by omega)).trans q1, aj, cj, ?_, ?_⟩
    · rw [hi.drow.cellAt (j * 2 + 1) (by omega), q2]; simp [renum]
    · exact q3.keep (by simp) fun b off hb _ => hcell b (by have := (q4 b off hb).1; omega)
/-! The steps of a round. -/
theorem own_blk {w : World} {base e size n : Nat} {v : Value} {xs : List Value} (h : w.ownsRow base e size v n xs) {b : Nat} (hb : v.ownBlock = some b) : base ≤ b ∧ ∃ cur, w.heap[b]? = some (.cells cur e) := by
  rcases h.2 with ⟨h', _⟩ | ⟨g, cap, cur, rfl, h2, h3, _⟩
  · rw [h'] at hb; cases hb
  · cases hb; exact ⟨h2, cur, h3⟩
theorem blk_ne {w : World} {a b : Nat} {c1 c2 : Array Value} {t1 t2 : TypeId} (h1 : w.heap[a]? = some (Obj.cells c1 t1)) (h2 : w.heap[b]? = some (Obj.cells c2 t2)) (hne : t1 ≠ t2) : a ≠ b := by
  rintro rfl
  rw [h1] at h2
  simp only [Option.some.injEq, Obj.cells.injEq] at h2
  exact hne h2.2.1
theorem getD_pre {l r : List Nat} {j : Nat} (h : j < l.length) : (l ++ r).getD j 0 = l.getD j 0 := by
  simp [List.getD_eq_getElem?_getD, List.getElem?_append_left h]
theorem BC.lew {w2 : World} {O : List (List Tx)} {n DB i : Nat} {ord : List Nat} {ov dv : Value} {xs : List Value} {W : World} (h : BC w2 O n DB i ord ov dv xs W) : ∃ cur, W.heap[w2.heap.size]? = some (.cells cur 3) := (own_blk h.num (b := w2.heap.size) rfl).2
theorem BL.push {w2 W V w6 : World} {O : List (List Tx)} {n DB SB i k y g6 cp6 : Nat} {ord : List Nat} {s : St} {aj : Option Addr} {cj : Nat} {ov dv va : Value} {xs : List Value} (h : BL w2 O n DB SB i k ord s aj cj ov dv va xs W) (hy : y ∉ ord) (hyO : y < O.length) (hk : ∀ a ∈ s.2.take k, a.2.1.toNat ∈ ord)
    (hV : Below W.heap.size (W.setCell ⟨w2.heap.size, y, none⟩ (.int .i64 (ord.length : Int))) V) (hown : w6.ownsRow (w2.heap.size + 1) 3 1 (.slice (some ⟨g6, 0, none⟩) (ord.length + 1) cp6) (ord.length + 1) (nV ord ++ [.int .i64 (y : Int)])) (hg : V.grownBy w6 ov.ownBlock) :
    BL w2 O n DB SB i k (ord ++ [y]) s aj cj (.slice (some ⟨g6, 0, none⟩) (ord.length + 1) cp6) dv va xs w6 := by
  obtain ⟨c0, hc0⟩ := h.lew
  have hov : ∀ b, ov.ownBlock = some b → w2.heap.size + 1 ≤ b ∧ ∃ cur, W.heap[b]? = some (.cells cur 3) := fun b hb => own_blk h.ordr hb
  have hset : ∀ b, b ≠ w2.heap.size → ∀ u, (W.setCell ⟨w2.heap.size, y, none⟩ u).heap[b]? = W.heap[b]? := fun b hb u => heap_set_other W w2.heap.size y u b hb
  have hVs : W.heap.size ≤ V.heap.size := by simpa using hV.size
  have hsz : W.heap.size ≤ w6.heap.size := Nat.le_trans hVs hg.size
  have hkeep : ∀ (b : Nat) (cs : Array Value) (t : TypeId), W.heap[b]? = some (Obj.cells cs t) → t ≠ 3 → w6.heap[b]? = W.heap[b]? := fun b cs t hb ht => by
    have hbl := (Array.getElem?_eq_some_iff.1 hb).1
    have hn : b ≠ w2.heap.size := blk_ne hb hc0 ht
    rw [hg.block b (by omega) (fun e => by obtain ⟨_, cur, hc⟩ := hov b e.symm; exact blk_ne hb hc ht rfl), hV.block b (by omega), hset b hn]
  have hN6 : w6.heap[w2.heap.size]? = (W.setCell ⟨w2.heap.size, y, none⟩ (.int .i64 (ord.length : Int))).heap[w2.heap.size]? := by
    have := (Array.getElem?_eq_some_iff.1 hc0).1
    rw [hg.block _ (by omega) (fun e => by have := (hov _ e.symm).1; omega), hV.block _ (by omega)]
  have hb1 : Below w2.heap.size w2 (W.setCell ⟨w2.heap.size, y, none⟩ (.int .i64 (ord.length : Int))) := h.bel.setCell (p := ⟨w2.heap.size, y, none⟩) (Nat.le_refl _) _
  have hb2 : Below w2.heap.size w2 V := hb1.trans (hV.mono h.bel.size)
  refine ⟨⟨hb2.grown hg hb2.size (fun b e => by have := (hov b e).1; omega), ?_, ?_, h.lt, (hkeep DB _ _ h.dbox (by decide)).trans h.dbox, ?_, ?_, fun j hj => ?_⟩, by have := h.il; simp; omega, h.slt, h.dlt, h.olds, (hkeep SB _ _ h.sbox (by decide)).trans h.sbox, (hkeep (SB + 1) _ _ h.obox (by decide)).trans h.obox, ?_⟩
  · have h1 := (h.num.stored y (.int .i64 (ord.length : Int))).1
    rw [rowZ_set, numZ_push ord y O.length hy] at h1
    exact own_congr h1 fun b hb => by cases hb; exact hN6
  · have e1 : nV (ord ++ [y]) = nV ord ++ [.int .i64 (y : Int)] := by simp [nV]
    rw [e1, List.length_append]
    exact hown
  · exact own_congr h.drow fun b hb => by
      obtain ⟨_, cur, hc⟩ := own_blk h.drow hb
      exact hkeep b _ _ hc (by decide)
  · intro x hx
    rcases List.mem_append.1 hx with hx | hx
    · exact h.all x hx
    · simp only [List.mem_singleton] at hx; rw [hx]; exact hyO
  · have hjl : j < ord.length := by have := h.il; omega
    rw [getD_pre hjl]
    obtain ⟨q0, q1, a, c, q2, q3, q4⟩ := h.sts j hj
    rw [renum_pre q0]
    refine ⟨fun a' ha => List.mem_append_left _ (q0 a' ha), q1, a, c, q2, q3.keep hsz fun b off e _ => ?_, fun b off e => ?_⟩
    · obtain ⟨_, cur, hc⟩ := q4 b off e
      exact hkeep b _ _ hc (by decide)
    · obtain ⟨q5, cur, hc⟩ := q4 b off e
      exact ⟨q5, cur, (hkeep b _ _ hc (by decide)).trans hc⟩
  · rw [renum_take hk]
    exact own_congr h.arow fun b hb => by
      obtain ⟨_, cur, hc⟩ := own_blk h.arow hb
      exact hkeep b _ _ hc (by decide)
theorem BL.below {w2 W W' : World} {O : List (List Tx)} {n DB SB i k : Nat} {ord : List Nat} {s : St} {aj : Option Addr} {cj : Nat} {ov dv va : Value} {xs : List Value} (h : BL w2 O n DB SB i k ord s aj cj ov dv va xs W) (hb : Below W.heap.size W W') : BL w2 O n DB SB i k ord s aj cj ov dv va xs W' :=
  ⟨h.toBC.below hb, h.il, h.slt, h.dlt, h.olds, blko h.sbox hb, blko h.obox hb, own_congr h.arow fun b hb2 => by
    obtain ⟨_, cur, hc⟩ := own_blk h.arow hb2
    exact hb.block b (Array.getElem?_eq_some_iff.1 hc).1⟩
theorem BL.arc {w2 W V w6 : World} {O : List (List Tx)} {n DB SB i k g6 cp6 : Nat} {ord : List Nat} {s : St} {aj : Option Addr} {cj : Nat} {ov dv va : Value} {xs : List Value} {p : Ar} (h : BL w2 O n DB SB i k ord s aj cj ov dv va xs W) (hp : (renum ord s).2[k]? = some p)
    (hV : Below W.heap.size W V) (hown : w6.ownsRow (SB + 2) 85 3 (.slice (some ⟨g6, 0, none⟩) (k + 1) cp6) (k + 1) (aC ((renum ord s).2.take k) ++ [.int .i64 p.1, .int .i64 p.2.1, .int .i64 p.2.2])) (hg : V.grownBy w6 va.ownBlock) (hat : va.ownBlock = some g6 ∨ g6 = V.heap.size) :
    w6.cell? ⟨SB + 1, 1, none⟩ = some va ∧ w6.frozen? ⟨SB + 1, 1, none⟩ = false ∧ BL w2 O n DB SB i (k + 1) ord s aj cj ov dv (.slice (some ⟨g6, 0, none⟩) (k + 1) cp6) xs (w6.setCell ⟨SB + 1, 1, none⟩ (.slice (some ⟨g6, 0, none⟩) (k + 1) cp6)) := by
  have hva : ∀ b, va.ownBlock = some b → SB + 2 ≤ b ∧ ∃ cur, W.heap[b]? = some (.cells cur 85) := fun b hb => own_blk h.arow hb
  have hsz : W.heap.size ≤ w6.heap.size := Nat.le_trans hV.size hg.size
  have hkeep : ∀ (b : Nat) (cs : Array Value) (t : TypeId), W.heap[b]? = some (Obj.cells cs t) → t ≠ 85 ∨ b < SB + 2 → w6.heap[b]? = W.heap[b]? := fun b cs t hb ht => by
    have hbl := (Array.getElem?_eq_some_iff.1 hb).1
    have hVs := hV.size
    rw [hg.block b (by omega) (fun e => by
      obtain ⟨h5, cur, hc⟩ := hva b e.symm
      rcases ht with ht | ht
      · exact blk_ne hb hc ht rfl
      · omega), hV.block b hbl]
  have hSBl := (Array.getElem?_eq_some_iff.1 h.obox).1
  have hg6 : g6 ≠ SB + 1 := by
    rcases hat with e | e
    · have := (hva g6 e).1; omega
    · have := hV.size; omega
  have hset : ∀ b, b ≠ SB + 1 → ∀ u, (w6.setCell ⟨SB + 1, 1, none⟩ u).heap[b]? = w6.heap[b]? := fun b hb u => heap_set_other w6 (SB + 1) 1 u b hb
  have hbox6 : w6.heap[SB + 1]? = some (.cells #[.bool s.1, va] 82) := (hkeep _ _ _ h.obox (Or.inr (by omega))).trans h.obox
  obtain ⟨c0, hc0⟩ := h.lew
  have hslt := h.slt
  have hb2 : Below w2.heap.size w2 V := h.bel.trans (hV.mono h.bel.size)
  have hb3 : Below w2.heap.size w2 w6 := hb2.grown hg hb2.size (fun b e => by have := (hva b e).1; omega)
  refine ⟨blkc hbox6 1, frozen_of_row w6 (SB + 1) 1 _ _ hbox6, ⟨⟨hb3.setCell (p := ⟨SB + 1, 1, none⟩) (by show w2.heap.size ≤ SB + 1; omega) _, ?_, ?_, h.lt, ?_, ?_, h.all, fun j hj => ?_⟩, h.il, h.slt, h.dlt, h.olds, ?_, ?_, ?_⟩⟩
  · exact own_congr h.num fun b hb => by
      cases hb
      rw [hset w2.heap.size (by omega)]
      exact hkeep _ _ _ hc0 (Or.inl (by decide))
  · exact own_congr h.ordr fun b hb => by
      obtain ⟨_, cur, hc⟩ := own_blk h.ordr hb
      rw [hset b (blk_ne hc h.obox (by decide))]
      exact hkeep _ _ _ hc (Or.inl (by decide))
  · rw [hset DB (by omega)]
    exact (hkeep DB _ _ h.dbox (Or.inl (by decide))).trans h.dbox
  · exact own_congr h.drow fun b hb => by
      obtain ⟨_, cur, hc⟩ := own_blk h.drow hb
      have := h.dlt b hb
      rw [hset b (by omega)]
      exact hkeep _ _ _ hc (Or.inr (by omega))
  · obtain ⟨q0, q1, a, c, q2, q3, q4⟩ := h.sts j hj
    have hk2 : ∀ b off, a = some ⟨b, off, none⟩ → (w6.setCell ⟨SB + 1, 1, none⟩ (.slice (some ⟨g6, 0, none⟩) (k + 1) cp6)).heap[b]? = W.heap[b]? := fun b off e => by
      obtain ⟨_, cur, hc⟩ := q4 b off e
      have h5 := h.olds j _ a c b off hj q2 e
      rw [hset b (by omega)]
      exact hkeep _ _ _ hc (Or.inr (by omega))
    refine ⟨q0, q1, a, c, q2, q3.keep (by simpa using hsz) fun b off e _ => hk2 b off e, fun b off e => ?_⟩
    obtain ⟨q5, cur, hc⟩ := q4 b off e
    exact ⟨q5, cur, (hk2 b off e).trans hc⟩
  · rw [hset SB (by omega)]
    exact (hkeep SB _ _ h.sbox (Or.inr (by omega))).trans h.sbox
  · exact heap_set_same hbox6 1 _
  · have hkl : k < (renum ord s).2.length := by
      rcases Nat.lt_or_ge k (renum ord s).2.length with h5 | h5
      · exact h5
      · rw [List.getElem?_eq_none h5] at hp; cases hp
    have e2 : (renum ord s).2.take (k + 1) = (renum ord s).2.take k ++ [p] := by
      rw [List.take_add_one, hp]; rfl
    rw [e2, aC_snoc]
    exact own_congr hown fun b hb => hset b (by cases hb; exact hg6) _
theorem BJ.next {w2 W V w6 : World} {O : List (List Tx)} {n root x DB SB i g6 cp6 : Nat} {ord0 ord : List Nat} {s : St} {aj : Option Addr} {cj : Nat} {ov dv va : Value} {xs : List Value} (h : BJ w2 O n DB SB i s.2.length ord0 ord s aj cj ov dv va xs W) (h0 : bfs (toAt (stM O)) i 0 [root] = ord0) (hx : ord0[i]? = some x) (hs : (stM O).getD x st0 = s)
    (hV : Below W.heap.size W V) (hown : w6.ownsRow (w2.heap.size + 1) 82 2 (.slice (some ⟨g6, 0, none⟩) (i + 1) cp6) (i + 1) (xs ++ [.bool s.1, va])) (hg : V.grownBy w6 dv.ownBlock) (hat : dv.ownBlock = some g6 ∨ g6 = V.heap.size) :
    w6.cell? ⟨DB, 1, none⟩ = some dv ∧ w6.frozen? ⟨DB, 1, none⟩ = false ∧ BI w2 O n root DB (i + 1) ord ov (.slice (some ⟨g6, 0, none⟩) (i + 1) cp6) (xs ++ [.bool s.1, va]) (w6.setCell ⟨DB, 1, none⟩ (.slice (some ⟨g6, 0, none⟩) (i + 1) cp6)) := by
  have hdv : ∀ b, dv.ownBlock = some b → w2.heap.size + 1 ≤ b ∧ ∃ cur, W.heap[b]? = some (.cells cur 82) := fun b hb => own_blk h.drow hb
  have hsz : W.heap.size ≤ w6.heap.size := Nat.le_trans hV.size hg.size
  have hkeep : ∀ (b : Nat) (cs : Array Value) (t : TypeId), W.heap[b]? = some (Obj.cells cs t) → t ≠ 82 → w6.heap[b]? = W.heap[b]? := fun b cs t hb ht => by
    have hbl := (Array.getElem?_eq_some_iff.1 hb).1
    have hVs := hV.size
    rw [hg.block b (by omega) (fun e => by
      obtain ⟨h5, cur, hc⟩ := hdv b e.symm
      exact blk_ne hb hc ht rfl), hV.block b hbl]
  have hDBl := (Array.getElem?_eq_some_iff.1 h.dbox).1
  have hg6 : g6 ≠ DB := by
    rcases hat with e | e
    · obtain ⟨_, cur, hc⟩ := hdv g6 e
      exact blk_ne hc h.dbox (by decide)
    · have := hV.size; omega
  have hset : ∀ b, b ≠ DB → ∀ u, (w6.setCell ⟨DB, 1, none⟩ u).heap[b]? = w6.heap[b]? := fun b hb u => heap_set_other w6 DB 1 u b hb
  have hbox6 : w6.heap[DB]? = some (.cells #[.int .i64 (n : Int), dv] 27) := (hkeep _ _ _ h.dbox (by decide)).trans h.dbox
  obtain ⟨c0, hc0⟩ := h.lew
  have hlt := h.lt
  have hb2 : Below w2.heap.size w2 V := h.bel.trans (hV.mono h.bel.size)
  have hb3 : Below w2.heap.size w2 w6 := hb2.grown hg hb2.size (fun b e => by have := (hdv b e).1; omega)
  have hxl : xs.length = i * 2 := h.drow.1
  have hpre : ∃ r, ord = ord0 ++ r := by rw [h.ordk]; exact meets_pre _ _
  obtain ⟨r, hr⟩ := hpre
  have hi0 : i < ord0.length := by
    rcases Nat.lt_or_ge i ord0.length with h5 | h5
    · exact h5
    · rw [List.getElem?_eq_none h5] at hx; cases hx
  have hxi : ord.getD i 0 = x := by
    rw [hr, getD_pre hi0, List.getD_eq_getElem?_getD, hx]; rfl
  have hk2 : ∀ (b : Nat) (cur : Array Value), W.heap[b]? = some (Obj.cells cur 85) → (w6.setCell ⟨DB, 1, none⟩ (.slice (some ⟨g6, 0, none⟩) (i + 1) cp6)).heap[b]? = W.heap[b]? := fun b cur hc => by
    rw [hset b (blk_ne hc h.dbox (by decide))]
    exact hkeep _ _ _ hc (by decide)
  have hrl : (renum ord s).2.length = s.2.length := by simp [renum]
  have harow := h.arow
  rw [List.take_of_length_le (by omega), ← hrl] at harow
  obtain ⟨av, cv, hvv, hHA, hHb⟩ := holdA_of harow
  refine ⟨blkc hbox6 1, frozen_of_row w6 DB 1 _ _ hbox6, ⟨⟨hb3.setCell (p := ⟨DB, 1, none⟩) (by show w2.heap.size ≤ DB; omega) _, ?_, ?_, h.lt, heap_set_same hbox6 1 _, ?_, h.all, fun j hj => ?_⟩, ?_, by have := h.il; omega⟩⟩
  · exact own_congr h.num fun b hb => by
      cases hb
      rw [hset w2.heap.size (by omega)]
      exact hkeep _ _ _ hc0 (by decide)
  · exact own_congr h.ordr fun b hb => by
      obtain ⟨_, cur, hc⟩ := own_blk h.ordr hb
      rw [hset b (blk_ne hc h.dbox (by decide))]
      exact hkeep _ _ _ hc (by decide)
  · exact own_congr hown fun b hb => hset b (by cases hb; exact hg6) _
  · by_cases e : j < i
    · obtain ⟨q0, q1, a, c, q2, q3, q4⟩ := h.sts j e
      rw [List.getElem?_append_left (by omega), List.getElem?_append_left (by omega)]
      refine ⟨q0, q1, a, c, q2, q3.keep (by simpa using hsz) fun b off e _ => ?_, fun b off e => ?_⟩
      · obtain ⟨_, cur, hc⟩ := q4 b off e
        exact hk2 b cur hc
      · obtain ⟨q5, cur, hc⟩ := q4 b off e
        exact ⟨q5, cur, (hk2 b cur hc).trans hc⟩
    · obtain rfl : j = i := by omega
      rw [hxi, hs, List.getElem?_append_right (by omega), List.getElem?_append_right (by omega), show j * 2 - xs.length = 0 from by omega, show j * 2 + 1 - xs.length = 1 from by omega]
      refine ⟨fun a ha => ?_, rfl, av, cv, by rw [hvv, hrl]; rfl, hHA.keep (by simpa using hsz) fun b off e _ => ?_, fun b off e => ?_⟩
      · rw [h.ordk, List.take_length]
        exact meets_mem.2 (Or.inr (List.mem_map.2 ⟨a, ha, rfl⟩))
      · obtain ⟨_, cur, hc⟩ := own_blk harow (hHb b off e)
        exact hk2 b cur hc
      · obtain ⟨h5, cur, hc⟩ := own_blk harow (hHb b off e)
        have := h.slt
        exact ⟨by omega, cur, (hk2 b cur hc).trans hc⟩
  · rw [bfs_step h0 hx, h.ordk, List.take_length, toAt, arcsAt, hs]
theorem arc_to {O : List (List Tx)} (hok : OkO O) {x : Nat} (h : x < O.length) {s : St} (hs : (stM O).getD x st0 = s) : s.2.length ≤ 256 ∧ ∀ a ∈ s.2, a.2.1 = ((a.2.1.toNat : Nat) : Int) ∧ a.2.1.toNat < O.length := by
  have e := stM_set h
  rw [hs] at e
  refine ⟨?_, fun a ha => ⟨?_, ?_⟩⟩
  · rw [e]
    have := labelsT_len (setAt O x)
    simpa [stOf] using this
  · rw [e, stOf] at ha
    obtain ⟨q, _, rfl⟩ := List.mem_map.1 ha
    simp
  · refine toAt_lt hok h _ ?_
    rw [toAt, arcsAt, hs]
    exact List.mem_map.2 ⟨a, ha, rfl⟩
theorem BJ.len {w2 W : World} {O : List (List Tx)} {n DB SB i k : Nat} {ord0 ord : List Nat} {s : St} {aj : Option Addr} {cj : Nat} {ov dv va : Value} {xs : List Value} (h : BJ w2 O n DB SB i k ord0 ord s aj cj ov dv va xs W) (hn : ord0.Nodup) : ord.length ≤ O.length := by
  have hn2 : ord.Nodup := by rw [h.ordk]; exact meets_nodup hn
  have hs := hn2.length_le_of_subset (l₂ := List.range O.length) (fun x hx => by simpa using h.all x hx)
  simpa using hs
theorem BJ.told {w2 W : World} {O : List (List Tx)} {n DB SB i k : Nat} {ord0 ord : List Nat} {s : St} {aj : Option Addr} {cj : Nat} {ov dv va : Value} {xs : List Value} (h : BJ w2 O n DB SB i k ord0 ord s aj cj ov dv va xs W) : ∀ a ∈ s.2.take k, a.2.1.toNat ∈ ord := fun a ha => by
  rw [h.ordk]; exact meets_mem.2 (Or.inr (List.mem_map.2 ⟨a, ha, rfl⟩))
theorem ordk_in {s : St} {k y : Nat} {ord0 ord : List Nat} {a : Ar} (ha : s.2[k]? = some a) (hy : a.2.1.toNat = y) (h : ord = meets ord0 ((s.2.take k).map fun a => a.2.1.toNat)) (hm : y ∈ ord) : ord = meets ord0 ((s.2.take (k + 1)).map fun a => a.2.1.toNat) := by
  rw [List.take_add_one, ha]
  simp only [Option.toList_some, List.map_append, List.map_cons, List.map_nil, meets_snoc, ← h, hy, meet, if_pos hm]
theorem ordk_new {s : St} {k y : Nat} {ord0 ord : List Nat} {a : Ar} (ha : s.2[k]? = some a) (hy : a.2.1.toNat = y) (h : ord = meets ord0 ((s.2.take k).map fun a => a.2.1.toNat)) (hm : y ∉ ord) : ord ++ [y] = meets ord0 ((s.2.take (k + 1)).map fun a => a.2.1.toNat) := by
  rw [List.take_add_one, ha]
  simp only [Option.toList_some, List.map_append, List.map_cons, List.map_nil, meets_snoc, ← h, hy, meet, if_neg hm]
theorem BL.box {w2 W : World} {O : List (List Tx)} {n DB SB i k QB : Nat} {ord : List Nat} {s : St} {aj : Option Addr} {cj : Nat} {ov dv va : Value} {xs : List Value} {cs : Array Value} (h : BL w2 O n DB SB i k ord s aj cj ov dv va xs W) (hQ : W.heap[QB]? = some (Obj.cells cs 85)) (hv : va.ownBlock ≠ some QB) (hl : SB + 2 ≤ QB) (u : Value) : BL w2 O n DB SB i k ord s aj cj ov dv va xs (W.setCell ⟨QB, 1, none⟩ u) := by
  have hset : ∀ b, b ≠ QB → (W.setCell ⟨QB, 1, none⟩ u).heap[b]? = W.heap[b]? := fun b hb => heap_set_other W QB 1 u b hb
  obtain ⟨c0, hc0⟩ := h.lew
  have hslt := h.slt
  refine ⟨⟨h.bel.setCell (p := ⟨QB, 1, none⟩) (by show w2.heap.size ≤ QB; omega) _, ?_, ?_, h.lt, ?_, ?_, h.all, fun j hj => ?_⟩, h.il, h.slt, h.dlt, h.olds, ?_, ?_, ?_⟩
  · exact own_congr h.num fun b hb => by
      cases hb
      exact hset w2.heap.size (by omega)
  · exact own_congr h.ordr fun b hb => by
      obtain ⟨_, cur, hc⟩ := own_blk h.ordr hb
      exact hset b (blk_ne hc hQ (by decide))
  · rw [hset DB (by omega)]; exact h.dbox
  · exact own_congr h.drow fun b hb => by
      obtain ⟨_, cur, hc⟩ := own_blk h.drow hb
      exact hset b (blk_ne hc hQ (by decide))
  · obtain ⟨q0, q1, a, c, q2, q3, q4⟩ := h.sts j hj
    refine ⟨q0, q1, a, c, q2, q3.keep (by simp) fun b off e _ => ?_, fun b off e => ?_⟩
    · have h5 := h.olds j _ a c b off hj q2 e
      exact hset b (by omega)
    · obtain ⟨q5, cur, hc⟩ := q4 b off e
      have h5 := h.olds j _ a c b off hj q2 e
      exact ⟨q5, cur, (hset b (by omega)).trans hc⟩
  · rw [hset SB (by omega)]; exact h.sbox
  · rw [hset (SB + 1) (by omega)]; exact h.obox
  · exact own_congr h.arow fun b hb => hset b (by rintro rfl; exact hv hb)
theorem box_grown {W V w6 : World} {QB : Nat} {o : Obj} {v : Value} (hQ : W.heap[QB]? = some o) (hV : Below W.heap.size W V) (hg : V.grownBy w6 v.ownBlock) (hv : v.ownBlock ≠ some QB) : w6.heap[QB]? = some o := by
  have h1 := (Array.getElem?_eq_some_iff.1 hQ).1
  have h2 := hV.size
  rw [hg.block QB (by omega) (fun e => hv e.symm), hV.block QB h1, hQ]
theorem renum_at {ord : List Nat} {s : St} {k : Nat} {a : Ar} (h : s.2[k]? = some a) : (renum ord s).2[k]? = some (a.1, ((ord.idxOf a.2.1.toNat : Nat) : Int), a.2.2) := by
  simp [renum, h]
end Go.Proofs.Ytbkedgpligcicaa

namespace Go.Proofs.Ytbkedgpligcicaa
open Go Go.RowKit
set_option linter.unusedVariables false

/-! spec.l04All: what decides whether states and a count are a dictionary. -/
theorem okD_true {c : Int} {S : List St} (h : ∃ ts, IsDict (c, S) ts) : okD c S = true := @decide_eq_true _ (Classical.propDecidable _) h
theorem okD_false {c : Int} {S : List St} (h : ¬ ∃ ts, IsDict (c, S) ts) : okD c S = false := @decide_eq_false _ (Classical.propDecidable _) h
section
variable {c : Int} {S : List St} {ts : List Tx}
theorem IsDict.len (h : IsDict (c, S) ts) : 1 ≤ S.length ∧ S.length ≤ 16384 := by
  obtain ⟨hg, ord, hb, hl, hd⟩ := h
  unfold dictOf at hd
  obtain ⟨_, hS⟩ := Prod.mk.inj hd
  have h0 := (List.getElem?_eq_some_iff.1 hb.head).1
  rw [hS, List.length_map]
  omega
theorem one_form (h1 : S.length = 1) (hf : finAt S 0 = false) (ha : (arcsAt S 0).length = 0) : S = [(false, [])] := by
  match S, h1 with
  | [s], _ =>
    obtain ⟨f, l⟩ := s
    have e1 : f = false := hf
    have e2 : l = [] := List.length_eq_zero_iff.1 ha
    rw [e1, e2]
theorem one_dict (h1 : S.length = 1) (hf : finAt S 0 = false) (ha : (arcsAt S 0).length = 0) (h : IsDict (c, S) ts) : ts = [] ∧ c = 0 := by
  rw [one_form h1 hf ha] at h
  have e := h.langIs
  have e2 : langF [((false, []) : St)] 65 0 = [] := rfl
  rw [e2] at e
  rw [← e] at h
  exact ⟨e.symm, (Prod.mk.inj (IsDict.none.1 h)).1⟩
theorem one_ok (h1 : S.length = 1) (hf : finAt S 0 = false) (ha : (arcsAt S 0).length = 0) : okD c S = (c == 0) := by
  by_cases hc : c = 0
  · rw [okD_true ⟨[], IsDict.none.2 (by rw [one_form h1 hf ha, hc])⟩, hc]; rfl
  · rw [okD_false (fun ⟨ts, h⟩ => hc (one_dict h1 hf ha h).2)]; simp [hc]
theorem not_one (h : IsDict (c, S) ts) (hn : ¬ (S.length = 1 ∧ finAt S 0 = false ∧ (arcsAt S 0).length = 0)) : ts ≠ [] := by
  rintro rfl
  have e := (Prod.mk.inj (IsDict.none.1 h)).2
  refine hn ?_
  rw [e]
  exact ⟨rfl, rfl, rfl⟩
theorem IsDict.big (h : IsDict (c, S) ts) {f : Nat} (hf : 65 ≤ f) : langF S f 0 = ts := by
  obtain ⟨hg, ord, hb, hl, hd⟩ := h
  unfold dictOf at hd
  obtain ⟨_, hS⟩ := Prod.mk.inj hd
  rw [hS]
  exact langF_of hb f 0 ts hb.head hg.1 fun t ht => by have := (hg.2.2 t ht).2; omega
theorem IsDict.fine (h : IsDict (c, S) ts) (hne : ts ≠ []) : Fine S := by
  have hc := h.checks hne
  intro i hi
  refine ⟨?_, fun a ha => ⟨(hc.lab i hi a ha).1, (hc.lab i hi a ha).2, (hc.to i hi a ha).1, (hc.to i hi a ha).2⟩⟩
  obtain ⟨hg, ord, hb, hl, hd⟩ := h
  unfold dictOf at hd
  obtain ⟨_, hS⟩ := Prod.mk.inj hd
  have hi' : i < ord.length := by rw [hS, List.length_map] at hi; exact hi
  have e : arcsAt S i = (stOf ord ord[i]).2 := by
    rw [arcsAt, hS, List.getD_eq_getElem?_getD, List.getElem?_map, List.getElem?_eq_getElem hi']; rfl
  rw [e]
  have := labelsT_len ord[i]
  simpa [stOf] using this
/-- No count has been made. -/
theorem valD_none (n j : Nat) : valD (List.replicate n (-1)) j = -1 := by
  unfold valD
  rw [List.getD_eq_getElem?_getD, List.getElem?_replicate]
  split <;> rfl
theorem cnt_start (S : List St) : CntOK S (List.replicate S.length (-1)) (fun _ => 0) 0 := by
  refine ⟨by simp, fun i _ => by rw [valD_none]; omega, fun i _ h => ?_, fun i _ h => ?_, fun i _ h => ?_, fun i _ h => ?_⟩ <;> (rw [valD_none] at h; omega)
theorem agree_start (S : List St) (e : Nat → Nat) : AgreeD S (List.replicate S.length (-1)) e := fun i _ h => by rw [valD_none] at h; omega
/-- What the count says of a dictionary. -/
def CntSays (S : List St) (x : Int) : Prop := ∀ e g, Sane S e g → Fine S → g 0 ≤ 64 → x = (e 0 : Int)
theorem says_dict {x : Int} (hx : CntSays S x) (h : IsDict (c, S) ts) (hne : ts ≠ []) : x ≠ 0 ∧ x ≤ 4096 ∧ x = c ∧ finAt S 0 = false := by
  have hc := h.checks hne
  have h0 := hx _ _ (h.sane hne) (h.fine hne) (hc.deep 0 (by have := hc.n1; omega))
  have h1 := hc.least 0 (by have := hc.n1; omega)
  have h2 := hc.most
  have h3 := hc.count
  refine ⟨?_, ?_, ?_, hc.fin0⟩ <;> omega
/-- Texts that rise from one to the next. -/
def upTo (L : List Tx) (i : Nat) : Prop := (∀ j, j < i → (L.getD j []).length ≤ 64) ∧ ∀ j, 0 < j → j < i → ltT (L.getD (j - 1) []) (L.getD j []) = true
theorem upTo_zero (L : List Tx) : upTo L 0 := ⟨fun j h => by omega, fun j _ h => by omega⟩
theorem upTo_step {L : List Tx} {i : Nat} (h : upTo L i) (h1 : (L.getD i []).length ≤ 64) (h2 : 0 < i → ltT (L.getD (i - 1) []) (L.getD i []) = true) : upTo L (i + 1) := by
  refine ⟨fun j hj => ?_, fun j h0 hj => ?_⟩
  · by_cases e : j = i
    · rw [e]; exact h1
    · exact h.1 j (by omega)
  · by_cases e : j = i
    · subst e; exact h2 h0
    · exact h.2 j h0 (by omega)
theorem getD_at {L : List Tx} {j : Nat} (h : j < L.length) : L.getD j [] = L[j] := by simp [h]
theorem upTo_rise {L : List Tx} (h : upTo L L.length) : RiseT L := by
  have hs : ∀ (d i : Nat), i + d + 1 < L.length → ltT (L.getD i []) (L.getD (i + d + 1) []) = true := by
    intro d
    induction d with
    | zero => intro i hi; have := h.2 (i + 0 + 1) (by omega) hi; simpa using this
    | succ d ih =>
      intro i hi
      have h1 := ih i (by omega)
      have h2 := h.2 (i + (d + 1) + 1) (by omega) hi
      exact ltT_trans h1 (by simpa [Nat.add_assoc] using h2)
  refine List.pairwise_iff_getElem.2 fun i j hi hj hij => ?_
  have := hs (j - i - 1) i (by omega)
  rw [show i + (j - i - 1) + 1 = j from by omega, getD_at hi, getD_at hj] at this
  exact this
theorem upTo_short {L : List Tx} (h : upTo L L.length) : ∀ t ∈ L, t.length ≤ 64 := fun t ht => by
  obtain ⟨j, hj, rfl⟩ := List.getElem_of_mem ht
  have := h.1 j hj
  rwa [getD_at hj] at this
theorem good_upTo (h : GoodT ts) : upTo ts ts.length := by
  refine ⟨fun j hj => ?_, fun j h0 hj => ?_⟩
  · rw [getD_at hj]; exact (h.2.2 _ (List.getElem_mem hj)).2
  · rw [getD_at hj, getD_at (show j - 1 < ts.length by omega)]
    exact List.pairwise_iff_getElem.1 h.1 (j - 1) j (by omega) hj (by omega)
theorem lang_some {f : Nat} (hf : finAt S 0 = false) : ∀ t ∈ langF S f 0, 1 ≤ t.length := by
  intro t ht
  cases f with
  | zero => simp [langF] at ht
  | succ f =>
    rw [langF] at ht
    have hf2 : (S.getD 0 st0).1 = false := hf
    rw [hf2, joinT] at ht
    simp only [Bool.false_eq_true, if_false, List.nil_append, List.mem_flatMap, List.mem_map] at ht
    obtain ⟨p, _, r, _, rfl⟩ := ht
    simp
/-- The last test. -/
theorem same_ok {f : Nat} {ord : List (List Tx)} (hn : S.length ≤ 16384) (hf : finAt S 0 = false) (hl : (langF S f 0).length ≤ 4096) (hu : upTo (langF S f 0) (langF S f 0).length) (hb : IsBfs nextT (langF S f 0) ord) (he : (((langF S f 0).length : Int), (dictOf (langF S f 0) ord).2) = (c, S)) : IsDict (c, S) (langF S f 0) := by
  refine ⟨⟨upTo_rise hu, hl, fun t ht => ⟨lang_some hf t ht, upTo_short hu t ht⟩⟩, ord, hb, ?_, he.symm⟩
  have := (Prod.mk.inj he).2
  have h2 := congrArg List.length this
  rw [dictOf, List.length_map] at h2
  omega
theorem same_not {f : Nat} {ord : List (List Tx)} (hf : 65 ≤ f) (hb : IsBfs nextT (langF S f 0) ord) (hne : ¬ (((langF S f 0).length : Int), (dictOf (langF S f 0) ord).2) = (c, S)) : ¬ ∃ ts, IsDict (c, S) ts := by
  rintro ⟨ts, h⟩
  have e := h.big hf
  rw [e] at hb hne
  obtain ⟨_, o2, h2, _, h3⟩ := h
  rw [hb.uniq h2] at hne
  exact hne h3.symm
theorem chk_not {f : Nat} (hf : 65 ≤ f) (hne : ¬ upTo (langF S f 0) (langF S f 0).length) : ¬ ∃ ts, IsDict (c, S) ts := by
  rintro ⟨ts, h⟩
  rw [h.big hf] at hne
  exact hne (good_upTo h.1)
theorem less_lt : ∀ (x y : Tx), Op.bytesLess x y = ltT x y
  | [], [] => rfl
  | _ :: _, [] => rfl
  | [], _ :: _ => rfl
  | a :: x, b :: y => by
    rw [Op.bytesLess, ltT, less_lt x y]
    rfl
theorem le_lt : ∀ (x y : Tx), (Op.bytesLess x y || x == y) = !(ltT y x)
  | [], [] => rfl
  | _ :: _, [] => rfl
  | [], _ :: _ => rfl
  | a :: x, b :: y => by
    have ih := le_lt x y
    rw [Op.bytesLess, ltT, ← Bool.not_eq_not, Bool.not_not]
    rcases Nat.lt_trichotomy a.toNat b.toNat with h | h | h
    · have h1 : a < b := h
      have h3 : ¬ b = a := fun e => by rw [e] at h; omega
      have h4 : ¬ b.toNat < a.toNat := by omega
      simp [h1, h3, h4]
    · have h1 : a = b := UInt8.toNat_inj.1 h
      subst h1
      have h2 : ¬ a < a := fun e => Nat.lt_irrefl a.toNat e
      rw [Bool.eq_iff_iff] at ih ⊢
      simp [h2] at ih ⊢
      cases h5 : ltT y x <;> simp [h5] at ih ⊢
      · intro h6
        rcases ih with e | e
        · rw [h6] at e; cases e
        · exact e
      · exact ih
    · have h1 : ¬ a < b := fun e => by have e2 : a.toNat < b.toNat := e; omega
      have h2 : ¬ a = b := fun e => by rw [e] at h; omega
      simp [h1, h2, h]
end
end Go.Proofs.Ytbkedgpligcicaa

namespace Go.Proofs.Ytbkedgpligcicaa
open Go Go.RowKit
set_option linter.unusedVariables false
theorem terms_any {w0 : World} {aS : Option Addr} {cS : Nat} {c : Int} {S : List St} {D : List Int} {ρ : Nat → Nat} {M : Nat} (hn : S.length ≤ 16384) (hS : HoldS w0 aS S) (hok : CntOK S D ρ M) : ∀ f, TermsC w0 aS cS c S D ρ f
  | 0 => fun i bh hc head A v w _ _ hρ => absurd hρ (Nat.not_lt_zero _)
  | f + 1 => terms_step hn hS hok (terms_any hn hS hok f)
end Go.Proofs.Ytbkedgpligcicaa
