import Derived.Test.YtoinajfliogcdaaDoorNearJ07
namespace Go.Proofs.YtoinajfliogcdaaDoor
open Go Go.RowKit
set_option linter.unusedVariables false
set_option maxRecDepth 100000

structure Fz2 (w0 W : World) (tb rb : Nat) (vl vf vn vw vr : Value) (word ls : List Int) (Z : List (List Int)) (us : List Value) (nxt : List (List Nat)) (ns : List Value) (fins : List Bool) (R : RowMap) : Prop where
 below : Below w0.heap.size w0 W
 low : w0.heap.size ≤ tb ∧ w0.heap.size ≤ rb
 res : W.heap[tb]? = some (.cells #[.slice none 0 0] 27)
 rawb : W.heap[rb]? = some (.cells #[vl, vf, vn] 62)
 rows : RowsF W w0.heap.size R
 letr : R 0 = some (vl, ls)
 wrd : R 1 = some (vw, word)
 outer : W.ownsRow w0.heap.size 30 1 vr Z.length us
 row : ∀ (j : Nat) u z, us[j]? = some u → Z[j]? = some z → R (4 + 2 * j) = some (u, z)
 nx : W.ownsRow w0.heap.size 30 1 vn nxt.length ns
 nxr : ∀ (j : Nat) u s, ns[j]? = some u → nxt[j]? = some s → R (5 + 2 * j) = some (u, nat2 s)
 apart : ∀ b, vr.ownBlock = some b → vn.ownBlock ≠ some b
 fin : W.ownsRow w0.heap.size 4 1 vf fins.length (fins.map Value.bool)
section
variable {w0 W W' : World} {tb rb : Nat} {vl vf vn vw vr : Value} {word ls : List Int} {Z : List (List Int)} {us : List Value} {nxt : List (List Nat)} {ns : List Value} {fins : List Bool} {R R' : RowMap}
theorem Fz2.keep (h : Fz2 w0 W tb rb vl vf vn vw vr word ls Z us nxt ns fins R) (hb : Below W.heap.size W W') : Fz2 w0 W' tb rb vl vf vn vw vr word ls Z us nxt ns fins R :=
 ⟨h.below.trans (hb.mono h.below.size), h.low, blko h.res hb, blko h.rawb hb, h.rows.below hb, h.letr, h.wrd, own_below h.outer hb, h.row, own_below h.nx hb, h.nxr, h.apart, own_below h.fin hb⟩
theorem ne_of_type {W : World} {b c : Nat} {cs ds : Array Value} {t u : TypeId} (h : W.heap[b]? = some (.cells cs t)) (k : W.heap[c]? = some (.cells ds u)) (ht : t ≠ u) : b ≠ c := by
 rintro rfl
 rw [h] at k
 simp only [Option.some.injEq, Obj.cells.injEq] at k
 exact ht k.2.1
theorem Fz2.ints (h : Fz2 w0 W tb rb vl vf vn vw vr word ls Z us nxt ns fins R) (hB : Below w0.heap.size w0 W') (hk : ∀ (b : Nat) (cs : Array Value) (t : TypeId), t ≠ 3 → W.heap[b]? = some (.cells cs t) → W'.heap[b]? = some (.cells cs t)) (hR : RowsF W' w0.heap.size R') (ho : ∀ a, a ≠ 2 → a ≠ 3 → R' a = R a) : Fz2 w0 W' tb rb vl vf vn vw vr word ls Z us nxt ns fins R' := by
 refine ⟨hB, h.low, hk _ _ _ (by decide) h.res, hk _ _ _ (by decide) h.rawb, hR, by rw [ho 0 (by omega) (by omega)]; exact h.letr, by rw [ho 1 (by omega) (by omega)]; exact h.wrd, ?_, fun j u z h1 h2 => by rw [ho _ (by omega) (by omega)]; exact h.row j u z h1 h2, ?_, fun j u z h1 h2 => by rw [ho _ (by omega) (by omega)]; exact h.nxr j u z h1 h2, h.apart, ?_⟩
 ·refine own_congr h.outer (fun b hb => ?_)
  obtain ⟨_, cur, h2⟩ := own_blk h.outer hb
  rw [hk b cur _ (by decide) h2, h2]
 ·refine own_congr h.nx (fun b hb => ?_)
  obtain ⟨_, cur, h2⟩ := own_blk h.nx hb
  rw [hk b cur _ (by decide) h2, h2]
 ·refine own_congr h.fin (fun b hb => ?_)
  obtain ⟨_, cur, h2⟩ := own_blk h.fin hb
  rw [hk b cur _ (by decide) h2, h2]
theorem Fz2.growInt (h : Fz2 w0 W tb rb vl vf vn vw vr word ls Z us nxt ns fins R) {i : Nat} (hi2 : i = 2 ∨ i = 3) {u u' : Value} {zs ys : List Int} (hi : R i = some (u, zs)) (hg : But (fun b => u.ownBlock = some b) W W') (hv : W'.ownsRow w0.heap.size 3 1 u' ys.length (zI ys)) (hat : ∀ b, u'.ownBlock = some b → u.ownBlock = some b ∨ W.heap.size ≤ b) : Fz2 w0 W' tb rb vl vf vn vw vr word ls Z us nxt ns fins (upd R i (some (u', ys))) := by
 have ho := h.rows.own i u zs hi
 refine h.ints (h.below.trans (hg.below h.below.size (fun j hj e => by have := (own_blk ho e).1; omega))) (fun b cs t ht hh => ?_) (h.rows.growB hi hg hv hat) (fun a h2 h3 => upd_other _ _ (by omega))
 rw [hg.block b (Array.getElem?_eq_some_iff.1 hh).1 (fun e => by
  obtain ⟨_, c2, k2⟩ := own_blk ho e
  exact ne_of_type hh k2 ht rfl)]
 exact hh
theorem Fz2.newInt (h : Fz2 w0 W tb rb vl vf vn vw vr word ls Z us nxt ns fins R) (hb : Below W.heap.size W W') {i : Nat} (hi2 : i = 2 ∨ i = 3) {v : Value} {zs : List Int} (hv : W'.ownsRow W.heap.size 3 1 v zs.length (zI zs)) : Fz2 w0 W' tb rb vl vf vn vw vr word ls Z us nxt ns fins (upd R i (some (v, zs))) :=
 h.ints (h.below.trans (hb.mono h.below.size)) (fun b cs t _ hh => blko hh hb) (h.rows.new hb h.below.size hv) (fun a h2 h3 => upd_other _ _ (by omega))
theorem own_notInt {e : TypeId} {base n : Nat} {v : Value} {xs : List Value} (h : W.ownsRow base e 1 v n xs) (he : e ≠ 3) : ∀ b, v.ownBlock = some b → ∀ cur, W.heap[b]? ≠ some (.cells cur 3) := by
 intro b hb cur hh
 obtain ⟨_, c2, k2⟩ := own_blk h hb
 exact ne_of_type k2 hh he rfl
theorem Fz2.pushRow (h : Fz2 w0 W tb rb vl vf vn vw vr word ls Z us nxt ns fins R) {vg vr' : Value} {z : List Int} (hg : R 3 = some (vg, z)) (hb : But (fun b => vr.ownBlock = some b) W W') (ho : W'.ownsRow w0.heap.size 30 1 vr' (Z.length + 1) (us ++ [vg])) (hat : ∀ b, vr'.ownBlock = some b → vr.ownBlock = some b ∨ W.heap.size ≤ b) :
  Fz2 w0 W' tb rb vl vf vn vw vr' word ls (Z ++ [z]) (us ++ [vg]) nxt ns fins (upd (upd R (4 + 2 * Z.length) (some (vg, z))) 3 none) := by
 have hus : us.length = Z.length := by have := h.outer.1; omega
 have hk : ∀ (b : Nat) (cs : Array Value) (t : TypeId), vr.ownBlock ≠ some b → W.heap[b]? = some (.cells cs t) → W'.heap[b]? = some (.cells cs t) := by
  intro b cs t hn hh
  rw [hb.block b (Array.getElem?_eq_some_iff.1 hh).1 hn]; exact hh
 have ht : ∀ (b : Nat) (cs : Array Value) (t : TypeId), t ≠ 30 → W.heap[b]? = some (.cells cs t) → W'.heap[b]? = some (.cells cs t) := by
  intro b cs t hn hh
  refine hk b cs t (fun e => ?_) hh
  obtain ⟨_, c2, k2⟩ := own_blk h.outer e
  exact ne_of_type hh k2 hn rfl
 have hrn := (h.rows.but hb (own_notInt h.outer (by decide))).rename (j := 4 + 2 * Z.length) hg (by omega)
 have hR : ∀ a, a ≠ 3 → a ≠ 4 + 2 * Z.length → upd (upd R (4 + 2 * Z.length) (some (vg, z))) 3 none a = R a := fun a h1 h2 => by rw [upd_other _ _ h1, upd_other _ _ h2]
 refine ⟨h.below.trans (hb.below h.below.size (fun i hi e => by have := (own_blk h.outer e).1; omega)), h.low, ht _ _ _ (by decide) h.res, ht _ _ _ (by decide) h.rawb, hrn, by rw [hR 0 (by omega) (by omega)]; exact h.letr, by rw [hR 1 (by omega) (by omega)]; exact h.wrd, by rw [List.length_append, List.length_singleton]; exact ho, fun j u t h1 h2 => ?_, ?_, fun j u t h1 h2 => by rw [hR _ (by omega) (by omega)]; exact h.nxr j u t h1 h2, fun b hbb => ?_, ?_⟩
 ·by_cases hj : j = Z.length
  ·subst hj
   rw [upd_other _ _ (by omega), upd_same]
   have e1 : vg = u := by rw [← hus] at h1; simpa using h1
   have e2 : z = t := by simpa using h2
   rw [e1, e2]
  ·have hj' : j < Z.length := by
    have := (List.getElem?_eq_some_iff.1 h2).1
    simp at this
    omega
   rw [hR _ (by omega) (by omega)]
   exact h.row j u t (by rw [List.getElem?_append_left (by omega)] at h1; exact h1) (by rw [List.getElem?_append_left hj'] at h2; exact h2)
 ·refine own_congr h.nx (fun b hbb => ?_)
  obtain ⟨_, cur, h2⟩ := own_blk h.nx hbb
  rw [hk b cur _ (fun e => h.apart b e hbb) h2, h2]
 ·rcases hat b hbb with h1 | h1
  ·exact h.apart b h1
  ·intro e
   obtain ⟨_, cur, h2⟩ := own_blk h.nx e
   have := (Array.getElem?_eq_some_iff.1 h2).1
   omega
 ·refine own_congr h.fin (fun b hbb => ?_)
  obtain ⟨_, cur, h2⟩ := own_blk h.fin hbb
  rw [ht b cur _ (by decide) h2, h2]
theorem Fz2.pushNext (h : Fz2 w0 W tb rb vl vf vn vw vr word ls Z us nxt ns fins R) {vt vn' : Value} {s : List Nat} (hg : R 2 = some (vt, nat2 s)) (hb : But (fun b => vn.ownBlock = some b) W W') (ho : W'.ownsRow w0.heap.size 30 1 vn' (nxt.length + 1) (ns ++ [vt])) (hat : ∀ b, vn'.ownBlock = some b → vn.ownBlock = some b ∨ W.heap.size ≤ b) :
  Fz2 w0 (W'.setCell ⟨rb, 2, none⟩ vn') tb rb vl vf vn' vw vr word ls Z us (nxt ++ [s]) (ns ++ [vt]) fins (upd (upd R (5 + 2 * nxt.length) (some (vt, nat2 s))) 2 none) ∧ W'.heap[rb]? = some (.cells #[vl, vf, vn] 62) := by
 have hus : ns.length = nxt.length := by have := h.nx.1; omega
 have hk : ∀ (b : Nat) (cs : Array Value) (t : TypeId), vn.ownBlock ≠ some b → W.heap[b]? = some (.cells cs t) → W'.heap[b]? = some (.cells cs t) := by
  intro b cs t hn hh
  rw [hb.block b (Array.getElem?_eq_some_iff.1 hh).1 hn]; exact hh
 have ht : ∀ (b : Nat) (cs : Array Value) (t : TypeId), t ≠ 30 → W.heap[b]? = some (.cells cs t) → W'.heap[b]? = some (.cells cs t) := by
  intro b cs t hn hh
  refine hk b cs t (fun e => ?_) hh
  obtain ⟨_, c2, k2⟩ := own_blk h.nx e
  exact ne_of_type hh k2 hn rfl
 have hr1 := ht _ _ _ (by decide) h.rawb
 refine ⟨?_, hr1⟩
 have hset : ∀ (b : Nat) (cs : Array Value) (t : TypeId), t ≠ 62 → W'.heap[b]? = some (.cells cs t) → (W'.setCell ⟨rb, 2, none⟩ vn').heap[b]? = some (.cells cs t) := by
  intro b cs t hn hh
  rw [heap_set_other W' rb 2 _ b (ne_of_type hh hr1 hn)]; exact hh
 have hbs : But (fun b => b = rb) W' (W'.setCell ⟨rb, 2, none⟩ vn') := (But.refl _ _).set rb 2 vn' rfl
 have hrn := (((h.rows.but hb (own_notInt h.nx (by decide))).but hbs (fun b e cur hh => by subst e; exact ne_of_type hr1 hh (by decide) rfl))).rename (j := 5 + 2 * nxt.length) hg (by omega)
 have hR : ∀ a, a ≠ 2 → a ≠ 5 + 2 * nxt.length → upd (upd R (5 + 2 * nxt.length) (some (vt, nat2 s))) 2 none a = R a := fun a h1 h2 => by rw [upd_other _ _ h1, upd_other _ _ h2]
 have hB1 := h.below.trans (hb.below h.below.size (fun i hi e => by have := (own_blk h.nx e).1; omega))
 refine ⟨hB1.trans (hbs.below hB1.size (fun i hi e => by have := h.low; omega)), h.low, hset _ _ _ (by decide) (ht _ _ _ (by decide) h.res), by have := blk_setk hr1 2 vn'; simpa using this, hrn, by rw [hR 0 (by omega) (by omega)]; exact h.letr, by rw [hR 1 (by omega) (by omega)]; exact h.wrd, ?_, fun j u t h1 h2 => by rw [hR _ (by omega) (by omega)]; exact h.row j u t h1 h2, ?_, fun j u t h1 h2 => ?_, fun b hbb => ?_, ?_⟩
 ·refine own_congr h.outer (fun b hbb => ?_)
  obtain ⟨_, cur, h2⟩ := own_blk h.outer hbb
  rw [hset b cur _ (by decide) (hk b cur _ (h.apart b hbb) h2), h2]
 ·rw [List.length_append, List.length_singleton]
  refine own_congr ho (fun b hbb => ?_)
  obtain ⟨_, cur, h2⟩ := own_blk ho hbb
  rw [hset b cur _ (by decide) h2, h2]
 ·by_cases hj : j = nxt.length
  ·subst hj
   rw [upd_other _ _ (by omega), upd_same]
   have e1 : vt = u := by rw [← hus] at h1; simpa using h1
   have e2 : s = t := by simpa using h2
   rw [e1, e2]
  ·have hj' : j < nxt.length := by
    have := (List.getElem?_eq_some_iff.1 h2).1
    simp at this
    omega
   rw [hR _ (by omega) (by omega)]
   exact h.nxr j u t (by rw [List.getElem?_append_left (by omega)] at h1; exact h1) (by rw [List.getElem?_append_left hj'] at h2; exact h2)
 ·intro e
  rcases hat b e with h1 | h1
  ·exact h.apart b hbb h1
  ·obtain ⟨_, cur, h2⟩ := own_blk h.outer hbb
   have := (Array.getElem?_eq_some_iff.1 h2).1
   omega
 ·refine own_congr h.fin (fun b hbb => ?_)
  obtain ⟨_, cur, h2⟩ := own_blk h.fin hbb
  rw [hset b cur _ (by decide) (ht b cur _ (by decide) h2), h2]
theorem Fz2.pushFin (h : Fz2 w0 W tb rb vl vf vn vw vr word ls Z us nxt ns fins R) {vf' : Value} {f : Bool} (hb : But (fun b => vf.ownBlock = some b) W W') (ho : W'.ownsRow w0.heap.size 4 1 vf' (fins.length + 1) (fins.map Value.bool ++ [.bool f])) :
  Fz2 w0 (W'.setCell ⟨rb, 1, none⟩ vf') tb rb vl vf' vn vw vr word ls Z us nxt ns (fins ++ [f]) R ∧ W'.heap[rb]? = some (.cells #[vl, vf, vn] 62) := by
 have ht : ∀ (b : Nat) (cs : Array Value) (t : TypeId), t ≠ 4 → W.heap[b]? = some (.cells cs t) → W'.heap[b]? = some (.cells cs t) := by
  intro b cs t hn hh
  rw [hb.block b (Array.getElem?_eq_some_iff.1 hh).1 (fun e => by
   obtain ⟨_, c2, k2⟩ := own_blk h.fin e
   exact ne_of_type hh k2 hn rfl)]; exact hh
 have hr1 := ht _ _ _ (by decide) h.rawb
 refine ⟨?_, hr1⟩
 have hset : ∀ (b : Nat) (cs : Array Value) (t : TypeId), t ≠ 62 → W'.heap[b]? = some (.cells cs t) → (W'.setCell ⟨rb, 1, none⟩ vf').heap[b]? = some (.cells cs t) := by
  intro b cs t hn hh
  rw [heap_set_other W' rb 1 _ b (ne_of_type hh hr1 hn)]; exact hh
 have hbs : But (fun b => b = rb) W' (W'.setCell ⟨rb, 1, none⟩ vf') := (But.refl _ _).set rb 1 vf' rfl
 have hrn := ((h.rows.but hb (own_notInt h.fin (by decide))).but hbs (fun b e cur hh => by subst e; exact ne_of_type hr1 hh (by decide) rfl))
 have hB1 := h.below.trans (hb.below h.below.size (fun i hi e => by have := (own_blk h.fin e).1; omega))
 refine ⟨hB1.trans (hbs.below hB1.size (fun i hi e => by have := h.low; omega)), h.low, hset _ _ _ (by decide) (ht _ _ _ (by decide) h.res), by have := blk_setk hr1 1 vf'; simpa using this, hrn, h.letr, h.wrd, ?_, h.row, ?_, h.nxr, h.apart, ?_⟩
 ·refine own_congr h.outer (fun b hbb => ?_)
  obtain ⟨_, cur, h2⟩ := own_blk h.outer hbb
  rw [hset b cur _ (by decide) (ht b cur _ (by decide) h2), h2]
 ·refine own_congr h.nx (fun b hbb => ?_)
  obtain ⟨_, cur, h2⟩ := own_blk h.nx hbb
  rw [hset b cur _ (by decide) (ht b cur _ (by decide) h2), h2]
 ·rw [List.length_append, List.length_singleton, List.map_append, List.map_singleton]
  refine own_congr ho (fun b hbb => ?_)
  obtain ⟨_, cur, h2⟩ := own_blk ho hbb
  rw [hset b cur _ (by decide) h2, h2]
theorem Fz2.raw (h : Fz2 w0 W tb rb vl vf vn vw vr word ls Z us nxt ns fins R) (hl : nxt.length = fins.length) (hp : 0 < fins.length) (hf : fins.length ≤ 4294967296) (hw : ls.length + 1 ≤ 1048577) (hr : ∀ q, q < fins.length → (nxt.getD q []).length = ls.length + 1 ∧ ∀ a, a < ls.length + 1 → (nxt.getD q []).getD a 0 < fins.length) : HoldI W vl ls ∧ RawOK W vf vn fins nxt (ls.length + 1) := by
 refine ⟨h.rows.hold h.letr, ?_, ?_, hl, hp, hf, ⟨by omega, hw⟩, hr⟩
 ·rcases own_cases h.fin with ⟨_, h0⟩ | ⟨g, c, rfl, hg, hc⟩
  ·omega
  ·refine ⟨_, c, rfl, Or.inr ⟨g, 0, rfl, ?_, fun t ht => ?_⟩⟩
   ·obtain ⟨_, cur, h2⟩ := own_blk h.fin (b := g) rfl
    exact (Array.getElem?_eq_some_iff.1 h2).1
   ·have := h.fin.cellAt t (by omega)
    rw [Nat.zero_add, this, List.getElem?_map, List.getElem?_eq_getElem ht, List.getD_eq_getElem?_getD, List.getElem?_eq_getElem ht]
    rfl
 ·have hus : ns.length = nxt.length := by have := h.nx.1; omega
  rcases own_cases h.nx with ⟨_, h0⟩ | ⟨g, c, rfl, hg, hc⟩
  ·omega
  ·refine ⟨_, c, rfl, Or.inr ⟨g, 0, rfl, ?_, fun t ht => ?_⟩⟩
   ·obtain ⟨_, cur, h2⟩ := own_blk h.nx (b := g) rfl
    exact (Array.getElem?_eq_some_iff.1 h2).1
   ·have := h.nx.cellAt t (by omega)
    have h1 : ns[t]? = some (ns[t]'(by omega)) := List.getElem?_eq_getElem (by omega)
    refine ⟨_, by rw [Nat.zero_add, this, h1], ?_⟩
    refine h.rows.hold (h.nxr t _ _ h1 ?_)
    rw [List.getElem?_eq_getElem ht, List.getD_eq_getElem?_getD, List.getElem?_eq_getElem ht]
    rfl
end
end Go.Proofs.YtoinajfliogcdaaDoor
