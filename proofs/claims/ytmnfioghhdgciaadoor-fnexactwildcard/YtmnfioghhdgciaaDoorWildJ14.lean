import Derived.Test.YtmnfioghhdgciaaDoorWildJ03
import Derived.Test.YtmnfioghhdgciaaDoorWildJ05
import Derived.Test.YtmnfioghhdgciaaDoorWildJ12
import Derived.Test.YtmnfioghhdgciaaDoorWildJ00
namespace Go.Proofs.YtmnfioghhdgciaaDoor
open Go Go.RowKit
set_option linter.unusedVariables false
set_option maxRecDepth 100000

/-! What spec.Wildcard has in memory. -/
def bkW (Z : List Nat) (h : Nat) : List Nat := (List.range Z.length).filter fun j => decide (Z.getD j 0 % 4093 = h)
theorem bkW_mem {Z : List Nat} {h j : Nat} : j ∈ bkW Z h ↔ j < Z.length ∧ Z.getD j 0 % 4093 = h := by simp [bkW]
theorem bkW_snoc (Z : List Nat) (s : Nat) (h : Nat) : bkW (Z ++ [s]) h = if s % 4093 = h then bkW Z h ++ [Z.length] else bkW Z h := by
  have e : ∀ j ∈ List.range Z.length, decide ((Z ++ [s]).getD j 0 % 4093 = h) = decide (Z.getD j 0 % 4093 = h) := by
    intro j hj
    have hj' := List.mem_range.1 hj
    rw [List.getD_eq_getElem?_getD, List.getD_eq_getElem?_getD, List.getElem?_append_left hj']
  unfold bkW
  rw [List.length_append, List.length_singleton, List.range_succ, List.filter_append, List.filter_congr e]
  by_cases hh : s % 4093 = h
  · simp [hh]
  · simp [hh]
theorem bkW_len (Z : List Nat) (h : Nat) : (bkW Z h).length ≤ Z.length := by
  have := List.length_filter_le (fun j => decide (Z.getD j 0 % 4093 = h)) (List.range Z.length)
  simpa [bkW] using this
theorem ne_of_type {W : World} {b c : Nat} {cs ds : Array Value} {t u : TypeId} (h : W.heap[b]? = some (.cells cs t)) (k : W.heap[c]? = some (.cells ds u)) (ht : t ≠ u) : b ≠ c := by
  rintro rfl
  rw [h] at k
  simp only [Option.some.injEq, Obj.cells.injEq] at k
  exact ht k.2.1
structure Wz (w0 W : World) (tb rb gb : Nat) (vl vf vn vp vs : Value) (P ls : List Int) (Z Zb : List Nat) (nxt : List (List Nat)) (ns : List Value) (fins : List Bool) (R : RowMap) : Prop where
  below : Below w0.heap.size w0 W
  low : w0.heap.size ≤ tb ∧ w0.heap.size ≤ rb ∧ w0.heap.size ≤ gb
  res : W.heap[tb]? = some (.cells #[.slice none 0 0] 24)
  rawb : W.heap[rb]? = some (.cells #[vl, vf, vn] 38)
  rows : RowsF W w0.heap.size R
  letr : R 0 = some (vl, ls)
  prt : R 1 = some (vp, P)
  sets : R 3 = some (vs, nat2 Z)
  bk : ∃ bs : Array Value, W.heap[gb]? = some (.cells bs 30) ∧ bs.size = 4093 ∧ ∀ h, h < 4093 → ∃ u, bs[h]? = some u ∧ R (4 + 2 * h) = some (u, nat2 (bkW Zb h))
  nx : W.ownsRow w0.heap.size 30 1 vn nxt.length ns
  nxr : ∀ (j : Nat) u s, ns[j]? = some u → nxt[j]? = some s → R (5 + 2 * j) = some (u, nat2 s)
  apart : vn.ownBlock ≠ some gb
  fin : W.ownsRow w0.heap.size 4 1 vf fins.length (fins.map Value.bool)
section
variable {w0 W W' : World} {tb rb gb : Nat} {vl vf vn vp vs : Value} {P ls : List Int} {Z Zb : List Nat} {nxt : List (List Nat)} {ns : List Value} {fins : List Bool} {R R' : RowMap}
theorem own_notInt {e : TypeId} {base n : Nat} {v : Value} {xs : List Value} (h : W.ownsRow base e 1 v n xs) (he : e ≠ 3) : ∀ b, v.ownBlock = some b → ∀ cur, W.heap[b]? ≠ some (.cells cur 3) := by
  intro b hb cur hh
  obtain ⟨_, c2, k2⟩ := own_blk h hb
  exact ne_of_type k2 hh he rfl
theorem Wz.keep (h : Wz w0 W tb rb gb vl vf vn vp vs P ls Z Zb nxt ns fins R) (hb : Below W.heap.size W W') : Wz w0 W' tb rb gb vl vf vn vp vs P ls Z Zb nxt ns fins R := by
  obtain ⟨bs, b1, b2, b3⟩ := h.bk
  exact ⟨h.below.trans (hb.mono h.below.size), h.low, blko h.res hb, blko h.rawb hb, h.rows.below hb, h.letr, h.prt, h.sets, ⟨bs, blko b1 hb, b2, b3⟩, own_below h.nx hb, h.nxr, h.apart, own_below h.fin hb⟩
/-- Only rows of ints have changed, and the names 2 and 3. -/
theorem Wz.ints (h : Wz w0 W tb rb gb vl vf vn vp vs P ls Z Zb nxt ns fins R) {vs' : Value} {Z' : List Nat} (hB : Below w0.heap.size w0 W') (hk : ∀ (b : Nat) (cs : Array Value) (t : TypeId), t ≠ 3 → W.heap[b]? = some (.cells cs t) → W'.heap[b]? = some (.cells cs t)) (hR : RowsF W' w0.heap.size R') (ho : ∀ a, a ≠ 2 → a ≠ 3 → R' a = R a) (hs : R' 3 = some (vs', nat2 Z')) : Wz w0 W' tb rb gb vl vf vn vp vs' P ls Z' Zb nxt ns fins R' := by
  obtain ⟨bs, b1, b2, b3⟩ := h.bk
  refine ⟨hB, h.low, hk _ _ _ (by decide) h.res, hk _ _ _ (by decide) h.rawb, hR, by rw [ho 0 (by omega) (by omega)]; exact h.letr, by rw [ho 1 (by omega) (by omega)]; exact h.prt, hs, ⟨bs, hk _ _ _ (by decide) b1, b2, fun x hx => ?_⟩, ?_, fun j u z h1 h2 => by rw [ho _ (by omega) (by omega)]; exact h.nxr j u z h1 h2, h.apart, ?_⟩
  · obtain ⟨u, h1, h2⟩ := b3 x hx
    exact ⟨u, h1, by rw [ho _ (by omega) (by omega)]; exact h2⟩
  · refine own_congr h.nx (fun b hb => ?_)
    obtain ⟨_, cur, h2⟩ := own_blk h.nx hb
    rw [hk b cur _ (by decide) h2, h2]
  · refine own_congr h.fin (fun b hb => ?_)
    obtain ⟨_, cur, h2⟩ := own_blk h.fin hb
    rw [hk b cur _ (by decide) h2, h2]
/-- The row 'to' grows. -/
theorem Wz.growTo (h : Wz w0 W tb rb gb vl vf vn vp vs P ls Z Zb nxt ns fins R) {u u' : Value} {zs ys : List Int} (hi : R 2 = some (u, zs)) (hg : But (fun b => u.ownBlock = some b) W W') (hv : W'.ownsRow w0.heap.size 3 1 u' ys.length (zI ys)) (hat : ∀ b, u'.ownBlock = some b → u.ownBlock = some b ∨ W.heap.size ≤ b) : Wz w0 W' tb rb gb vl vf vn vp vs P ls Z Zb nxt ns fins (upd R 2 (some (u', ys))) := by
  have ho := h.rows.own 2 u zs hi
  refine h.ints (h.below.trans (hg.below h.below.size (fun j hj e => by have := (own_blk ho e).1; omega))) (fun b cs t ht hh => ?_) (h.rows.growB hi hg hv hat) (fun a h2 h3 => upd_other _ _ h2) (by rw [upd_other _ _ (by omega)]; exact h.sets)
  rw [hg.block b (Array.getElem?_eq_some_iff.1 hh).1 (fun e => by
    obtain ⟨_, c2, k2⟩ := own_blk ho e
    exact ne_of_type hh k2 ht rfl)]
  exact hh
/-- A new row 'to'. -/
theorem Wz.newTo (h : Wz w0 W tb rb gb vl vf vn vp vs P ls Z Zb nxt ns fins R) (hb : Below W.heap.size W W') {v : Value} {zs : List Int} (hv : W'.ownsRow W.heap.size 3 1 v zs.length (zI zs)) : Wz w0 W' tb rb gb vl vf vn vp vs P ls Z Zb nxt ns fins (upd R 2 (some (v, zs))) :=
  h.ints (h.below.trans (hb.mono h.below.size)) (fun b cs t _ hh => blko hh hb) (h.rows.new hb h.below.size hv) (fun a h2 h3 => upd_other _ _ h2) (by rw [upd_other _ _ (by omega)]; exact h.sets)
/-- A set more. -/
theorem Wz.pushSet (h : Wz w0 W tb rb gb vl vf vn vp vs P ls Z Zb nxt ns fins R) {u' : Value} {x : Nat} (hg : But (fun b => vs.ownBlock = some b) W W') (hv : W'.ownsRow w0.heap.size 3 1 u' ((nat2 Z).length + 1) (zI (nat2 Z) ++ [.int .i64 (x : Int)])) (hat : ∀ b, u'.ownBlock = some b → vs.ownBlock = some b ∨ W.heap.size ≤ b) : ∃ R', (∀ a, a ≠ 3 → R' a = R a) ∧ Wz w0 W' tb rb gb vl vf vn vp u' P ls (Z ++ [x]) Zb nxt ns fins R' := by
  have ho := h.rows.own 3 vs _ h.sets
  have e : zI (nat2 Z) ++ [.int .i64 (x : Int)] = zI (nat2 (Z ++ [x])) := by rw [nat2_app, zI_app]; rfl
  have e2 : (nat2 Z).length + 1 = (nat2 (Z ++ [x])).length := by rw [nat2_len, nat2_len]; simp
  rw [e, e2] at hv
  refine ⟨_, fun a ha => upd_other _ _ ha, h.ints (h.below.trans (hg.below h.below.size (fun j hj e => by have := (own_blk ho e).1; omega))) (fun b cs t ht hh => ?_) (h.rows.growB h.sets hg hv hat) (fun a h2 h3 => upd_other _ _ h3) (upd_same _ _ _)⟩
  rw [hg.block b (Array.getElem?_eq_some_iff.1 hh).1 (fun e => by
    obtain ⟨_, c2, k2⟩ := own_blk ho e
    exact ne_of_type hh k2 ht rfl)]
  exact hh
/-- Its number goes into its bucket. -/
theorem Wz.bucketed (h : Wz w0 W tb rb gb vl vf vn vp vs P ls Z Zb nxt ns fins R) {y x : Nat} {u u' : Value} (hx : x < 4093) (hs : y % 4093 = x) (hu : R (4 + 2 * x) = some (u, nat2 (bkW Zb x)))
    (hb : But (fun b => u.ownBlock = some b) W W') (ho : W'.ownsRow w0.heap.size 3 1 u' ((nat2 (bkW Zb x)).length + 1) (zI (nat2 (bkW Zb x)) ++ [.int .i64 (Zb.length : Int)])) (hat : ∀ b, u'.ownBlock = some b → u.ownBlock = some b ∨ W.heap.size ≤ b) :
    (∃ R', (∀ a, a ≠ 4 + 2 * x → R' a = R a) ∧ Wz w0 (W'.setCell ⟨gb, x, none⟩ u') tb rb gb vl vf vn vp vs P ls Z (Zb ++ [y]) nxt ns fins R') ∧ ∃ bs : Array Value, W'.heap[gb]? = some (.cells bs 30) ∧ bs[x]? = some u := by
  obtain ⟨bs, b1, b2, b3⟩ := h.bk
  have e0 : zI (nat2 (bkW Zb x)) ++ [.int .i64 (Zb.length : Int)] = zI (nat2 (bkW (Zb ++ [y]) x)) := by
    rw [bkW_snoc, if_pos hs, nat2_app, zI_app]; rfl
  have e1 : (nat2 (bkW Zb x)).length + 1 = (nat2 (bkW (Zb ++ [y]) x)).length := by
    rw [nat2_len, nat2_len, bkW_snoc, if_pos hs]; simp
  rw [e0, e1] at ho
  have hR2 := h.rows.growB hu hb ho hat
  have kp : ∀ (b : Nat) (cs : Array Value) (t : TypeId), t ≠ 3 → W.heap[b]? = some (.cells cs t) → W'.heap[b]? = some (.cells cs t) := by
    intro b cs t ht hh
    rw [hb.block b (Array.getElem?_eq_some_iff.1 hh).1 (fun e => by
      obtain ⟨_, cur, h2⟩ := own_blk (h.rows.own _ _ _ hu) e
      exact ne_of_type hh h2 ht rfl)]
    exact hh
  have hgb2 := kp _ _ _ (by decide) b1
  have hbB : Below w0.heap.size w0 W' := h.below.trans (hb.below h.below.size (fun i hi e => by have := (own_blk (h.rows.own _ _ _ hu) e).1; omega))
  have hB2 : But (fun b => b = gb) W' (W'.setCell ⟨gb, x, none⟩ u') := (But.refl _ _).set gb x u' rfl
  have hR3 := hR2.but hB2 (fun b e cur hc => by subst e; exact ne_of_type hgb2 hc (by decide) rfl)
  have ks : ∀ (b : Nat) (cs : Array Value) (t : TypeId), t ≠ 30 → W'.heap[b]? = some (.cells cs t) → (W'.setCell ⟨gb, x, none⟩ u').heap[b]? = some (.cells cs t) := fun b cs t ht hh => by
    rw [heap_set_other W' gb x u' b (ne_of_type hh hgb2 ht)]; exact hh
  have hux : bs[x]? = some u := by
    obtain ⟨v, h1, h2⟩ := b3 x hx
    rw [h2] at hu
    simp only [Option.some.injEq, Prod.mk.injEq, and_true] at hu
    rw [h1, hu]
  refine ⟨⟨_, fun a ha => upd_other _ _ ha, ⟨?_, h.low, ks _ _ _ (by decide) (kp _ _ _ (by decide) h.res), ks _ _ _ (by decide) (kp _ _ _ (by decide) h.rawb), hR3, ?_, ?_, ?_, ⟨bs.setIfInBounds x u', blk_setk hgb2 x u', by simpa using b2, ?_⟩, ?_, ?_, h.apart, ?_⟩⟩, bs, hgb2, hux⟩
  · exact hbB.trans (hB2.below hbB.size (fun i hi e => by have := h.low; omega))
  · rw [upd_other _ _ (by omega)]; exact h.letr
  · rw [upd_other _ _ (by omega)]; exact h.prt
  · rw [upd_other _ _ (by omega)]; exact h.sets
  · intro z hz
    by_cases e : z = x
    · subst e
      exact ⟨u', by simp [b2, hz], by rw [upd_same]⟩
    · obtain ⟨v, h1, h2⟩ := b3 z hz
      refine ⟨v, by rw [Array.getElem?_setIfInBounds_ne (Ne.symm e)]; exact h1, ?_⟩
      rw [upd_other _ _ (by omega), h2, bkW_snoc, if_neg (by rw [hs]; exact Ne.symm e)]
  · refine own_congr h.nx (fun b hbk => ?_)
    obtain ⟨_, cur, h2⟩ := own_blk h.nx hbk
    rw [heap_set_other W' gb x u' b (by rintro rfl; exact h.apart hbk), kp b cur _ (by decide) h2, h2]
  · intro j v t h1 h2
    rw [upd_other _ _ (by omega)]
    exact h.nxr j v t h1 h2
  · refine own_congr h.fin (fun b hbk => ?_)
    obtain ⟨_, cur, h2⟩ := own_blk h.fin hbk
    rw [ks b cur _ (by decide) (kp b cur _ (by decide) h2), h2]
/-- The numbers of the targets go behind the others, and into the box. -/
theorem Wz.pushNext (h : Wz w0 W tb rb gb vl vf vn vp vs P ls Z Zb nxt ns fins R) {vt vn' : Value} {s : List Nat} (hg : R 2 = some (vt, nat2 s)) (hb : But (fun b => vn.ownBlock = some b) W W') (ho : W'.ownsRow w0.heap.size 30 1 vn' (nxt.length + 1) (ns ++ [vt])) (hat : ∀ b, vn'.ownBlock = some b → vn.ownBlock = some b ∨ W.heap.size ≤ b) :
    (∃ R', Wz w0 (W'.setCell ⟨rb, 2, none⟩ vn') tb rb gb vl vf vn' vp vs P ls Z Zb (nxt ++ [s]) (ns ++ [vt]) fins R') ∧ W'.heap[rb]? = some (.cells #[vl, vf, vn] 38) := by
  have hus : ns.length = nxt.length := by have := h.nx.1; omega
  obtain ⟨bs, b1, b2, b3⟩ := h.bk
  have hgbl := (Array.getElem?_eq_some_iff.1 b1).1
  have hk : ∀ (b : Nat) (cs : Array Value) (t : TypeId), vn.ownBlock ≠ some b → W.heap[b]? = some (.cells cs t) → W'.heap[b]? = some (.cells cs t) := by
    intro b cs t hn hh
    rw [hb.block b (Array.getElem?_eq_some_iff.1 hh).1 hn]; exact hh
  have ht : ∀ (b : Nat) (cs : Array Value) (t : TypeId), t ≠ 30 → W.heap[b]? = some (.cells cs t) → W'.heap[b]? = some (.cells cs t) := by
    intro b cs t hn hh
    refine hk b cs t (fun e => ?_) hh
    obtain ⟨_, c2, k2⟩ := own_blk h.nx e
    exact ne_of_type hh k2 hn rfl
  have hr1 := ht _ _ _ (by decide) h.rawb
  refine ⟨⟨upd (upd R (5 + 2 * nxt.length) (some (vt, nat2 s))) 2 none, ?_⟩, hr1⟩
  have hset : ∀ (b : Nat) (cs : Array Value) (t : TypeId), t ≠ 38 → W'.heap[b]? = some (.cells cs t) → (W'.setCell ⟨rb, 2, none⟩ vn').heap[b]? = some (.cells cs t) := by
    intro b cs t hn hh
    rw [heap_set_other W' rb 2 _ b (ne_of_type hh hr1 hn)]; exact hh
  have hbs : But (fun b => b = rb) W' (W'.setCell ⟨rb, 2, none⟩ vn') := (But.refl _ _).set rb 2 vn' rfl
  have hrn := (((h.rows.but hb (own_notInt h.nx (by decide))).but hbs (fun b e cur hh => by subst e; exact ne_of_type hr1 hh (by decide) rfl))).rename (j := 5 + 2 * nxt.length) hg (by omega)
  have hR : ∀ a, a ≠ 2 → a ≠ 5 + 2 * nxt.length → upd (upd R (5 + 2 * nxt.length) (some (vt, nat2 s))) 2 none a = R a := fun a h1 h2 => by rw [upd_other _ _ h1, upd_other _ _ h2]
  have hB1 := h.below.trans (hb.below h.below.size (fun i hi e => by have := (own_blk h.nx e).1; omega))
  refine ⟨hB1.trans (hbs.below hB1.size (fun i hi e => by have := h.low; omega)), h.low, hset _ _ _ (by decide) (ht _ _ _ (by decide) h.res), by have := blk_setk hr1 2 vn'; simpa using this, hrn, by rw [hR 0 (by omega) (by omega)]; exact h.letr, by rw [hR 1 (by omega) (by omega)]; exact h.prt, by rw [hR 3 (by omega) (by omega)]; exact h.sets, ⟨bs, hset _ _ _ (by decide) (hk _ _ _ h.apart b1), b2, fun x hx => ?_⟩, ?_, fun j u t h1 h2 => ?_, ?_, ?_⟩
  · obtain ⟨u, h1, h2⟩ := b3 x hx
    exact ⟨u, h1, by rw [hR _ (by omega) (by omega)]; exact h2⟩
  · rw [List.length_append, List.length_singleton]
    refine own_congr ho (fun b hbb => ?_)
    obtain ⟨_, cur, h2⟩ := own_blk ho hbb
    rw [hset b cur _ (by decide) h2, h2]
  · by_cases hj : j = nxt.length
    · subst hj
      rw [upd_other _ _ (by omega), upd_same]
      have e1 : vt = u := by rw [← hus] at h1; simpa using h1
      have e2 : s = t := by simpa using h2
      rw [e1, e2]
    · have hj' : j < nxt.length := by
        have := (List.getElem?_eq_some_iff.1 h2).1
        simp at this
        omega
      rw [hR _ (by omega) (by omega)]
      exact h.nxr j u t (by rw [List.getElem?_append_left (by omega)] at h1; exact h1) (by rw [List.getElem?_append_left hj'] at h2; exact h2)
  · intro e
    rcases hat gb e with h1 | h1
    · exact h.apart h1
    · omega
  · refine own_congr h.fin (fun b hbb => ?_)
    obtain ⟨_, cur, h2⟩ := own_blk h.fin hbb
    rw [hset b cur _ (by decide) (ht b cur _ (by decide) h2), h2]
/-- Whether the set accepts goes behind the others, and into the box. -/
theorem Wz.pushFin (h : Wz w0 W tb rb gb vl vf vn vp vs P ls Z Zb nxt ns fins R) {vf' : Value} {f : Bool} (hb : But (fun b => vf.ownBlock = some b) W W') (ho : W'.ownsRow w0.heap.size 4 1 vf' (fins.length + 1) (fins.map Value.bool ++ [.bool f])) :
    Wz w0 (W'.setCell ⟨rb, 1, none⟩ vf') tb rb gb vl vf' vn vp vs P ls Z Zb nxt ns (fins ++ [f]) R ∧ W'.heap[rb]? = some (.cells #[vl, vf, vn] 38) := by
  obtain ⟨bs, b1, b2, b3⟩ := h.bk
  have ht : ∀ (b : Nat) (cs : Array Value) (t : TypeId), t ≠ 4 → W.heap[b]? = some (.cells cs t) → W'.heap[b]? = some (.cells cs t) := by
    intro b cs t hn hh
    rw [hb.block b (Array.getElem?_eq_some_iff.1 hh).1 (fun e => by
      obtain ⟨_, c2, k2⟩ := own_blk h.fin e
      exact ne_of_type hh k2 hn rfl)]; exact hh
  have hr1 := ht _ _ _ (by decide) h.rawb
  refine ⟨?_, hr1⟩
  have hset : ∀ (b : Nat) (cs : Array Value) (t : TypeId), t ≠ 38 → W'.heap[b]? = some (.cells cs t) → (W'.setCell ⟨rb, 1, none⟩ vf').heap[b]? = some (.cells cs t) := by
    intro b cs t hn hh
    rw [heap_set_other W' rb 1 _ b (ne_of_type hh hr1 hn)]; exact hh
  have hbs : But (fun b => b = rb) W' (W'.setCell ⟨rb, 1, none⟩ vf') := (But.refl _ _).set rb 1 vf' rfl
  have hrn := ((h.rows.but hb (own_notInt h.fin (by decide))).but hbs (fun b e cur hh => by subst e; exact ne_of_type hr1 hh (by decide) rfl))
  have hB1 := h.below.trans (hb.below h.below.size (fun i hi e => by have := (own_blk h.fin e).1; omega))
  refine ⟨hB1.trans (hbs.below hB1.size (fun i hi e => by have := h.low; omega)), h.low, hset _ _ _ (by decide) (ht _ _ _ (by decide) h.res), by have := blk_setk hr1 1 vf'; simpa using this, hrn, h.letr, h.prt, h.sets, ⟨bs, hset _ _ _ (by decide) (ht _ _ _ (by decide) b1), b2, b3⟩, ?_, h.nxr, h.apart, ?_⟩
  · refine own_congr h.nx (fun b hbb => ?_)
    obtain ⟨_, cur, h2⟩ := own_blk h.nx hbb
    rw [hset b cur _ (by decide) (ht b cur _ (by decide) h2), h2]
  · rw [List.length_append, List.length_singleton, List.map_append, List.map_singleton]
    refine own_congr ho (fun b hbb => ?_)
    obtain ⟨_, cur, h2⟩ := own_blk ho hbb
    rw [hset b cur _ (by decide) h2, h2]
/-- What it comes to. -/
theorem Wz.raw (h : Wz w0 W tb rb gb vl vf vn vp vs P ls Z Zb nxt ns fins R) (hl : nxt.length = fins.length) (hp : 0 < fins.length) (hf : fins.length ≤ 4294967296) (hw : ls.length + 1 ≤ 1048577) (hr : ∀ q, q < fins.length → (nxt.getD q []).length = ls.length + 1 ∧ ∀ a, a < ls.length + 1 → (nxt.getD q []).getD a 0 < fins.length) : HoldI W vl ls ∧ RawOK W vf vn fins nxt (ls.length + 1) := by
  refine ⟨h.rows.hold h.letr, ?_, ?_, hl, hp, hf, ⟨by omega, hw⟩, hr⟩
  · rcases own_cases h.fin with ⟨_, h0⟩ | ⟨g, c, rfl, hg, hc⟩
    · omega
    · refine ⟨_, c, rfl, Or.inr ⟨g, 0, rfl, ?_, fun t ht => ?_⟩⟩
      · obtain ⟨_, cur, h2⟩ := own_blk h.fin (b := g) rfl
        exact (Array.getElem?_eq_some_iff.1 h2).1
      · have := h.fin.cellAt t (by omega)
        rw [Nat.zero_add, this, List.getElem?_map, List.getElem?_eq_getElem ht, List.getD_eq_getElem?_getD, List.getElem?_eq_getElem ht]
        rfl
  · have hus : ns.length = nxt.length := by have := h.nx.1; omega
    rcases own_cases h.nx with ⟨_, h0⟩ | ⟨g, c, rfl, hg, hc⟩
    · omega
    · refine ⟨_, c, rfl, Or.inr ⟨g, 0, rfl, ?_, fun t ht => ?_⟩⟩
      · obtain ⟨_, cur, h2⟩ := own_blk h.nx (b := g) rfl
        exact (Array.getElem?_eq_some_iff.1 h2).1
      · have := h.nx.cellAt t (by omega)
        have h1 : ns[t]? = some (ns[t]'(by omega)) := List.getElem?_eq_getElem (by omega)
        refine ⟨_, by rw [Nat.zero_add, this, h1], ?_⟩
        refine h.rows.hold (h.nxr t _ _ h1 ?_)
        rw [List.getElem?_eq_getElem ht, List.getD_eq_getElem?_getD, List.getElem?_eq_getElem ht]
        rfl
end
end Go.Proofs.YtmnfioghhdgciaaDoor

namespace Go.Proofs.YtmnfioghhdgciaaDoor
open Go Go.RowKit
set_option linter.unusedVariables false
set_option linter.unusedSimpArgs false
set_option maxRecDepth 100000

/-! The operations of the regions that draw, by hand. -/
theorem rbx_call1 (W : World) (a : Act) (o : Oper) (f : FuncId) (x : Operand) (t : TypeId) (ho : o.op = .call { callee := .value (.func f), args := #[x], argTypes := #[t] }) (v : Value) (hx : a.eval x = v)
    (hf : (callFunc f #[v]).run Tryd.prog W = .ok (.enter f #[v]) W) : (execOp a.eval o).run Tryd.prog W = .ok (.enter f #[v]) W := by
  have hfn : a.eval (.func f) = .func (.func f) #[] #[] := rfl
  unfold execOp
  simp [ho, resolve, invoke, Deferred.ofValue, hfn, hx, hf]
theorem rbx_call2 (W : World) (a : Act) (o : Oper) (f : FuncId) (x y : Operand) (t u : TypeId) (ho : o.op = .call { callee := .value (.func f), args := #[x, y], argTypes := #[t, u] }) (v z : Value) (hx : a.eval x = v) (hy : a.eval y = z)
    (hf : (callFunc f #[v, z]).run Tryd.prog W = .ok (.enter f #[v, z]) W) : (execOp a.eval o).run Tryd.prog W = .ok (.enter f #[v, z]) W := by
  have hfn : a.eval (.func f) = .func (.func f) #[] #[] := rfl
  unfold execOp
  simp [ho, resolve, invoke, Deferred.ofValue, hfn, hx, hy, hf]
section
variable {ops : Array Oper} {Q : Exit → Act → World → Prop} {K : Act → World → Prop} {a : Act} {w : World}
theorem wpOp_call {i : Nat} {o : Oper} (f : FuncId) (args : Array Value) (hi : ops[i]? = some o) (hw : Region.wanted o (yielded ops a.tmps) = true) (ho : (execOp a.eval o).run Tryd.prog w = .ok (.enter f args) w)
    (h : Calls Tryd.prog f args w fun e w' => match e, w' with
      | .returned v, w'' => K (a.put o.dst v) w''
      | .panicked c, w'' => Q (.panic c) a w''
      | .outgrown, _ => LetsOut Q) : wpOp Tryd.prog ops Q i K a w := by
  unfold wpOp
  simp only [hi, hw, if_true, Oper.wp, ho, Oper.upon]
  exact .inl h
end
end Go.Proofs.YtmnfioghhdgciaaDoor
