import Derived.Test.YtcnjmjcbhelkhaaMergeHitsJ13
import Derived.Test.YtcnjmjcbhelkhaaMergeHitsJ11
import Derived.Test.YtcnjmjcbhelkhaaMergeHitsJ10
namespace Go.Proofs.Ytcnjmjcbhelkhaa
open Go Go.RowKit
set_option linter.unusedVariables false
set_option maxRecDepth 100000
set_option linter.unusedSimpArgs false

/-! An answer: hits in memory of their own. -/
def LiesF (xs : List Value) (i b : Nat) : Prop := ∃ v, xs[i * 3 + 2]? = some v ∧ v.ownBlock = some b
def HitO (w : World) (lo : Nat) (xs : List Value) (j : Nat) (f : Fd) : Prop := ∃ a n c, xs[j * 3]? = some (.string (bs f.1)) ∧ xs[j * 3 + 1]? = some (.int .i64 f.2.1) ∧ xs[j * 3 + 2]? = some (.slice a n c) ∧ w.ownsRow lo 3 1 (.slice a n c) f.2.2.length (f.2.2.map mkI)
structure AnsF (w : World) (lo hi : Nat) (va : Value) (F : List Fd) (xs : List Value) : Prop where
  row : w.ownsRow lo 47 3 va F.length xs
  top : ∀ b, va.ownBlock = some b → b < hi
  val : ∀ j, j < F.length → HitO w lo xs j (F.getD j fd0)
  lie : ∀ j b, j < F.length → LiesF xs j b → lo ≤ b ∧ b < hi
  dis : ∀ i j b, i < j → j < F.length → LiesF xs i b → ¬ LiesF xs j b
theorem AnsF.keep {w w' : World} {lo hi : Nat} {va : Value} {F : List Fd} {xs : List Value} (h : AnsF w lo hi va F xs) (hk : ∀ (b : Nat) (cs : Array Value) (t : TypeId), lo ≤ b → b < hi → w.heap[b]? = some (Obj.cells cs t) → (t = 47 ∨ t = 3) → w'.heap[b]? = w.heap[b]?) : AnsF w' lo hi va F xs := by
  refine ⟨own_congr h.row fun b hb => ?_, h.top, fun j hj => ?_, h.lie, h.dis⟩
  · obtain ⟨h1, cur, hc⟩ := own_blk h.row hb
    exact hk b _ _ h1 (h.top b hb) hc (.inl rfl)
  · obtain ⟨a, n, c, h0, h1, h2, h3⟩ := h.val j hj
    refine ⟨a, n, c, h0, h1, h2, own_congr h3 fun b hb => ?_⟩
    obtain ⟨h4, cur, hc⟩ := own_blk h3 hb
    have := h.lie j b hj ⟨_, h2, hb⟩
    exact hk b _ _ h4 this.2 hc (.inr rfl)
theorem AnsF.mono {w : World} {lo hi hi' : Nat} {va : Value} {F : List Fd} {xs : List Value} (h : AnsF w lo hi va F xs) (hh : hi ≤ hi') : AnsF w lo hi' va F xs :=
  ⟨h.row, fun b hb => by have := h.top b hb; omega, h.val, fun j b hj hl => by have := h.lie j b hj hl; omega, h.dis⟩
theorem AnsF.lower {w : World} {lo lo' hi : Nat} {va : Value} {F : List Fd} {xs : List Value} (h : AnsF w lo hi va F xs) (hh : lo' ≤ lo) : AnsF w lo' hi va F xs := by
  have lowR : ∀ {base sz e n : Nat} {v : Value} {ys : List Value}, w.ownsRow lo e sz v n ys → w.ownsRow lo' e sz v n ys := fun {_ _ _ _ _ _} h0 => by
    refine ⟨h0.1, ?_⟩
    rcases h0.2 with h' | ⟨g, cap, cur, h1, h2, h3⟩
    · exact Or.inl h'
    · exact Or.inr ⟨g, cap, cur, h1, by omega, h3⟩
  refine ⟨lowR (base := 0) h.row, h.top, fun j hj => ?_, fun j b hj hl => by have := h.lie j b hj hl; omega, h.dis⟩
  obtain ⟨a, n, c, h0, h1, h2, h3⟩ := h.val j hj
  exact ⟨a, n, c, h0, h1, h2, lowR (base := 0) h3⟩
theorem AnsF.nil (w : World) (lo hi : Nat) : AnsF w lo hi (.slice none 0 0) [] [] :=
  ⟨World.ownsRow_nil _ _ _ _, fun b hb => by simp [Value.ownBlock] at hb, fun j hj => absurd hj (by simp), fun j b hj _ => absurd hj (by simp), fun i j b _ hj _ => absurd hj (by simp)⟩
/-- A hit put behind the others. -/
theorem AnsF.snoc {w w' : World} {lo hi lo2 hi' : Nat} {va va' : Value} {F : List Fd} {f : Fd} {xs : List Value} {a : Option Addr} {n c : Nat} (h : AnsF w lo hi va F xs)
    (hl : lo ≤ lo2) (hh : hi ≤ lo2) (hr : w'.ownsRow lo 47 3 va' (F.length + 1) (xs ++ [.string (bs f.1), .int .i64 f.2.1, .slice a n c])) (ht : ∀ b, va'.ownBlock = some b → b < hi')
    (h1 : w'.ownsRow lo2 3 1 (.slice a n c) f.2.2.length (f.2.2.map mkI)) (hb : ∀ b, (Value.slice a n c).ownBlock = some b → b < hi') (hhi : hi ≤ hi')
    (hk : ∀ b j, j < F.length → LiesF xs j b → w'.heap[b]? = w.heap[b]?) : AnsF w' lo hi' va' (F ++ [f]) (xs ++ [.string (bs f.1), .int .i64 f.2.1, .slice a n c]) := by
  have hxl := h.row.1
  have old : ∀ i j, i < F.length → j < 3 → (xs ++ [Value.string (bs f.1), .int .i64 f.2.1, .slice a n c])[i * 3 + j]? = xs[i * 3 + j]? := fun i j hi hj => List.getElem?_append_left (by omega)
  have new : ∀ j, j < 3 → (xs ++ [Value.string (bs f.1), .int .i64 f.2.1, .slice a n c])[F.length * 3 + j]? = [Value.string (bs f.1), .int .i64 f.2.1, .slice a n c][j]? := fun j hj => by rw [List.getElem?_append_right (by omega), hxl, Nat.add_sub_cancel_left]
  have oldL : ∀ i b, i < F.length → LiesF (xs ++ [Value.string (bs f.1), .int .i64 f.2.1, .slice a n c]) i b → LiesF xs i b := fun i b hi ⟨u, hu, hub⟩ => ⟨u, by rw [old i 2 hi (by omega)] at hu; exact hu, hub⟩
  have newL : ∀ b, LiesF (xs ++ [Value.string (bs f.1), .int .i64 f.2.1, .slice a n c]) F.length b → lo2 ≤ b ∧ b < hi' := fun b ⟨u, hu, hub⟩ => by
    rw [new 2 (by omega)] at hu
    simp only [List.getElem?_cons_succ, List.getElem?_cons_zero, Option.some.injEq] at hu
    subst hu
    exact ⟨(h1.lt b hub).1, hb b hub⟩
  have h1' : w'.ownsRow lo 3 1 (.slice a n c) f.2.2.length (f.2.2.map mkI) := own_mono h1 hl
  refine ⟨by rw [List.length_append]; exact hr, ht, fun j hj => ?_, fun j b hj hlie => ?_, fun i j b hij hj hi1 hj1 => ?_⟩
  · rw [List.length_append] at hj
    by_cases e : j = F.length
    · subst e
      have g : (F ++ [f]).getD F.length fd0 = f := by simp
      rw [g]
      exact ⟨a, n, c, new 0 (by omega), new 1 (by omega), new 2 (by omega), h1'⟩
    · have hj' : j < F.length := by simp at hj; omega
      have g : (F ++ [f]).getD j fd0 = F.getD j fd0 := by simp [List.getD_eq_getElem?_getD, List.getElem?_append_left hj']
      rw [g]
      obtain ⟨ua, un, uc, q0, q1, q2, q3⟩ := h.val j hj'
      exact ⟨ua, un, uc, (old j 0 hj' (by omega)).trans q0, (old j 1 hj' (by omega)).trans q1, (old j 2 hj' (by omega)).trans q2, own_congr q3 fun b hb' => hk b j hj' ⟨_, q2, hb'⟩⟩
  · rw [List.length_append] at hj
    by_cases e : j = F.length
    · subst e
      have := newL b hlie; omega
    · have hj' : j < F.length := by simp at hj; omega
      have := h.lie j b hj' (oldL j b hj' hlie); omega
  · rw [List.length_append] at hj
    by_cases e : j = F.length
    · subst e
      have a1 := newL b hj1
      have c1 := h.lie i b (by omega) (oldL i b (by omega) hi1)
      omega
    · have hj' : j < F.length := by simp at hj; omega
      exact h.dis i j b hij hj' (oldL i b (by omega) hi1) (oldL j b hj' hj1)
theorem mkI_at (l : List Int) (j : Nat) (h : j < l.length) : (l.map mkI)[j]? = some (.int .i64 (l.getD j 0)) := by simp [h, mkI]
/-- Told by the cells alone. -/
theorem AnsF.hold {w : World} {lo hi n c : Nat} {a : Option Addr} {F : List Fd} {xs : List Value} (h : AnsF w lo hi (.slice a n c) F xs) : n = F.length ∧ HoldFd w a F := by
  have hxl := h.row.1
  rcases h.row.2 with ⟨h1, h2⟩ | ⟨g, cap, cur, h1, h3, h4, h5, h6, h7, h8⟩
  · injection h1 with q1 q2 q3
    exact ⟨by rw [q2, h2], Or.inl (List.length_eq_zero_iff.1 h2)⟩
  · injection h1 with q1 q2 q3
    subst q1 q2 q3
    refine ⟨rfl, Or.inr ⟨g, 0, rfl, (Array.getElem?_eq_some_iff.1 h4).1, fun i hi => ?_⟩⟩
    obtain ⟨ua, un, uc, p0, p1, p2, p3⟩ := h.val i hi
    have hz : un = (F.getD i fd0).2.2.length ∧ HoldZ w ua (F.getD i fd0).2.2 := by
      rcases p3.2 with ⟨e1, e2⟩ | ⟨g', cap', cur', e1, e3, e4, e5, e6, e7, e8⟩
      · injection e1 with r1 r2 r3
        exact ⟨by rw [r2, e2], Or.inl (List.length_eq_zero_iff.1 e2)⟩
      · injection e1 with r1 r2 r3
        subst r1 r2 r3
        refine ⟨rfl, Or.inr ⟨g', 0, rfl, (Array.getElem?_eq_some_iff.1 e4).1, fun j hj => ?_⟩⟩
        rw [Nat.zero_add, p3.cellAt j (by omega)]
        exact mkI_at _ j hj
    rw [Nat.zero_add, h.row.cellAt (i * 3) (by omega), h.row.cellAt (i * 3 + 1) (by omega), h.row.cellAt (i * 3 + 2) (by omega)]
    exact ⟨p0, p1, ua, uc, by rw [p2, hz.1], hz.2⟩
end Go.Proofs.Ytcnjmjcbhelkhaa

namespace Go.Proofs.Ytcnjmjcbhelkhaa
open Go Go.RowKit Go.Shelf
set_option linter.unusedVariables false
set_option maxRecDepth 100000
set_option linter.unusedSimpArgs false

/-! impl.MergeHits. -/
def MhAns (ds : List Bool) (L : List (List Fd)) (size : Int) (w : World) (e : Ending) (w' : World) : Prop := ∃ a n c xs, e = .returned (.tuple #[.slice a n c, .int .i64 (mhC ds L size)]) ∧ AnsF w' w.heap.size w'.heap.size (.slice a n c) (mhL ds L size) xs ∧ Below w.heap.size w w'
theorem mergedF_any (w : World) (sa : Option Addr) (n sc : Nat) (la : Option Addr) (m lc : Nat) :
    Calls Try.prog 23 #[.slice sa n sc, .slice la m lc] w fun e w' => e = .returned (.func (.func 41) #[] #[.pointer (some ⟨w.heap.size, 0, none⟩), .pointer (some ⟨w.heap.size + 1, 0, none⟩)]) ∧ w' = (w.alloc (.cells #[.slice sa n sc] 52)).alloc (.cells #[.slice la m lc] 29) := by
  go_enter Try.func23, Try.ntmps23
  go_wp2_with fail
  go_ret
  exact ⟨rfl, rfl⟩
/-- What MergeHits has: out was told, L is left. -/
structure MhI (w0 : World) (bf lo : Nat) (N : Nat) (ds : List Bool) (L0 : List (List Fd)) (x : List Fd × List (List Fd)) (W : World) : Prop where
  bel : Below w0.heap.size w0 W
  first : ∃ v xs, W.heap[bf]? = some (.cells #[v] 26) ∧ AnsF W lo W.heap.size v x.1 xs
  sz : W.heap[w0.heap.size]? = some (.cells #[.int .i64 (N : Int)] 3)
  bfl : w0.heap.size < bf
  lol : w0.heap.size < lo
  eq : x.1 ++ mrgM ds (N - x.1.length) x.2 = mrgM ds N L0
  le : x.1.length ≤ N
abbrev Yv := Fd × Option Addr × Nat
def yvA (z : Yv) : Array Value := #[.agg #[.string (bs z.1.1), .int .i64 z.1.2.1, .slice z.2.1 z.1.2.2.length z.2.2]]
def yvW (z : Yv) (W : World) : World := W.alloc (.cells #[.string (bs z.1.1), .int .i64 z.1.2.1, .slice z.2.1 z.1.2.2.length z.2.2] 47)
def MhT (w0 : World) (ks : List (Tx × Bool)) (x : List Fd × List (List Fd)) (z : Yv) (y : List Fd × List (List Fd)) : Prop := ∃ b, BestM (dsOf ks) x.2 x.2.length b ∧ hitM x.2 b = z.1 ∧ HoldZ w0 z.2.1 z.1.2.2 ∧ z.1.2.2.length = ks.length ∧ y = (x.1 ++ [z.1], x.2.set b (x.2.getD b []).tail)
/-- What a round leaves. -/
def MhFr (lo : Nat) (W W' : World) : Prop := Below lo W W' ∧ ∀ (x : Nat) (cs : Array Value) (t : TypeId), W.heap[x]? = some (Obj.cells cs t) → TI t → W'.heap[x]? = some (Obj.cells cs t)
theorem MhFr.trans {lo : Nat} {a b c : World} (h : MhFr lo a b) (k : MhFr lo b c) : MhFr lo a c := ⟨h.1.trans k.1, fun x cs t h1 h2 => k.2 x cs t (h.2 x cs t h1 h2) h2⟩
theorem MhFr.put {lo g : Nat} {W : World} {r : Loop} (o : Obj) (h : W.heap[g]? = some (.loop r)) (hg : lo ≤ g) : MhFr lo W (W.putObj g o) := by
  refine ⟨⟨rfl, rfl, rfl, by simp, fun b hb => World.putObj_heap_other (by omega)⟩, fun x cs t h1 _ => ?_⟩
  have hne : x ≠ g := fun e => by rw [e, h] at h1; cases h1
  exact (World.putObj_heap_other hne).trans h1
theorem MhI.put {w0 : World} {bf lo N g : Nat} {ds : List Bool} {L0 : List (List Fd)} {x : List Fd × List (List Fd)} {W : World} (h : MhI w0 bf lo N ds L0 x W) (o : Obj) (hbf : bf < g) (hgl : g < lo) : MhI w0 bf lo N ds L0 x (W.putObj g o) := by
  obtain ⟨v, xs, h1, h2⟩ := h.first
  have hbz := h.bfl
  have hb : Below w0.heap.size W (W.putObj g o) := ⟨rfl, rfl, rfl, by simp, fun b hb => World.putObj_heap_other (by omega)⟩
  refine ⟨h.bel.trans hb, ⟨v, xs, (World.putObj_heap_other (by omega)).trans h1, ?_⟩, (World.putObj_heap_other (by omega)).trans h.sz, h.bfl, h.lol, h.eq, h.le⟩
  have h3 : AnsF (W.putObj g o) lo W.heap.size v x.1 xs := h2.keep fun b cs t hb1 _ _ _ => World.putObj_heap_other (by omega)
  simpa using h3
theorem MhI.mv {w0 : World} {bf lo N : Nat} {ds : List Bool} {L0 : List (List Fd)} {x : List Fd × List (List Fd)} {W W' : World} (h : MhI w0 bf lo N ds L0 x W) (hm : MvT w0.heap.size TI W W') : MhI w0 bf lo N ds L0 x W' := by
  obtain ⟨v, xs, h1, h2⟩ := h.first
  have hb := hm.below h.bel.size
  refine ⟨h.bel.trans hb, ⟨v, xs, hm.keep h1 (by unfold TI; decide), (h2.keep fun b cs t _ _ hc ht => ?_).mono hm.size⟩, hm.keep h.sz (by unfold TI; decide), h.bfl, h.lol, h.eq, h.le⟩
  rw [hm.keep hc (by rcases ht with rfl | rfl <;> (unfold TI; decide)), hc]
/-- A hit more. -/
theorem MhI.push {w0 : World} {bf lo N g' c' n c : Nat} {ds : List Bool} {L0 : List (List Fd)} {out : List Fd} {L : List (List Fd)} {W W1 W3 : World} {v : Value} {xs : List Value} {a : Option Addr} {b : Nat} (h : MhI w0 bf lo N ds L0 (out, L) W)
    (hbf : W.heap[bf]? = some (.cells #[v] 26)) (hA : AnsF W lo W.heap.size v out xs) (hbest : BestM ds L L.length b) (hlt : out.length < N) (hlo : lo ≤ W.heap.size)
    (h1 : Below W.heap.size W W1) (ho : W1.ownsRow W.heap.size 3 1 (.slice a n c) (hitM L b).2.2.length ((hitM L b).2.2.map mkI))
    (hown : W3.ownsRow lo 47 3 (.slice (some ⟨g', 0, none⟩) (out.length + 1) c') (out.length + 1) (xs ++ [.string (bs (hitM L b).1), .int .i64 (hitM L b).2.1, .slice a n c]))
    (hg : (W1.alloc (.cells #[.string (bs (hitM L b).1), .int .i64 (hitM L b).2.1, .slice a n c] 47)).grownBy W3 v.ownBlock) :
    W3.heap[bf]? = some (.cells #[v] 26) ∧ MhI w0 bf lo N ds L0 (out ++ [hitM L b], L.set b (L.getD b []).tail) (W3.setCell ⟨bf, 0, none⟩ (.slice (some ⟨g', 0, none⟩) (out.length + 1) c')) ∧ MhFr w0.heap.size W (W3.setCell ⟨bf, 0, none⟩ (.slice (some ⟨g', 0, none⟩) (out.length + 1) c')) ∧ (∀ b, b < W.heap.size → b ≠ bf → v.ownBlock ≠ some b → (W3.setCell ⟨bf, 0, none⟩ (.slice (some ⟨g', 0, none⟩) (out.length + 1) c')).heap[b]? = W.heap[b]?) := by
  have hsz := h1.size
  have hblt := (Array.getElem?_eq_some_iff.1 hbf).1
  have hba : Below W1.heap.size W1 (W1.alloc (.cells #[.string (bs (hitM L b).1), .int .i64 (hitM L b).2.1, .slice a n c] 47)) := (Below.refl _ _).alloc (Nat.le_refl _) _
  have hW2 : Below W.heap.size W (W1.alloc (.cells #[.string (bs (hitM L b).1), .int .i64 (hitM L b).2.1, .slice a n c] 47)) := h1.trans (hba.mono hsz)
  have key : ∀ x : Nat, x < W.heap.size → v.ownBlock ≠ some x → W3.heap[x]? = W.heap[x]? := fun x hx hv => by rw [hg.block x (Nat.lt_of_lt_of_le hx hW2.size) (fun e => hv e.symm), hW2.block x hx]
  have hvb : ∀ x, v.ownBlock = some x → lo ≤ x ∧ ∃ cur, W.heap[x]? = some (Obj.cells cur 47) := fun x hx => own_blk hA.row hx
  have hvbf : v.ownBlock ≠ some bf := fun e => by
    obtain ⟨_, cur, hc⟩ := hvb bf e
    exact blk_ne hc hbf (by decide) rfl
  have hb3 : W3.heap[bf]? = some (.cells #[v] 26) := (key bf hblt hvbf).trans hbf
  have hsz3 : W.heap.size ≤ W3.heap.size := Nat.le_trans hW2.size hg.size
  obtain ⟨V, hV⟩ : ∃ V, W3.setCell ⟨bf, 0, none⟩ (.slice (some ⟨g', 0, none⟩) (out.length + 1) c') = V := ⟨_, rfl⟩
  have hVo : ∀ x, x ≠ bf → V.heap[x]? = W3.heap[x]? := fun x hx => by rw [← hV]; exact heap_set_other _ _ _ _ _ hx
  have hVs : V.heap.size = W3.heap.size := by rw [← hV]; simp [World.setCell]
  have hbel : Below w0.heap.size W V := by
    rw [← hV]
    refine Below.setCell (p := ⟨bf, 0, none⟩) ?_ (by show w0.heap.size ≤ bf; have := h.bfl; omega) _
    refine (hW2.mono h.bel.size).grown hg (Nat.le_trans h.bel.size hW2.size) (fun k hk => ?_)
    have := (hvb k hk).1; have := h.lol; omega
  have hgb : g' ≠ bf := fun e => by
    obtain ⟨_, cur, hc⟩ := own_blk hown (b := g') rfl
    exact blk_ne hc hb3 (by decide) e
  have hrow : V.ownsRow lo 47 3 (.slice (some ⟨g', 0, none⟩) (out.length + 1) c') (out.length + 1) (xs ++ [.string (bs (hitM L b).1), .int .i64 (hitM L b).2.1, .slice a n c]) := own_congr hown fun x hx => hVo x (by have : g' = x := Option.some.inj hx; omega)
  have hko : V.ownsRow W.heap.size 3 1 (.slice a n c) (hitM L b).2.2.length ((hitM L b).2.2.map mkI) := by
    refine own_congr ho fun x hx => ?_
    obtain ⟨h5, cur, hc⟩ := own_blk ho hx
    have hx1 := (Array.getElem?_eq_some_iff.1 hc).1
    rw [hVo x (by omega), hg.block x (by simp; omega) (fun e => by have := (hvb x e.symm).2; obtain ⟨cu, hcu⟩ := this; have := (Array.getElem?_eq_some_iff.1 hcu).1; omega), Below.heap_alloc _ _ _ hx1]
  rw [hV]
  refine ⟨hb3, ⟨h.bel.trans hbel, ⟨.slice (some ⟨g', 0, none⟩) (out.length + 1) c', xs ++ [.string (bs (hitM L b).1), .int .i64 (hitM L b).2.1, .slice a n c], ?_, ?_⟩, ?_, h.bfl, h.lol, ?_, ?_⟩, ⟨hbel, fun x cs t hx ht => ?_⟩, fun x hx hxb hxv => by rw [hVo x hxb]; exact key x hx hxv⟩
  · rw [← hV]
    have := blk_setk hb3 0 (.slice (some ⟨g', 0, none⟩) (out.length + 1) c')
    simpa using this
  · refine hA.snoc (w' := V) hlo (Nat.le_refl _) hrow (fun x hx => ?_) hko (fun x hx => ?_) (by omega) (fun x j hj hl => ?_)
    · exact (hrow.lt x hx).2
    · exact (hko.lt x hx).2
    · have hlie := hA.lie j x hj hl
      obtain ⟨u, hu, hub⟩ := hl
      obtain ⟨qa, qn, qc, q0, q1, q2, q3⟩ := hA.val j hj
      rw [q2] at hu
      have hu' : Value.slice qa qn qc = u := Option.some.inj hu
      subst hu'
      obtain ⟨_, cur, hc⟩ := own_blk q3 hub
      rw [hVo x (fun e => by subst e; exact blk_ne hc hbf (by decide) rfl)]
      refine key x hlie.2 (fun e => ?_)
      obtain ⟨_, cu, hcu⟩ := hvb x e
      exact blk_ne hc hcu (by decide) rfl
  · have hs := h.sz
    have hsl := (Array.getElem?_eq_some_iff.1 hs).1
    rw [hVo _ (by have := h.bfl; omega), key _ hsl (fun e => by have := (hvb _ e).1; have := h.lol; omega)]
    exact hs
  · have he := h.eq
    show (out ++ [hitM L b]) ++ mrgM ds (N - (out ++ [hitM L b]).length) _ = _
    rw [← he]
    show _ = out ++ mrgM ds (N - out.length) L
    obtain ⟨k, hk⟩ : ∃ k, N - out.length = k + 1 := ⟨N - out.length - 1, by omega⟩
    rw [hk, mrgM_step hbest, List.length_append, List.length_singleton, show N - (out.length + 1) = k by omega]
    simp
  · show (out ++ [hitM L b]).length ≤ N
    rw [List.length_append, List.length_singleton]
    omega
  · have hxl := (Array.getElem?_eq_some_iff.1 hx).1
    rw [hVo x (fun e => by subst e; rw [hbf] at hx; injection hx with hx; injection hx with _ h5; rw [← h5] at ht; exact absurd ht (by unfold TI; decide)), key x hxl (fun e => by
      obtain ⟨_, cu, hcu⟩ := hvb x e
      rw [hx] at hcu; injection hcu with hcu; injection hcu with _ h5; rw [h5] at ht; exact absurd ht (by unfold TI; decide))]
    exact hx
end Go.Proofs.Ytcnjmjcbhelkhaa
