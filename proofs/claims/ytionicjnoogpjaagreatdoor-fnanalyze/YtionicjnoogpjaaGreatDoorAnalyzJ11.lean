import Derived.Test.YtionicjnoogpjaaGreatDoorAnalyzJ09
import Derived.Sort.Walk7a
import Derived.Laws.AppendOwnNone
import Derived.Deep.AppendLies
namespace Go.Proofs.YtionicjnoogpjaaGreatDoor
open Go Go.RowKit
set_option linter.unusedVariables false
set_option linter.unusedSimpArgs false
set_option maxRecDepth 100000

/-- A block is not one of these. -/
def Off (a : Option Addr) (X : Nat → Prop) : Prop := ∀ blk off, a = some ⟨blk, off, none⟩ → ¬ X blk
theorem Off.imp {a : Option Addr} {X Y : Nat → Prop} (h : Off a X) (i : ∀ x, Y x → X x) : Off a Y := fun blk off e hy => h blk off e (i blk hy)
theorem Off.none {X : Nat → Prop} : Off none X := fun blk off e => by cases e
/-- What an analyser that lies in a box has in memory, beside a cell for a result. -/
structure BA (w W : World) (b : Nat) (ao : Option Addr) (n cap : Nat) (A : Int) (BX R : Nat) (fo st ph : Bool) (aS aY : Option Addr) (cS cY : Nat) (stops : List (List UInt8)) (syns : List (List UInt8 × List UInt8)) (lo hi : Int) : Prop where
  src : Sx b ao n cap W A
  but : But (fun x => x = b) w W
  res : ∃ cs, W.heap[R]? = some (.cells cs 26) ∧ cs.size = 7
  box : W.heap[BX]? = some (.cells #[.bool fo, .bool st, .bool ph, .slice aS stops.length cS, .slice aY syns.length cY, .int .i64 lo, .int .i64 hi] 26)
  stp : HoldS W aS stops
  syn : HoldY W aY syns
  so : Off aS (fun x => x ≤ b ∨ x = BX ∨ x = R)
  yo : Off aY (fun x => x ≤ b ∨ x = BX ∨ x = R)
  bl : b < w.heap.size
  xl : w.heap.size ≤ BX
  rl : w.heap.size ≤ R
  ne : BX ≠ R
  cb : ∀ j, j < n → ∃ blk off, ao = some ⟨blk, off, none⟩ ∧ blk < w.heap.size
theorem holdY_heap {W W' : World} {a : Option Addr} {l : List (List UInt8 × List UInt8)} (h : HoldY W a l) (hz : W.heap.size ≤ W'.heap.size) (hx : ∀ blk off, a = some ⟨blk, off, none⟩ → blk < W.heap.size → W'.heap[blk]? = W.heap[blk]?) : HoldY W' a l := by
  rcases h with h | ⟨g, off, h1, h2, h3⟩
  · exact Or.inl h
  · refine Or.inr ⟨g, off, h1, Nat.lt_of_lt_of_le h2 hz, fun t ht => ?_⟩
    have := h3 t ht
    simp only [World.cell?] at this ⊢
    rw [hx g off h1 h2]
    exact this
theorem holdS_heap2 {W W' : World} {a : Option Addr} {l : List (List UInt8)} (h : HoldS W a l) (hz : W.heap.size ≤ W'.heap.size) (hx : ∀ blk off, a = some ⟨blk, off, none⟩ → blk < W.heap.size → W'.heap[blk]? = W.heap[blk]?) : HoldS W' a l := by
  rcases h with h | ⟨g, off, h1, h2, h3⟩
  · exact Or.inl h
  · refine Or.inr ⟨g, off, h1, Nat.lt_of_lt_of_le h2 hz, fun t ht => ?_⟩
    have := h3 t ht
    simp only [World.cell?] at this ⊢
    rw [hx g off h1 h2]
    exact this
theorem addr_add (g off j : Nat) : (⟨g, off, none⟩ : Addr).add j = ⟨g, off + j, none⟩ := by
  by_cases h : j = 0 <;> simp [Addr.add, h]
theorem holdS_news {W : World} {ad : Addr} {l : List (List UInt8)} (h : HoldS W (some ad) l) : ∀ j u, (sCells l)[j]? = some u → W.cell? (ad.add j) = some u := by
  intro j u e
  rcases h with rfl | ⟨g, off, h1, h2, h3⟩
  · simp [sCells] at e
  · cases h1
    have hj : j < l.length := by
      have := (List.getElem?_eq_some_iff.1 e).1
      rwa [sCells_len] at this
    rw [sCells_at l j hj] at e
    rw [← e]
    rw [addr_add]; exact h3 j hj
theorem holdY_news {W : World} {ad : Addr} {l : List (List UInt8 × List UInt8)} (h : HoldY W (some ad) l) : ∀ j u, (yCells l)[j]? = some u → W.cell? (ad.add j) = some u := by
  intro j u e
  rcases h with rfl | ⟨g, off, h1, h2, h3⟩
  · simp [yCells] at e
  · cases h1
    have hj : j < l.length * 2 := by
      have := (List.getElem?_eq_some_iff.1 e).1
      rwa [yCells_len] at this
    have q := h3 (j / 2) (by omega)
    have q2 := yCells_at l (j / 2) (by omega)
    rcases Nat.mod_two_eq_zero_or_one j with hm | hm
    · have ej : j = j / 2 * 2 := by omega
      have e1 := q2.1
      rw [← ej] at e1
      rw [e1] at e
      rw [← e]
      have := q.1
      rw [← ej] at this
      rw [addr_add]; exact this
    · have ej : j = j / 2 * 2 + 1 := by omega
      have e1 := q2.2
      rw [← ej] at e1
      rw [e1] at e
      rw [← e]
      have := q.2
      rw [Nat.add_assoc, ← ej] at this
      rw [addr_add]; exact this
theorem set_set (W : World) (g k : Nat) (u v : Value) : (W.setCell ⟨g, k, none⟩ u).setCell ⟨g, k, none⟩ v = W.setCell ⟨g, k, none⟩ v := setCell_setCell W g k u v
theorem sCells_one (l : List (List UInt8)) : ∀ u ∈ sCells l, u.oneCell' = true := by
  intro u hu
  rw [sCells, List.mem_map] at hu
  obtain ⟨t, _, rfl⟩ := hu
  rfl
theorem yCells_one (l : List (List UInt8 × List UInt8)) : ∀ u ∈ yCells l, u.oneCell' = true := by
  intro u hu
  rw [yCells, List.mem_flatMap] at hu
  obtain ⟨t, _, hu⟩ := hu
  simp at hu
  rcases hu with rfl | rfl <;> rfl
theorem ownG_heap {W W' : World} {base e sz m : Nat} {v : Value} {xs : List Value} (h : W.ownsRow base e sz v m xs) (hx : ∀ g, v.ownBlock = some g → g < W.heap.size → W'.heap[g]? = W.heap[g]?) : W'.ownsRow base e sz v m xs := by
  refine ⟨h.1, ?_⟩
  rcases h.2 with h' | ⟨g, c, cur, rfl, h2, h3, h4⟩
  · exact Or.inl h'
  · exact Or.inr ⟨g, c, cur, rfl, h2, (hx g rfl (Array.getElem?_eq_some_iff.1 h3).1).trans h3, h4⟩
theorem ownG_base {W : World} {base e sz m : Nat} {v : Value} {xs : List Value} (h : W.ownsRow base e sz v m xs) : ∀ g, v.ownBlock = some g → base ≤ g ∧ g < W.heap.size := by
  intro g e
  rcases h.2 with ⟨rfl, _⟩ | ⟨g', c, cur, rfl, h2, h3, h4⟩
  · cases e
  · cases e; exact ⟨h2, (Array.getElem?_eq_some_iff.1 h3).1⟩
theorem ownOff {W : World} {base e sz m c : Nat} {a : Option Addr} {xs : List Value} (h : W.ownsRow base e sz (.slice a m c) m xs) : Off a (fun x => x < base) := by
  intro blk off q hx
  rcases h.2 with ⟨e1, _⟩ | ⟨g, c', cur, e1, e2, _⟩
  · injection e1 with q1
    rw [q1] at q
    cases q
  · injection e1 with q1
    rw [q1] at q
    cases q
    omega
theorem ownCap {W : World} {base e sz m c : Nat} {a : Option Addr} {xs : List Value} (h : W.ownsRow base e sz (.slice a m c) m xs) : a = none → c = 0 := by
  intro q
  rcases h.2 with ⟨e1, _⟩ | ⟨g, c', cur, e1, e2, _⟩
  · injection e1
  · injection e1 with q1
    rw [q] at q1
    cases q1
theorem own_empty2 (w : World) (e : TypeId) : (w.alloc (.cells #[] e)).ownsRow w.heap.size e 2 (.slice (some ⟨w.heap.size, 0, none⟩) 0 0) 0 [] := by
  have := World.ownsRow_lit (base := w.heap.size) (e := e) (size := 2) w #[] 0 (Nat.le_refl _) (by unfold maxLen; omega) (by simp)
  simpa using this
theorem wpList_append_any {P : Program} (w : World) {ops : Array Oper} {rest : List Oper} {o : Oper} {a : Act} {Q : Exit → Act → World → Prop} (hgd : o.guard = none) (s x : Operand) (t : TypeId)
    (ho : o.op = .call { callee := .builtin .append, args := #[s, x], argTypes := #[t, t] })
    (base : Nat) (e : TypeId) (i : TypeInfo) (z : Value) (size bytes : Nat) (ht : P.underlying t = some (.slice e)) (hi : P.info? e = some i) (hz : i.zero = some z)
    (hsize : i.size = size) (hby : i.bytes = bytes) (hzs : z.cells.size = size) (hsz : 0 < size)
    (v : Value) (n : Nat) (xs : List Value) (hs : a.eval s = v) (hown : w.ownsRow base e size v n xs)
    (al : Option Addr) (m c : Nat) (news : List Value) (hx : a.eval x = .slice al m c)
    (hsrc : (al = none ∧ m = 0 ∧ c = 0 ∧ news = []) ∨ ∃ ad, al = some ad ∧ news.length = m * size ∧ (∀ j u, news[j]? = some u → w.cell? (ad.add j) = some u) ∧ ∀ u ∈ news, u.oneCell' = true)
    (h63 : n + m ≤ maxLen) (hbytes : (n + m) * bytes ≤ 140737488355328) (hbase : base ≤ w.heap.size)
    (h : ∀ v' w', w'.ownsRow base e size v' (n + m) (xs ++ news) → w.grownBy w' v.ownBlock → wpList P ops Q rest (a.put o.dst v') w') : wpList P ops Q (o :: rest) a w := by
  rcases hsrc with ⟨rfl, rfl, rfl, rfl⟩ | ⟨ad, rfl, h1, h2, h3⟩
  · exact wpList_append_own_none hgd s x t ho base e i size ht hi v n xs hs hown hx (h v w (by simpa using hown) ⟨rfl, rfl, rfl, Nat.le_refl _, fun _ _ _ => rfl⟩)
  · exact wpList_append_own w hgd s x t ho base e i z size bytes ht hi hz hsize hby hzs hsz v n xs hs hown ad m c news hx h1 h2 h3 h63 hbytes hbase (fun v' w' q1 q2 _ => h v' w' q1 q2)
theorem holdS_src {W : World} {a : Option Addr} {c : Nat} {l : List (List UInt8)} (h : HoldS W a l) (hc : a = none → c = 0) : (a = none ∧ l.length = 0 ∧ c = 0 ∧ sCells l = []) ∨ ∃ ad, a = some ad ∧ (sCells l).length = l.length * 1 ∧ (∀ j u, (sCells l)[j]? = some u → W.cell? (ad.add j) = some u) ∧ ∀ u ∈ sCells l, u.oneCell' = true := by
  cases a with
  | none =>
    have e : l = [] := by
      rcases h with h | ⟨_, _, h, _⟩
      · exact h
      · cases h
    subst e
    exact Or.inl ⟨rfl, rfl, hc rfl, rfl⟩
  | some ad => exact Or.inr ⟨ad, rfl, by rw [sCells_len, Nat.mul_one], holdS_news h, sCells_one l⟩
theorem holdY_src {W : World} {a : Option Addr} {c : Nat} {l : List (List UInt8 × List UInt8)} (h : HoldY W a l) (hc : a = none → c = 0) : (a = none ∧ l.length = 0 ∧ c = 0 ∧ yCells l = []) ∨ ∃ ad, a = some ad ∧ (yCells l).length = l.length * 2 ∧ (∀ j u, (yCells l)[j]? = some u → W.cell? (ad.add j) = some u) ∧ ∀ u ∈ yCells l, u.oneCell' = true := by
  cases a with
  | none =>
    have e : l = [] := by
      rcases h with h | ⟨_, _, h, _⟩
      · exact h
      · cases h
    subst e
    exact Or.inl ⟨rfl, rfl, hc rfl, rfl⟩
  | some ad => exact Or.inr ⟨ad, rfl, yCells_len l, holdY_news h, yCells_one l⟩
theorem bs_of (r : ByteArray) : bs r.data.toList = r := by
  rcases r with ⟨d⟩
  show (⟨d.toList.toArray⟩ : ByteArray) = ⟨d⟩
  simp
theorem tabS3 {W : World} {T : Nat} {r : ByteArray} (h : W.heap[T]? = some (.cells #[.string ⟨#[]⟩, .string ⟨#[255]⟩, .string r] 9)) (hr : r.size ≤ 1048576) (Y : Nat) (hY : Y < 3) : ∃ y : List UInt8, W.cell? ⟨T, Y, none⟩ = some (.string (bs y)) ∧ y.length ≤ 1048576 := by
  match Y, hY with
  | 0, _ => exact ⟨[], blkc h 0, by decide⟩
  | 1, _ => exact ⟨[255], blkc h 1, by decide⟩
  | 2, _ => exact ⟨r.data.toList, (blkc h 2).trans (by rw [bs_of]; rfl), by rw [← Lib.size_eq]; exact hr⟩
theorem tabY4 {W : World} {T : Nat} {r : ByteArray} (h : W.heap[T]? = some (.cells #[.string ⟨#[120]⟩, .string ⟨#[120]⟩, .string ⟨#[]⟩, .string ⟨#[120]⟩, .string ⟨#[120]⟩, .string ⟨#[195]⟩, .string ⟨#[120]⟩, .string r] 80)) (hr : r.size ≤ 1048576) (Y : Nat) (hY : Y < 4) : ∃ y : List UInt8 × List UInt8, W.cell? ⟨T, Y * 2, none⟩ = some (.string (bs y.1)) ∧ W.cell? ⟨T, Y * 2 + 1, none⟩ = some (.string (bs y.2)) ∧ y.1.length ≤ 1048576 ∧ y.2.length ≤ 1048576 := by
  match Y, hY with
  | 0, _ => exact ⟨([120], [120]), blkc h 0, blkc h 1, by decide, by decide⟩
  | 1, _ => exact ⟨([], [120]), blkc h 2, blkc h 3, by decide, by decide⟩
  | 2, _ => exact ⟨([120], [195]), blkc h 4, blkc h 5, by decide, by decide⟩
  | 3, _ => exact ⟨([120], r.data.toList), blkc h 6, (blkc h 7).trans (by rw [bs_of]; rfl), by simp, by rw [← Lib.size_eq]; exact hr⟩
section
variable {w W W' : World} {b : Nat} {ao : Option Addr} {n cap : Nat} {A : Int} {BX R : Nat} {fo st ph : Bool} {aS aY : Option Addr} {cS cY : Nat} {stops : List (List UInt8)} {syns : List (List UInt8 × List UInt8)} {lo hi : Int}
theorem BA.size (h : BA w W b ao n cap A BX R fo st ph aS aY cS cY stops syns lo hi) : BX < W.heap.size ∧ R < W.heap.size := by
  obtain ⟨cs, hr1, hr2⟩ := h.res
  exact ⟨(Array.getElem?_eq_some_iff.1 h.box).1, (Array.getElem?_eq_some_iff.1 hr1).1⟩
/-- What only writes the source's cell, or makes memory. -/
theorem BA.draw (h : BA w W b ao n cap A BX R fo st ph aS aY cS cY stops syns lo hi) {A' : Int} (hs : Sx b ao n cap W' A') (hb : But (fun x => x = b) W W') : BA w W' b ao n cap A' BX R fo st ph aS aY cS cY stops syns lo hi := by
  have h1 := h.bl
  have h2 := h.xl
  have h3 := h.rl
  have h4 := h.size
  obtain ⟨cs, hr1, hr2⟩ := h.res
  exact ⟨hs, h.but.trans hb (fun _ _ h => h) (fun _ _ h => h), ⟨cs, (hb.block R h4.2 (by omega)).trans hr1, hr2⟩, (hb.block BX h4.1 (by omega)).trans h.box,
    holdS_heap2 h.stp hb.size (fun blk off e hl => hb.block blk hl (fun q => h.so blk off e (Or.inl (Nat.le_of_eq q)))), holdY_heap h.syn hb.size (fun blk off e hl => hb.block blk hl (fun q => h.yo blk off e (Or.inl (Nat.le_of_eq q)))), h.so, h.yo, h1, h2, h3, h.ne, h.cb⟩
theorem BA.alloc (h : BA w W b ao n cap A BX R fo st ph aS aY cS cY stops syns lo hi) (o : Obj) : BA w (W.alloc o) b ao n cap A BX R fo st ph aS aY cS cY stops syns lo hi := h.draw (h.src.alloc o) ((But.refl _ _).alloc o)
theorem BA.mono (h : BA w W b ao n cap A BX R fo st ph aS aY cS cY stops syns lo hi) {A' : Int} (hA : A ≤ A') : BA w W b ao n cap A' BX R fo st ph aS aY cS cY stops syns lo hi := h.draw (h.src.mono hA) (But.refl _ _)
/-- A cell of the box is written. -/
theorem BA.put (h : BA w W b ao n cap A BX R fo st ph aS aY cS cY stops syns lo hi) (k : Nat) (u : Value) {aS' aY' : Option Addr} {cS' cY' : Nat} {stops' : List (List UInt8)} {syns' : List (List UInt8 × List UInt8)} {lo' hi' : Int}
    (he : (#[.bool fo, .bool st, .bool ph, .slice aS stops.length cS, .slice aY syns.length cY, .int .i64 lo, .int .i64 hi] : Array Value).setIfInBounds k u = #[.bool fo, .bool st, .bool ph, .slice aS' stops'.length cS', .slice aY' syns'.length cY', .int .i64 lo', .int .i64 hi'])
    (h1 : HoldS W aS' stops') (h2 : HoldY W aY' syns') (h3 : Off aS' (fun x => x ≤ b ∨ x = BX ∨ x = R)) (h4 : Off aY' (fun x => x ≤ b ∨ x = BX ∨ x = R)) :
    BA w (W.setCell ⟨BX, k, none⟩ u) b ao n cap A BX R fo st ph aS' aY' cS' cY' stops' syns' lo' hi' := by
  have q1 := h.bl
  have q2 := h.xl
  have q3 := h.rl
  have q4 := h.ne
  have hg : ∀ g, g ≠ BX → (W.setCell ⟨BX, k, none⟩ u).heap[g]? = W.heap[g]? := fun g hne => heap_set_other W BX k u g hne
  obtain ⟨cs, hr1, hr2⟩ := h.res
  refine ⟨h.src.set BX k u (by omega) (fun j hj => ?_), ⟨h.but.os, h.but.tape, h.but.output, by have := h.but.size; simpa using this, fun i hi hn => (hg i (by omega)).trans (h.but.block i hi hn)⟩, ⟨cs, (hg R (by omega)).trans hr1, hr2⟩, by rw [blk_setk h.box k u, he], holdS_heap2 h1 (by simp) (fun blk off e _ => hg blk (fun q => h3 blk off e (Or.inr (Or.inl q)))), holdY_heap h2 (by simp) (fun blk off e _ => hg blk (fun q => h4 blk off e (Or.inr (Or.inl q)))), h3, h4, q1, q2, q3, q4, h.cb⟩
  obtain ⟨blk, off, z1, z2⟩ := h.cb j hj
  exact ⟨blk, off, z1, by omega⟩
theorem BA.setLo (h : BA w W b ao n cap A BX R fo st ph aS aY cS cY stops syns lo hi) (z : Int) : BA w (W.setCell ⟨BX, 5, none⟩ (.int .i64 z)) b ao n cap A BX R fo st ph aS aY cS cY stops syns z hi := h.put 5 _ rfl h.stp h.syn h.so h.yo
theorem BA.setHi (h : BA w W b ao n cap A BX R fo st ph aS aY cS cY stops syns lo hi) (z : Int) : BA w (W.setCell ⟨BX, 6, none⟩ (.int .i64 z)) b ao n cap A BX R fo st ph aS aY cS cY stops syns lo z := h.put 6 _ rfl h.stp h.syn h.so h.yo
theorem BA.setS (h : BA w W b ao n cap A BX R fo st ph aS aY cS cY stops syns lo hi) {a' : Option Addr} {c' : Nat} {l' : List (List UInt8)} (h1 : HoldS W a' l') (h3 : Off a' (fun x => x ≤ b ∨ x = BX ∨ x = R)) : BA w (W.setCell ⟨BX, 3, none⟩ (.slice a' l'.length c')) b ao n cap A BX R fo st ph a' aY c' cY l' syns lo hi := h.put 3 _ rfl h1 h.syn h3 h.yo
theorem BA.setY (h : BA w W b ao n cap A BX R fo st ph aS aY cS cY stops syns lo hi) {a' : Option Addr} {c' : Nat} {l' : List (List UInt8 × List UInt8)} (h1 : HoldY W a' l') (h3 : Off a' (fun x => x ≤ b ∨ x = BX ∨ x = R)) : BA w (W.setCell ⟨BX, 4, none⟩ (.slice a' l'.length c')) b ao n cap A BX R fo st ph aS a' cS c' stops l' lo hi := h.put 4 _ rfl h.stp h1 h.so h3
theorem BA.setR (h : BA w W b ao n cap A BX R fo st ph aS aY cS cY stops syns lo hi) (k : Nat) (u : Value) : BA w (W.setCell ⟨R, k, none⟩ u) b ao n cap A BX R fo st ph aS aY cS cY stops syns lo hi := by
  have q1 := h.bl
  have q2 := h.xl
  have q3 := h.rl
  have q4 := h.ne
  have hg : ∀ g, g ≠ R → (W.setCell ⟨R, k, none⟩ u).heap[g]? = W.heap[g]? := fun g hne => heap_set_other W R k u g hne
  obtain ⟨cs, hr1, hr2⟩ := h.res
  refine ⟨h.src.set R k u (by omega) (fun j hj => ?_), ⟨h.but.os, h.but.tape, h.but.output, by have := h.but.size; simpa using this, fun i hi hn => (hg i (by omega)).trans (h.but.block i hi hn)⟩, ⟨_, blk_setk hr1 k u, by rw [Array.size_setIfInBounds]; exact hr2⟩, (hg BX (by omega)).trans h.box, holdS_heap2 h.stp (by simp) (fun blk off e _ => hg blk (fun q => h.so blk off e (Or.inr (Or.inr q)))), holdY_heap h.syn (by simp) (fun blk off e _ => hg blk (fun q => h.yo blk off e (Or.inr (Or.inr q)))), h.so, h.yo, q1, q2, q3, q4, h.cb⟩
  obtain ⟨blk, off, z1, z2⟩ := h.cb j hj
  exact ⟨blk, off, z1, by omega⟩
theorem BA.grow (h : BA w W b ao n cap A BX R fo st ph aS aY cS cY stops syns lo hi) {ob : Option Nat} {N : Nat} (hg : W.grownBy W' ob) (hob : ∀ g, ob = some g → N ≤ g) (hN : BX < N ∧ R < N) (hS : Off aS (fun x => N ≤ x)) (hY : Off aY (fun x => N ≤ x)) : BA w W' b ao n cap A BX R fo st ph aS aY cS cY stops syns lo hi := by
  have q1 := h.bl
  have q2 := h.xl
  have q3 := h.rl
  have q4 := h.size
  have hk : ∀ g, g < N → g < W.heap.size → W'.heap[g]? = W.heap[g]? := fun g h1 h2 => hg.block g h2 (fun e => by have := hob g e.symm; omega)
  obtain ⟨cs, hr1, hr2⟩ := h.res
  refine ⟨?_, ⟨hg.os.trans h.but.os, hg.tape.trans h.but.tape, hg.output.trans h.but.output, Nat.le_trans h.but.size hg.size, fun i hi hn => (hk i (by omega) (by have := h.but.size; omega)).trans (h.but.block i hi hn)⟩, ⟨cs, (hk R hN.2 q4.2).trans hr1, hr2⟩, (hk BX hN.1 q4.1).trans h.box, holdS_heap2 h.stp hg.size (fun blk off e hl => hk blk (by have := hS blk off e; omega) hl), holdY_heap h.syn hg.size (fun blk off e hl => hk blk (by have := hY blk off e; omega) hl), h.so, h.yo, q1, q2, q3, h.ne, h.cb⟩
  obtain ⟨a, sd, h1, h2, h3, h4, h5, h6⟩ := h.src
  refine ⟨a, sd, h1, h2, h3, h4, (hk b (by omega) h5.lt).trans h5, fun j hj => ?_⟩
  obtain ⟨blk, off, z, r1, r2, r3, r4, r5⟩ := h6 j hj
  obtain ⟨blk', off', e1, e2⟩ := h.cb j hj
  rw [r1] at e1
  cases e1
  refine ⟨blk, off, z, r1, r2, r3, r4, ?_⟩
  have hl := cell_lt r5
  simp only [World.cell?] at r5 ⊢
  rw [hk blk (by omega) hl]
  exact r5
/-- A cell of the box is written, whatever it and the rows of old were. -/
theorem BA.app3 (h : BA w W b ao n cap A BX R fo st ph aS aY cS cY stops syns lo hi) {ob : Option Nat} {N : Nat} (hg : W.grownBy W' ob) (hob : ∀ g, ob = some g → N ≤ g) (hN : BX < N ∧ R < N) (hY : Off aY (fun x => N ≤ x)) {a' : Option Addr} {c' : Nat} {l' : List (List UInt8)} (hH : HoldS W' a' l') (ha : Off a' (fun x => x < N)) :
    BA w (W'.setCell ⟨BX, 3, none⟩ (.slice a' l'.length c')) b ao n cap A BX R fo st ph a' aY c' cY l' syns lo hi := by
  have q1 := h.bl
  have q2 := h.xl
  have h0 : BA w (W.setCell ⟨BX, 3, none⟩ (.slice none 0 0)) b ao n cap A BX R fo st ph none aY 0 cY [] syns lo hi := h.setS (l' := []) (Or.inl rfl) Off.none
  have hg2 : (W.setCell ⟨BX, 3, none⟩ (.slice none 0 0)).grownBy (W'.setCell ⟨BX, 3, none⟩ (.slice none 0 0)) ob := by
    refine ⟨hg.os, hg.tape, hg.output, by have := hg.size; simpa using this, fun i hi hn => ?_⟩
    have hi2 : i < W.heap.size := by simpa using hi
    by_cases e : i = BX
    · subst e
      have hbx : W'.heap[i]? = _ := (hg.block i hi2 hn).trans h.box
      rw [blk_setk hbx 3 _, blk_setk h.box 3 _]
    · rw [heap_set_other _ _ _ _ _ e, heap_set_other _ _ _ _ _ e]
      exact hg.block i hi2 hn
  have h1 := h0.grow hg2 hob hN Off.none hY
  have hz : ∀ g, g ≠ BX → (W'.setCell ⟨BX, 3, none⟩ (.slice none 0 0)).heap[g]? = W'.heap[g]? := fun g e => heap_set_other _ _ _ _ _ e
  have h2 := h1.setS (a' := a') (c' := c') (l' := l') (holdS_heap2 hH (by simp) (fun blk off e _ => hz blk (fun q => ha blk off e (by omega)))) (ha.imp (fun x hx => by have := hN; rcases hx with hx | hx | hx <;> omega))
  have e : (W'.setCell ⟨BX, 3, none⟩ (.slice none 0 0)).setCell ⟨BX, 3, none⟩ (.slice a' l'.length c') = W'.setCell ⟨BX, 3, none⟩ (.slice a' l'.length c') := set_set _ _ _ _ _
  rw [e] at h2
  exact h2
/-- A cell of the box is written, whatever it and the rows of old were. -/
theorem BA.app4 (h : BA w W b ao n cap A BX R fo st ph aS aY cS cY stops syns lo hi) {ob : Option Nat} {N : Nat} (hg : W.grownBy W' ob) (hob : ∀ g, ob = some g → N ≤ g) (hN : BX < N ∧ R < N) (hY : Off aS (fun x => N ≤ x)) {a' : Option Addr} {c' : Nat} {l' : List (List UInt8 × List UInt8)} (hH : HoldY W' a' l') (ha : Off a' (fun x => x < N)) :
    BA w (W'.setCell ⟨BX, 4, none⟩ (.slice a' l'.length c')) b ao n cap A BX R fo st ph aS a' cS c' stops l' lo hi := by
  have q1 := h.bl
  have q2 := h.xl
  have h0 : BA w (W.setCell ⟨BX, 4, none⟩ (.slice none 0 0)) b ao n cap A BX R fo st ph aS none cS 0 stops [] lo hi := h.setY (l' := []) (Or.inl rfl) Off.none
  have hg2 : (W.setCell ⟨BX, 4, none⟩ (.slice none 0 0)).grownBy (W'.setCell ⟨BX, 4, none⟩ (.slice none 0 0)) ob := by
    refine ⟨hg.os, hg.tape, hg.output, by have := hg.size; simpa using this, fun i hi hn => ?_⟩
    have hi2 : i < W.heap.size := by simpa using hi
    by_cases e : i = BX
    · subst e
      have hbx : W'.heap[i]? = _ := (hg.block i hi2 hn).trans h.box
      rw [blk_setk hbx 4 _, blk_setk h.box 4 _]
    · rw [heap_set_other _ _ _ _ _ e, heap_set_other _ _ _ _ _ e]
      exact hg.block i hi2 hn
  have h1 := h0.grow hg2 hob hN hY Off.none
  have hz : ∀ g, g ≠ BX → (W'.setCell ⟨BX, 4, none⟩ (.slice none 0 0)).heap[g]? = W'.heap[g]? := fun g e => heap_set_other _ _ _ _ _ e
  have h2 := h1.setY (a' := a') (c' := c') (l' := l') (holdY_heap hH (by simp) (fun blk off e _ => hz blk (fun q => ha blk off e (by omega)))) (ha.imp (fun x hx => by have := hN; rcases hx with hx | hx | hx <;> omega))
  have e : (W'.setCell ⟨BX, 4, none⟩ (.slice none 0 0)).setCell ⟨BX, 4, none⟩ (.slice a' l'.length c') = W'.setCell ⟨BX, 4, none⟩ (.slice a' l'.length c') := set_set _ _ _ _ _
  rw [e] at h2
  exact h2
end
/-- What is known of the size of a drawn analyser. -/
def smallA (stops : List (List UInt8)) (syns : List (List UInt8 × List UInt8)) (lo hi : Int) : Prop :=
  stops.length ≤ 200 ∧ syns.length ≤ 200 ∧ (∀ t ∈ stops, t.length ≤ 1048576) ∧ (∀ y ∈ syns, y.1.length ≤ 1048576 ∧ y.2.length ≤ 1048576) ∧ -100 ≤ lo ∧ lo ≤ 100 ∧ -100 ≤ hi ∧ hi ≤ 100
def DrawnZ (aS0 aY0 : Option Addr) (w : World) (b : Nat) (ao : Option Addr) (n cap : Nat) (A : Int) (e : Ending) (w' : World) : Prop :=
  ∃ (fo st ph : Bool) (aS aY : Option Addr) (cS cY : Nat) (stops : List (List UInt8)) (syns : List (List UInt8 × List UInt8)) (lo hi : Int), e = .returned (.agg #[.bool fo, .bool st, .bool ph, .slice aS stops.length cS, .slice aY syns.length cY, .int .i64 lo, .int .i64 hi]) ∧ Sx b ao n cap w' A ∧ But (fun x => x = b) w w' ∧ HoldS w' aS stops ∧ HoldY w' aY syns ∧ Off aS (fun x => x ≤ b) ∧ Off aY (fun x => x ≤ b) ∧ smallA stops syns lo hi ∧ (aS = aS0 ∨ Off aS (fun x => x < w.heap.size)) ∧ (aY = aY0 ∨ Off aY (fun x => x < w.heap.size)) ∧ (aS = none → cS = 0)
set_option maxHeartbeats 16000000 in
theorem bentAz_any (b : Nat) (ao : Option Addr) (n cap : Nat) (A : Int) (w : World) (hn : n ≤ 1048576) (hA : A ≤ 1000000) (hs : Sx b ao n cap w A) (hcb : ∀ j, j < n → ∃ blk off, ao = some ⟨blk, off, none⟩ ∧ blk < w.heap.size)
    (fo st ph : Bool) (aS aY : Option Addr) (cS cY : Nat) (stops : List (List UInt8)) (syns : List (List UInt8 × List UInt8)) (lo hi : Int) (hS : HoldS w aS stops) (hY : HoldY w aY syns) (hSo : Off aS (fun x => x ≤ b ∨ w.heap.size ≤ x)) (hYo : Off aY (fun x => x ≤ b ∨ w.heap.size ≤ x)) (hsm : smallA stops syns lo hi) (hS9 : stops.length ≤ 100) (hY9 : syns.length ≤ 100) (hcS : aS = none → cS = 0) (hcY : aY = none → cY = 0) :
    Calls Tryz.prog 26 #[.pointer (some ⟨b, 0, none⟩), .agg #[.bool fo, .bool st, .bool ph, .slice aS stops.length cS, .slice aY syns.length cY, .int .i64 lo, .int .i64 hi]] w (DrawnZ aS aY w b ao n cap (A + 60)) := by
  obtain ⟨i0, hi0, hz0, hz1, hz2⟩ := info_parts Tryz.infoSyn
  obtain ⟨i1, hi1, hy0, hy1, hy2⟩ := info_parts Tryz.infoStr2
  have HB0 : Hid (BA w ((w.alloc (.cells #[.bool fo, .bool st, .bool ph, .slice aS stops.length cS, .slice aY syns.length cY, .int .i64 lo, .int .i64 hi] 26)).alloc (.cells #[.bool false, .bool false, .bool false, .slice none 0 0, .slice none 0 0, .int .i64 0, .int .i64 0] 26)) b ao n cap A w.heap.size (w.heap.size + 1) fo st ph aS aY cS cY stops syns lo hi) := by
    have hbx := box_two w (.cells #[.bool fo, .bool st, .bool ph, .slice aS stops.length cS, .slice aY syns.length cY, .int .i64 lo, .int .i64 hi] 26) (.cells #[.bool false, .bool false, .bool false, .slice none 0 0, .slice none 0 0, .int .i64 0, .int .i64 0] 26)
    have hbel : Below w.heap.size w ((w.alloc (.cells #[.bool fo, .bool st, .bool ph, .slice aS stops.length cS, .slice aY syns.length cY, .int .i64 lo, .int .i64 hi] 26)).alloc (.cells #[.bool false, .bool false, .bool false, .slice none 0 0, .slice none 0 0, .int .i64 0, .int .i64 0] 26)) := ((Below.refl _ _).alloc (Nat.le_refl _) _).alloc (by simp) _
    have hb := hs.lt
    exact ⟨(hs.alloc _).alloc _, ((But.refl _ _).alloc _).alloc _, ⟨_, hbx.2, rfl⟩, hbx.1, hS.below hbel, hY.below hbel, hSo.imp (fun x h => by rcases h with h | h | h <;> omega), hYo.imp (fun x h => by rcases h with h | h | h <;> omega), hb, Nat.le_refl _, by omega, by omega, hcb⟩
  have HSM := hidd hsm
  have HSO : Hid (Off aS (fun x => w.heap.size + 2 ≤ x)) := hSo.imp (fun x h => Or.inr (by omega))
  have HYO : Hid (Off aY (fun x => w.heap.size + 2 ≤ x)) := hYo.imp (fun x h => Or.inr (by omega))
  clear hs hcb hS hY hSo hYo hsm
  go_enter Tryz.func26, Tryz.ntmps26
  go_upto_region 1 with fail
  generalize (w.alloc (.cells #[.bool fo, .bool st, .bool ph, .slice aS stops.length cS, .slice aY syns.length cY, .int .i64 lo, .int .i64 hi] 26)).alloc (.cells #[.bool false, .bool false, .bool false, .slice none 0 0, .slice none 0 0, .int .i64 0, .int .i64 0] 26) = w1 at *
  generalize hBX : w.heap.size = BX at *
  have hN0 := HB0.out.size
  have HSO2 : Hid (∀ N, BX + 2 ≤ N → Off aS (fun x => N ≤ x) ∧ Off aY (fun x => N ≤ x)) := fun N hN => ⟨HSO.out.imp (fun x h => by omega), HYO.out.imp (fun x h => by omega)⟩
  generalize hR : BX + 1 = R at *
  go_upto_region 2 with (go_at_call 28; refine (nextS HB0.out.src hn (by omega) 16 (by omega) (by omega)).mono ?_; rintro e w2 ⟨X, rfl, hX, hs2, hb2⟩)
  have HB1 := hidd (HB0.out.draw hs2 hb2)
  clear hs2 hb2 HB0
  by_cases h0 : X = 0
  · subst h0
    go_upto_region 16 with (go_at_call 28; refine (nextS HB1.out.src hn (by omega) 11 (by omega) (by omega)).mono ?_; rintro e wA ⟨Z, rfl, hZ, hsA, hbA⟩; have HB2 := hidd (HB1.out.draw hsA hbA); have c5 := blkc HB2.out.box 5; have f5 := blkf HB2.out.box 5; clear hsA hbA)
    have HF := hidd ((HB2.out.setLo ((Z : Int) - 1)))
    have HM : Hid (smallA stops syns ((Z : Int) - 1) hi) := ⟨HSM.out.1, HSM.out.2.1, HSM.out.2.2.1, HSM.out.2.2.2.1, by omega, by omega, HSM.out.2.2.2.2.2.2⟩
    clear HB1 HB2 c5 f5
    generalize wA.setCell ⟨BX, 5, none⟩ (.int .i64 ((Z : Int) - 1)) = wq at *
    obtain ⟨cs, hr1, hr2⟩ := HF.out.res
    obtain ⟨r0, r1, r2, r3, r4, r5, r6, rfl⟩ := arr7 hr2
    have c0 : wq.cell? ⟨BX, 0, none⟩ = some (.bool fo) := blkc HF.out.box 0
    have d0 : wq.cell? ⟨R, 0, none⟩ = some r0 := blkc hr1 0
    have e0 := blkf hr1 0
    have c1 : wq.cell? ⟨BX, 1, none⟩ = some (.bool st) := blkc HF.out.box 1
    have d1 : wq.cell? ⟨R, 1, none⟩ = some r1 := blkc hr1 1
    have e1 := blkf hr1 1
    have c2 : wq.cell? ⟨BX, 2, none⟩ = some (.bool ph) := blkc HF.out.box 2
    have d2 : wq.cell? ⟨R, 2, none⟩ = some r2 := blkc hr1 2
    have e2 := blkf hr1 2
    have c3 : wq.cell? ⟨BX, 3, none⟩ = some (.slice (aS) (stops).length cS) := blkc HF.out.box 3
    have d3 : wq.cell? ⟨R, 3, none⟩ = some r3 := blkc hr1 3
    have e3 := blkf hr1 3
    have c4 : wq.cell? ⟨BX, 4, none⟩ = some (.slice (aY) (syns).length cY) := blkc HF.out.box 4
    have d4 : wq.cell? ⟨R, 4, none⟩ = some r4 := blkc hr1 4
    have e4 := blkf hr1 4
    have c5 : wq.cell? ⟨BX, 5, none⟩ = some (.int .i64 ((Z : Int) - 1)) := blkc HF.out.box 5
    have d5 : wq.cell? ⟨R, 5, none⟩ = some r5 := blkc hr1 5
    have e5 := blkf hr1 5
    have c6 : wq.cell? ⟨BX, 6, none⟩ = some (.int .i64 hi) := blkc HF.out.box 6
    have d6 : wq.cell? ⟨R, 6, none⟩ = some r6 := blkc hr1 6
    have e6 := blkf hr1 6
    have hne := HF.out.ne
    clear hr1 hr2
    go_wp2_with fail
    refine bodyPost_ret (v := .agg #[.bool fo, .bool st, .bool ph, .slice (aS) (stops).length cS, .slice (aY) (syns).length cY, .int .i64 (((Z : Int) - 1)), .int .i64 (hi)]) (by simp [results, Tryz.results26, go_sem, *]) rfl ?_
    have HR := hidd (((((((HF.out.setR 0 (.bool fo)).setR 1 (.bool st)).setR 2 (.bool ph)).setR 3 (.slice (aS) (stops).length cS)).setR 4 (.slice (aY) (syns).length cY)).setR 5 (.int .i64 (((Z : Int) - 1)))).setR 6 (.int .i64 (hi)))
    exact ⟨fo, st, ph, _, _, _, _, _, _, _, _, rfl, HR.out.src.mono (by omega), HR.out.but, HR.out.stp, HR.out.syn, HR.out.so.imp (fun x h => Or.inl h), HR.out.yo.imp (fun x h => Or.inl h), HM.out, Or.inl rfl, Or.inl rfl, hcS⟩
  by_cases h1 : X = 1
  · subst h1
    go_upto_region 16 with (go_at_call 28; refine (nextS HB1.out.src hn (by omega) 11 (by omega) (by omega)).mono ?_; rintro e wA ⟨Z, rfl, hZ, hsA, hbA⟩; have HB2 := hidd (HB1.out.draw hsA hbA); have c6 := blkc HB2.out.box 6; have f6 := blkf HB2.out.box 6; clear hsA hbA)
    have HF := hidd ((HB2.out.setHi ((Z : Int) - 1)))
    have HM : Hid (smallA stops syns lo ((Z : Int) - 1)) := ⟨HSM.out.1, HSM.out.2.1, HSM.out.2.2.1, HSM.out.2.2.2.1, HSM.out.2.2.2.2.1, HSM.out.2.2.2.2.2.1, by omega, by omega⟩
    clear HB1 HB2 c6 f6
    generalize wA.setCell ⟨BX, 6, none⟩ (.int .i64 ((Z : Int) - 1)) = wq at *
    obtain ⟨cs, hr1, hr2⟩ := HF.out.res
    obtain ⟨r0, r1, r2, r3, r4, r5, r6, rfl⟩ := arr7 hr2
    have c0 : wq.cell? ⟨BX, 0, none⟩ = some (.bool fo) := blkc HF.out.box 0
    have d0 : wq.cell? ⟨R, 0, none⟩ = some r0 := blkc hr1 0
    have e0 := blkf hr1 0
    have c1 : wq.cell? ⟨BX, 1, none⟩ = some (.bool st) := blkc HF.out.box 1
    have d1 : wq.cell? ⟨R, 1, none⟩ = some r1 := blkc hr1 1
    have e1 := blkf hr1 1
    have c2 : wq.cell? ⟨BX, 2, none⟩ = some (.bool ph) := blkc HF.out.box 2
    have d2 : wq.cell? ⟨R, 2, none⟩ = some r2 := blkc hr1 2
    have e2 := blkf hr1 2
    have c3 : wq.cell? ⟨BX, 3, none⟩ = some (.slice (aS) (stops).length cS) := blkc HF.out.box 3
    have d3 : wq.cell? ⟨R, 3, none⟩ = some r3 := blkc hr1 3
    have e3 := blkf hr1 3
    have c4 : wq.cell? ⟨BX, 4, none⟩ = some (.slice (aY) (syns).length cY) := blkc HF.out.box 4
    have d4 : wq.cell? ⟨R, 4, none⟩ = some r4 := blkc hr1 4
    have e4 := blkf hr1 4
    have c5 : wq.cell? ⟨BX, 5, none⟩ = some (.int .i64 lo) := blkc HF.out.box 5
    have d5 : wq.cell? ⟨R, 5, none⟩ = some r5 := blkc hr1 5
    have e5 := blkf hr1 5
    have c6 : wq.cell? ⟨BX, 6, none⟩ = some (.int .i64 ((Z : Int) - 1)) := blkc HF.out.box 6
    have d6 : wq.cell? ⟨R, 6, none⟩ = some r6 := blkc hr1 6
    have e6 := blkf hr1 6
    have hne := HF.out.ne
    clear hr1 hr2
    go_wp2_with fail
    refine bodyPost_ret (v := .agg #[.bool fo, .bool st, .bool ph, .slice (aS) (stops).length cS, .slice (aY) (syns).length cY, .int .i64 (lo), .int .i64 (((Z : Int) - 1))]) (by simp [results, Tryz.results26, go_sem, *]) rfl ?_
    have HR := hidd (((((((HF.out.setR 0 (.bool fo)).setR 1 (.bool st)).setR 2 (.bool ph)).setR 3 (.slice (aS) (stops).length cS)).setR 4 (.slice (aY) (syns).length cY)).setR 5 (.int .i64 (lo))).setR 6 (.int .i64 (((Z : Int) - 1))))
    exact ⟨fo, st, ph, _, _, _, _, _, _, _, _, rfl, HR.out.src.mono (by omega), HR.out.but, HR.out.stp, HR.out.syn, HR.out.so.imp (fun x h => Or.inl h), HR.out.yo.imp (fun x h => Or.inl h), HM.out, Or.inl rfl, Or.inl rfl, hcS⟩
  by_cases h2 : X = 2
  · subst h2
    have c3 : (w2.alloc (.cells #[] 9)).cell? ⟨BX, 3, none⟩ = some (.slice aS stops.length cS) := blkc (HB1.out.alloc _).box 3
    have hNw := HB1.out.size
    have HO4 : Hid ((w2.alloc (.cells #[] 9)).ownsRow w2.heap.size 9 1 (.slice (some ⟨w2.heap.size, 0, none⟩) 0 0) 0 []) := own_empty w2 _
    have HB4 := hidd (HB1.out.alloc (.cells #[] 9))
    have HSs := hidd (holdS_src (c := cS) HB4.out.stp hcS)
    go_wp2_with (at_builtin; refine wpList_append_any _ rfl _ _ 23 rfl w2.heap.size 9 i1 (.string ⟨#[]⟩) 1 16 Tryz.underlying23 hi1 hy0 hy1 hy2 rfl (by decide) _ _ _ rfl HO4.out _ _ _ _ rfl HSs.out ?c1 ?c2 ?c3 ?_)
    case c1 => unfold maxLen; omega
    case c2 => omega
    case c3 => simp
    intro v25 w25 hown25 hgrow25
    have HO5 : Hid (w25.ownsRow w2.heap.size 9 1 v25 stops.length (sCells stops)) := by
      first
        | exact hown25
        | (have q := hown25; rw [Nat.zero_add, List.nil_append] at q; exact q)
    have HB5 := hidd (HB4.out.grow (N := w2.heap.size) hgrow25 (fun g e => by cases e; exact Nat.le_refl _) hNw (HSO2.out _ (by omega)).1 (HSO2.out _ (by omega)).2)
    have hz25 : w2.heap.size ≤ w25.heap.size := by have := hgrow25.size; simp at this; omega
    clear hown25 hgrow25 HB4 HO4 HSs c3
    go_wp2_with fail
    refine (nextS HB5.out.src hn (by omega) 2 (by omega) (by omega)).mono ?_
    rintro e w27 ⟨Z, rfl, hZ, hsA, hbA⟩
    have HB6 := hidd (HB5.out.draw hsA hbA)
    have HO6 := hidd (ownG_heap HO5.out (fun g e hl => hbA.block g hl (fun q => by have := (ownG_base HO5.out g e).1; have := HB5.out.bl; have := HB5.out.xl; omega)))
    have hz27 : w2.heap.size ≤ w27.heap.size := Nat.le_trans hz25 hbA.size
    clear hsA hbA HB5 HO5
    have HRp := repeat_any ⟨#[115]⟩ (64 + Z) w27 (by decide) (by omega)
    rw [show ((64 + Z : Nat) : Int) = 64 + (Z : Int) by omega] at HRp
    have HRq := hidd HRp
    clear HRp
    go_wp2_with fail
    refine HRq.out.mono ?_
    rintro e w29 ⟨r, rfl, hr, hb29⟩
    have hr2 : r.size ≤ 1048576 := by
      have : (⟨#[115]⟩ : ByteArray).size = 1 := rfl
      rw [this] at hr
      omega
    have HB7 := hidd ((HB6.out.draw (HB6.out.src.below hb29) (But.of_below hb29)).alloc (.cells #[.string ⟨#[]⟩, .string ⟨#[255]⟩, .string r] 9))
    have HO7 : Hid ((w29.alloc (.cells #[.string ⟨#[]⟩, .string ⟨#[255]⟩, .string r] 9)).ownsRow _ _ _ _ _ _) := ownG_heap HO6.out (fun g e hl => (Below.heap_alloc _ _ _ (by have := hb29.size; omega)).trans (hb29.block g hl))
    have HT7 : Hid ((w29.alloc (.cells #[.string ⟨#[]⟩, .string ⟨#[255]⟩, .string r] 9)).heap[w29.heap.size]? = some (.cells #[.string ⟨#[]⟩, .string ⟨#[255]⟩, .string r] 9)) := heap_alloc_new _ _
    have hz9 : w2.heap.size ≤ w29.heap.size := Nat.le_trans hz27 hb29.size
    clear hr hb29 HB6 HO6 HRq
    go_wp2_with fail
    refine (nextS HB7.out.src hn (by omega) 3 (by omega) (by omega)).mono ?_
    rintro e w32 ⟨Y, rfl, hY, hsA, hbA⟩
    have HB8 := hidd (HB7.out.draw hsA hbA)
    have HO8 := hidd (ownG_heap HO7.out (fun g e hl => hbA.block g hl (fun q => by have := (ownG_base HO7.out g e).1; have := HB7.out.bl; have := HB7.out.xl; omega)))
    have hT8 := (hbA.block _ (Array.getElem?_eq_some_iff.1 HT7.out).1 (by have := HB7.out.bl; have := HB7.out.xl; omega)).trans HT7.out
    have hz32 : w2.heap.size ≤ w32.heap.size := by have := hbA.size; simp at this; omega
    obtain ⟨y, hy, hyl⟩ := tabS3 hT8 hr2 Y (by omega)
    have hTl := (Array.getElem?_eq_some_iff.1 hT8).1
    clear hsA hbA HB7 HO7 HT7 hT8
    have HB9 := hidd (HB8.out.alloc (.cells #[.string (bs y)] 9))
    have HO9 : Hid ((w32.alloc (.cells #[.string (bs y)] 9)).ownsRow _ _ _ _ _ _) := ownG_heap HO8.out (fun g e hl => Below.heap_alloc _ _ _ hl)
    go_wp2_with (at_builtin; refine wpList_append_lies _ rfl _ _ 23 rfl w2.heap.size 9 i1 (.string ⟨#[]⟩) 1 16 Tryz.underlying23 hi1 hy0 hy1 hy2 rfl (by decide) _ _ _ rfl HO9.out ⟨w32.heap.size, 0, none⟩ 1 1 [.string (bs y)] rfl rfl (World.news_of_block (heap_alloc_new w32 _)) (by intro v hv; simp at hv; subst hv; rfl) (by omega) ?c3 ?c4 ?c5 _ rfl ?_)
    case c3 => unfold maxLen; omega
    case c4 => omega
    case c5 => simp; omega
    intro g6 cp6 w36 hown hgrow hat hlt
    have hlen : (stops ++ [y]).length = stops.length + 1 := by simp
    have hg6 := (ownG_base hown g6 rfl).1
    have HH : Hid (HoldS w36 (some ⟨g6, 0, none⟩) (stops ++ [y])) := by
      refine holdS_own (base := w2.heap.size) (cap := cp6) ?_
      rw [sCells_snoc, hlen]
      exact hown
    have hob : ∀ g, v25.ownBlock = some g → w2.heap.size ≤ g := fun g e => (ownG_base HO9.out g e).1
    have HG := hidd (HB9.out.grow (N := w2.heap.size) hgrow hob hNw (HSO2.out _ (by omega)).1 (HSO2.out _ (by omega)).2)
    have c3 : w36.cell? ⟨BX, 3, none⟩ = some (.slice aS stops.length cS) := blkc HG.out.box 3
    have f3 := blkf HG.out.box 3
    have HF : Hid (BA w (w36.setCell ⟨BX, 3, none⟩ (.slice (some ⟨g6, 0, none⟩) (stops.length + 1) cp6)) b ao n cap (A + 3 + 3 + 3) BX R fo st ph (some ⟨g6, 0, none⟩) aY cp6 cY (stops ++ [y]) syns lo hi) := by
      have q := HB9.out.app3 (N := w2.heap.size) (c' := cp6) hgrow hob hNw (HSO2.out _ (by omega)).2 HH.out (fun blk off e hx => by cases e; omega)
      rw [hlen] at q
      exact q
    have HM : Hid (smallA (stops ++ [y]) syns lo hi) := ⟨by rw [List.length_append, List.length_singleton]; omega, HSM.out.2.1, fun t ht => by
      rcases List.mem_append.1 ht with ht | ht
      · exact HSM.out.2.2.1 t ht
      · rw [List.mem_singleton] at ht; rw [ht]; exact hyl, HSM.out.2.2.2⟩
    clear hown hgrow hat hlt hob HG HB9 HO9 HB8 HO8 hy 
    go_upto_region 16 with fail
    clear c3 f3
    generalize w36.setCell ⟨BX, 3, none⟩ (.slice (some ⟨g6, 0, none⟩) (stops.length + 1) cp6) = wq at *
    clear HH hlen
    generalize stops ++ [y] = ST at *
    obtain ⟨cs, hr1, hr2⟩ := HF.out.res
    obtain ⟨r0, r1, r2, r3, r4, r5, r6, rfl⟩ := arr7 hr2
    have c0 : wq.cell? ⟨BX, 0, none⟩ = some (.bool fo) := blkc HF.out.box 0
    have d0 : wq.cell? ⟨R, 0, none⟩ = some r0 := blkc hr1 0
    have e0 := blkf hr1 0
    have c1 : wq.cell? ⟨BX, 1, none⟩ = some (.bool st) := blkc HF.out.box 1
    have d1 : wq.cell? ⟨R, 1, none⟩ = some r1 := blkc hr1 1
    have e1 := blkf hr1 1
    have c2 : wq.cell? ⟨BX, 2, none⟩ = some (.bool ph) := blkc HF.out.box 2
    have d2 : wq.cell? ⟨R, 2, none⟩ = some r2 := blkc hr1 2
    have e2 := blkf hr1 2
    have c3 : wq.cell? ⟨BX, 3, none⟩ = some (.slice (some ⟨g6, 0, none⟩) (ST).length cp6) := blkc HF.out.box 3
    have d3 : wq.cell? ⟨R, 3, none⟩ = some r3 := blkc hr1 3
    have e3 := blkf hr1 3
    have c4 : wq.cell? ⟨BX, 4, none⟩ = some (.slice (aY) (syns).length cY) := blkc HF.out.box 4
    have d4 : wq.cell? ⟨R, 4, none⟩ = some r4 := blkc hr1 4
    have e4 := blkf hr1 4
    have c5 : wq.cell? ⟨BX, 5, none⟩ = some (.int .i64 lo) := blkc HF.out.box 5
    have d5 : wq.cell? ⟨R, 5, none⟩ = some r5 := blkc hr1 5
    have e5 := blkf hr1 5
    have c6 : wq.cell? ⟨BX, 6, none⟩ = some (.int .i64 hi) := blkc HF.out.box 6
    have d6 : wq.cell? ⟨R, 6, none⟩ = some r6 := blkc hr1 6
    have e6 := blkf hr1 6
    have hne := HF.out.ne
    clear hr1 hr2
    go_wp2_with fail
    refine bodyPost_ret (v := .agg #[.bool fo, .bool st, .bool ph, .slice (some ⟨g6, 0, none⟩) (ST).length cp6, .slice (aY) (syns).length cY, .int .i64 (lo), .int .i64 (hi)]) (by simp [results, Tryz.results26, go_sem, *]) rfl ?_
    have HR := hidd (((((((HF.out.setR 0 (.bool fo)).setR 1 (.bool st)).setR 2 (.bool ph)).setR 3 (.slice (some ⟨g6, 0, none⟩) (ST).length cp6)).setR 4 (.slice (aY) (syns).length cY)).setR 5 (.int .i64 (lo))).setR 6 (.int .i64 (hi)))
    exact ⟨fo, st, ph, _, _, _, _, _, _, _, _, rfl, HR.out.src.mono (by omega), HR.out.but, HR.out.stp, HR.out.syn, HR.out.so.imp (fun x h => Or.inl h), HR.out.yo.imp (fun x h => Or.inl h), HM.out, Or.inr (fun blk off e hx => by cases e; omega), Or.inl rfl, (fun e => by cases e)⟩
  by_cases h3 : X = 3
  · subst h3
    have c3 : (w2.alloc (.cells #[] 80)).cell? ⟨BX, 4, none⟩ = some (.slice aY syns.length cY) := blkc (HB1.out.alloc _).box 4
    have hNw := HB1.out.size
    have HO4 : Hid ((w2.alloc (.cells #[] 80)).ownsRow w2.heap.size 80 2 (.slice (some ⟨w2.heap.size, 0, none⟩) 0 0) 0 []) := own_empty2 w2 _
    have HB4 := hidd (HB1.out.alloc (.cells #[] 80))
    have HSs := hidd (holdY_src (c := cY) HB4.out.syn hcY)
    go_wp2_with (at_builtin; refine wpList_append_any _ rfl _ _ 24 rfl w2.heap.size 80 i0 (.agg #[.string ⟨#[]⟩, .string ⟨#[]⟩]) 2 32 Tryz.underlying24 hi0 hz0 hz1 hz2 rfl (by decide) _ _ _ rfl HO4.out _ _ _ _ rfl HSs.out ?c1 ?c2 ?c3 ?_)
    case c1 => unfold maxLen; omega
    case c2 => omega
    case c3 => simp
    intro v25 w25 hown25 hgrow25
    have HO5 : Hid (w25.ownsRow w2.heap.size 80 2 v25 syns.length (yCells syns)) := by
      first
        | exact hown25
        | (have q := hown25; rw [Nat.zero_add, List.nil_append] at q; exact q)
    have HB5 := hidd (HB4.out.grow (N := w2.heap.size) hgrow25 (fun g e => by cases e; exact Nat.le_refl _) hNw (HSO2.out _ (by omega)).1 (HSO2.out _ (by omega)).2)
    have hz25 : w2.heap.size ≤ w25.heap.size := by have := hgrow25.size; simp at this; omega
    clear hown25 hgrow25 HB4 HO4 HSs c3
    have HB6 := HB5
    have HO6 := HO5
    have hz27 := hz25
    clear HB5 HO5
    have HRp := repeat_any ⟨#[121]⟩ 64 w25 (by decide) (by omega)
    rw [show ((64 : Nat) : Int) = 64 from rfl] at HRp
    have HRq := hidd HRp
    clear HRp
    go_wp2_with fail
    refine HRq.out.mono ?_
    rintro e w29 ⟨r, rfl, hr, hb29⟩
    have hr2 : r.size ≤ 1048576 := by
      have : (⟨#[121]⟩ : ByteArray).size = 1 := rfl
      rw [this] at hr
      omega
    have HB7 := hidd ((HB6.out.draw (HB6.out.src.below hb29) (But.of_below hb29)).alloc (.cells #[.string ⟨#[120]⟩, .string ⟨#[120]⟩, .string ⟨#[]⟩, .string ⟨#[120]⟩, .string ⟨#[120]⟩, .string ⟨#[195]⟩, .string ⟨#[120]⟩, .string r] 80))
    have HO7 : Hid ((w29.alloc (.cells #[.string ⟨#[120]⟩, .string ⟨#[120]⟩, .string ⟨#[]⟩, .string ⟨#[120]⟩, .string ⟨#[120]⟩, .string ⟨#[195]⟩, .string ⟨#[120]⟩, .string r] 80)).ownsRow _ _ _ _ _ _) := ownG_heap HO6.out (fun g e hl => (Below.heap_alloc _ _ _ (by have := hb29.size; omega)).trans (hb29.block g hl))
    have HT7 : Hid ((w29.alloc (.cells #[.string ⟨#[120]⟩, .string ⟨#[120]⟩, .string ⟨#[]⟩, .string ⟨#[120]⟩, .string ⟨#[120]⟩, .string ⟨#[195]⟩, .string ⟨#[120]⟩, .string r] 80)).heap[w29.heap.size]? = some (.cells #[.string ⟨#[120]⟩, .string ⟨#[120]⟩, .string ⟨#[]⟩, .string ⟨#[120]⟩, .string ⟨#[120]⟩, .string ⟨#[195]⟩, .string ⟨#[120]⟩, .string r] 80)) := heap_alloc_new _ _
    have hz9 : w2.heap.size ≤ w29.heap.size := Nat.le_trans hz27 hb29.size
    clear hr hb29 HB6 HO6 HRq
    go_wp2_with fail
    refine (nextS HB7.out.src hn (by omega) 4 (by omega) (by omega)).mono ?_
    rintro e w32 ⟨Y, rfl, hY, hsA, hbA⟩
    have HB8 := hidd (HB7.out.draw hsA hbA)
    have HO8 := hidd (ownG_heap HO7.out (fun g e hl => hbA.block g hl (fun q => by have := (ownG_base HO7.out g e).1; have := HB7.out.bl; have := HB7.out.xl; omega)))
    have hT8 := (hbA.block _ (Array.getElem?_eq_some_iff.1 HT7.out).1 (by have := HB7.out.bl; have := HB7.out.xl; omega)).trans HT7.out
    have hz32 : w2.heap.size ≤ w32.heap.size := by have := hbA.size; simp at this; omega
    obtain ⟨y, hy, hy', hyl⟩ := tabY4 hT8 hr2 Y (by omega)
    have hTl := (Array.getElem?_eq_some_iff.1 hT8).1
    clear hsA hbA HB7 HO7 HT7 hT8
    have HB9 := hidd (HB8.out.alloc (.cells #[.string (bs y.1), .string (bs y.2)] 80))
    have HO9 : Hid ((w32.alloc (.cells #[.string (bs y.1), .string (bs y.2)] 80)).ownsRow _ _ _ _ _ _) := ownG_heap HO8.out (fun g e hl => Below.heap_alloc _ _ _ hl)
    go_wp2_with (at_builtin; refine wpList_append_lies _ rfl _ _ 24 rfl w2.heap.size 80 i0 (.agg #[.string ⟨#[]⟩, .string ⟨#[]⟩]) 2 32 Tryz.underlying24 hi0 hz0 hz1 hz2 rfl (by decide) _ _ _ rfl HO9.out ⟨w32.heap.size, 0, none⟩ 1 1 [.string (bs y.1), .string (bs y.2)] rfl rfl (World.news_of_block (heap_alloc_new w32 _)) (by intro v hv; simp at hv; rcases hv with rfl | rfl <;> rfl) (by omega) ?c3 ?c4 ?c5 _ rfl ?_)
    case c3 => unfold maxLen; omega
    case c4 => omega
    case c5 => simp; omega
    intro g6 cp6 w36 hown hgrow hat hlt
    have hlen : (syns ++ [y]).length = syns.length + 1 := by simp
    have hg6 := (ownG_base hown g6 rfl).1
    have HH : Hid (HoldY w36 (some ⟨g6, 0, none⟩) (syns ++ [y])) := by
      refine holdY_own (base := w2.heap.size) (cap := cp6) ?_
      rw [yCells_snoc, hlen]
      exact hown
    have hob : ∀ g, v25.ownBlock = some g → w2.heap.size ≤ g := fun g e => (ownG_base HO9.out g e).1
    have HG := hidd (HB9.out.grow (N := w2.heap.size) hgrow hob hNw (HSO2.out _ (by omega)).1 (HSO2.out _ (by omega)).2)
    have c3 : w36.cell? ⟨BX, 4, none⟩ = some (.slice aY syns.length cY) := blkc HG.out.box 4
    have f3 := blkf HG.out.box 4
    have HF : Hid (BA w (w36.setCell ⟨BX, 4, none⟩ (.slice (some ⟨g6, 0, none⟩) (syns.length + 1) cp6)) b ao n cap (A + 3 + 3) BX R fo st ph aS (some ⟨g6, 0, none⟩) cS cp6 stops (syns ++ [y]) lo hi) := by
      have q := HB9.out.app4 (N := w2.heap.size) (c' := cp6) hgrow hob hNw (HSO2.out _ (by omega)).1 HH.out (fun blk off e hx => by cases e; omega)
      rw [hlen] at q
      exact q
    have HM : Hid (smallA stops (syns ++ [y]) lo hi) := ⟨HSM.out.1, by rw [List.length_append, List.length_singleton]; omega, HSM.out.2.2.1, fun t ht => by
      rcases List.mem_append.1 ht with ht | ht
      · exact HSM.out.2.2.2.1 t ht
      · rw [List.mem_singleton] at ht; rw [ht]; exact hyl, HSM.out.2.2.2.2⟩
    clear hown hgrow hat hlt hob HG HB9 HO9 HB8 HO8 hy 
    go_upto_region 16 with fail
    clear c3 f3
    generalize w36.setCell ⟨BX, 4, none⟩ (.slice (some ⟨g6, 0, none⟩) (syns.length + 1) cp6) = wq at *
    clear HH hlen
    generalize syns ++ [y] = ST at *
    obtain ⟨cs, hr1, hr2⟩ := HF.out.res
    obtain ⟨r0, r1, r2, r3, r4, r5, r6, rfl⟩ := arr7 hr2
    have c0 : wq.cell? ⟨BX, 0, none⟩ = some (.bool fo) := blkc HF.out.box 0
    have d0 : wq.cell? ⟨R, 0, none⟩ = some r0 := blkc hr1 0
    have e0 := blkf hr1 0
    have c1 : wq.cell? ⟨BX, 1, none⟩ = some (.bool st) := blkc HF.out.box 1
    have d1 : wq.cell? ⟨R, 1, none⟩ = some r1 := blkc hr1 1
    have e1 := blkf hr1 1
    have c2 : wq.cell? ⟨BX, 2, none⟩ = some (.bool ph) := blkc HF.out.box 2
    have d2 : wq.cell? ⟨R, 2, none⟩ = some r2 := blkc hr1 2
    have e2 := blkf hr1 2
    have c3 : wq.cell? ⟨BX, 3, none⟩ = some (.slice (aS) (stops).length cS) := blkc HF.out.box 3
    have d3 : wq.cell? ⟨R, 3, none⟩ = some r3 := blkc hr1 3
    have e3 := blkf hr1 3
    have c4 : wq.cell? ⟨BX, 4, none⟩ = some (.slice (some ⟨g6, 0, none⟩) (ST).length cp6) := blkc HF.out.box 4
    have d4 : wq.cell? ⟨R, 4, none⟩ = some r4 := blkc hr1 4
    have e4 := blkf hr1 4
    have c5 : wq.cell? ⟨BX, 5, none⟩ = some (.int .i64 lo) := blkc HF.out.box 5
    have d5 : wq.cell? ⟨R, 5, none⟩ = some r5 := blkc hr1 5
    have e5 := blkf hr1 5
    have c6 : wq.cell? ⟨BX, 6, none⟩ = some (.int .i64 hi) := blkc HF.out.box 6
    have d6 : wq.cell? ⟨R, 6, none⟩ = some r6 := blkc hr1 6
    have e6 := blkf hr1 6
    have hne := HF.out.ne
    clear hr1 hr2
    go_wp2_with fail
    refine bodyPost_ret (v := .agg #[.bool fo, .bool st, .bool ph, .slice (aS) (stops).length cS, .slice (some ⟨g6, 0, none⟩) (ST).length cp6, .int .i64 (lo), .int .i64 (hi)]) (by simp [results, Tryz.results26, go_sem, *]) rfl ?_
    have HR := hidd (((((((HF.out.setR 0 (.bool fo)).setR 1 (.bool st)).setR 2 (.bool ph)).setR 3 (.slice (aS) (stops).length cS)).setR 4 (.slice (some ⟨g6, 0, none⟩) (ST).length cp6)).setR 5 (.int .i64 (lo))).setR 6 (.int .i64 (hi)))
    exact ⟨fo, st, ph, _, _, _, _, _, _, _, _, rfl, HR.out.src.mono (by omega), HR.out.but, HR.out.stp, HR.out.syn, HR.out.so.imp (fun x h => Or.inl h), HR.out.yo.imp (fun x h => Or.inl h), HM.out, Or.inl rfl, Or.inr (fun blk off e hx => by cases e; omega), hcS⟩
  by_cases h4 : X = 4
  · subst h4
    have c3 : (w2.alloc (.cells #[] 9)).cell? ⟨BX, 3, none⟩ = some (.slice aS stops.length cS) := blkc (HB1.out.alloc _).box 3
    have f3 := blkf (HB1.out.alloc (.cells #[] 9)).box 3
    have HNw := hidd HB1.out.size
    have HF0 : Hid (BA w ((w2.alloc (.cells #[] 9)).setCell ⟨BX, 3, none⟩ (.slice (some ⟨w2.heap.size, 0, none⟩) 0 0)) b ao n cap (A + 3) BX R fo st ph (some ⟨w2.heap.size, 0, none⟩) aY 0 cY [] syns lo hi) := (HB1.out.alloc _).setS (a' := some ⟨w2.heap.size, 0, none⟩) (c' := 0) (l' := []) (Or.inl rfl) (fun blk off e hx => by cases e; have := HB1.out.bl; have := HB1.out.xl; have := HB1.out.size; omega)
    have HO0 : Hid (((w2.alloc (.cells #[] 9)).setCell ⟨BX, 3, none⟩ (.slice (some ⟨w2.heap.size, 0, none⟩) 0 0)).ownsRow w2.heap.size 9 1 (.slice (some ⟨w2.heap.size, 0, none⟩) 0 0) 0 []) := ownG_heap (own_empty w2 _) (fun g e hl => heap_set_other _ _ _ _ _ (by have e2 : w2.heap.size = g := Option.some.inj e; have := HNw.out; omega))
    have HYN := hidd (HSO2.out w2.heap.size (by have := HNw.out; omega)).2
    go_upto_region 12 with fail
    clear c3 f3 HB1
    generalize (w2.alloc (.cells #[] 9)).setCell ⟨BX, 3, none⟩ (.slice (some ⟨w2.heap.size, 0, none⟩) 0 0) = w4 at *
    generalize w2.heap.size = N at *
    have hNw := HNw.out
    go_upto_region 13 with (go_at_call 28; refine (nextS HF0.out.src hn (by omega) 2 (by omega) (by omega)).mono ?_; rintro e w5 ⟨Z, rfl, hZ, hs5, hb5⟩)
    have HF1 := hidd (HF0.out.draw hs5 hb5)
    have HO1 := hidd (ownG_heap HO0.out (fun g e hl => hb5.block g hl (fun q => by have e2 : N = g := Option.some.inj e; have := HF0.out.bl; have := HF0.out.xl; omega)))
    clear hs5 hb5 HF0 HO0
    go_loopw [5] (fun iv wx => ∃ (k : Nat) (aS' : Option Addr) (cS' : Nat) (L : List (List UInt8)), iv = .int .i64 (k : Int) ∧ k + L.length ≤ 65 ∧ BA w wx b ao n cap (A + 6) BX R fo st ph aS' aY cS' cY L syns lo hi ∧ wx.ownsRow N 9 1 (.slice aS' L.length cS') L.length (sCells L) ∧ (∀ t ∈ L, t.length ≤ 1048576) ∧ N ≤ wx.heap.size) (fun iv _ => (intOf iv).toNat)
    case atStart => exact ⟨64 + Z, _, _, [], by rw [show ((64 + Z : Nat) : Int) = 64 + (Z : Int) by omega], by simp; omega, HF1.out.mono (by omega), HO1.out, (fun t ht => by simp at ht), Nat.le_of_lt (ownG_base HO1.out N rfl).2⟩
    case round =>
      obtain ⟨k, aS', cS', L, rfl, hkL, hB, hO, hLt, hNr⟩ := hrel
      have HBx := hidd hB
      have HOx := hidd hO
      have HLt := hidd hLt
      clear hB hO hLt HF1 HO1
      by_cases hk : 0 < k
      · have hkz : (0 : Int) < (k : Int) := by omega
        have c3 : wr.cell? ⟨BX, 3, none⟩ = some (.slice aS' L.length cS') := blkc HBx.out.box 3
        have HB9 := hidd (HBx.out.alloc (.cells #[.string ⟨#[119]⟩] 9))
        have HO9 : Hid ((wr.alloc (.cells #[.string ⟨#[119]⟩] 9)).ownsRow _ _ _ _ _ _) := ownG_heap HOx.out (fun g e hl => Below.heap_alloc _ _ _ hl)
        have hzr := HBx.out.size
        go_wp2_with (at_builtin; refine wpList_append_lies _ rfl _ _ 23 rfl N 9 i1 (.string ⟨#[]⟩) 1 16 Tryz.underlying23 hi1 hy0 hy1 hy2 rfl (by decide) _ _ _ rfl HO9.out ⟨wr.heap.size, 0, none⟩ 1 1 [.string ⟨#[119]⟩] rfl rfl (World.news_of_block (heap_alloc_new wr _)) (by intro v hv; simp at hv; subst hv; rfl) (by omega) ?c3 ?c4 ?c5 _ rfl ?_)
        case c3 => unfold maxLen; omega
        case c4 => omega
        case c5 => simp; omega
        intro g6 cp6 w36 hown hgrow hat hlt
        have hlen : (L ++ [[119]]).length = L.length + 1 := by simp
        have hg6 := (ownG_base hown g6 rfl).1
        have HOw : Hid (w36.ownsRow N 9 1 (.slice (some ⟨g6, 0, none⟩) (L ++ [[119]]).length cp6) (L ++ [[119]]).length (sCells (L ++ [[119]]))) := by
          rw [sCells_snoc, hlen]
          exact hown
        have hob : ∀ g, (Value.slice aS' L.length cS').ownBlock = some g → N ≤ g := fun g e => (ownG_base HO9.out g e).1
        have hbx : w36.heap[BX]? = _ := (hgrow.block BX HB9.out.size.1 (fun e => by have := hob BX e.symm; omega)).trans HB9.out.box
        have c3' : w36.cell? ⟨BX, 3, none⟩ = some (.slice aS' L.length cS') := blkc hbx 3
        have f3' := blkf hbx 3
        have HF : Hid (BA w (w36.setCell ⟨BX, 3, none⟩ (.slice (some ⟨g6, 0, none⟩) (L.length + 1) cp6)) b ao n cap (A + 6) BX R fo st ph (some ⟨g6, 0, none⟩) aY cp6 cY (L ++ [[119]]) syns lo hi) := by
          have q := HB9.out.app3 (N := N) (c' := cp6) hgrow hob hNw HYN.out (holdS_own HOw.out) (fun blk off e hx => by cases e; omega)
          rw [hlen] at q
          exact q
        have HOf : Hid ((w36.setCell ⟨BX, 3, none⟩ (.slice (some ⟨g6, 0, none⟩) (L.length + 1) cp6)).ownsRow N 9 1 (.slice (some ⟨g6, 0, none⟩) (L ++ [[119]]).length cp6) (L ++ [[119]]).length (sCells (L ++ [[119]]))) := ownG_heap HOw.out (fun g e hl => heap_set_other _ _ _ _ _ (by have e2 : g6 = g := Option.some.inj e; omega))
        have hz40 : Hid (N ≤ (w36.setCell ⟨BX, 3, none⟩ (.slice (some ⟨g6, 0, none⟩) (L.length + 1) cp6)).heap.size) := by
          show _ ≤ _
          have := hgrow.size
          simp at this ⊢
          omega
        clear hown hgrow hat hlt hob hbx HOw HB9 HO9 HBx HOx c3
        go_upto_region 14 with fail
        clear c3' f3'
        generalize w36.setCell ⟨BX, 3, none⟩ (.slice (some ⟨g6, 0, none⟩) (L.length + 1) cp6) = w40 at *
        go_wp2_with fail
        refine ⟨⟨k - 1, _, _, L ++ [[119]], by rw [show ((k - 1 : Nat) : Int) = (k : Int) - 1 by omega], by rw [hlen]; omega, HF.out, HOf.out, ?_, hz40.out⟩, by simp [intOf]; omega⟩
        intro t ht
        rcases List.mem_append.1 ht with ht | ht
        · exact HLt.out t ht
        · rw [List.mem_singleton] at ht; rw [ht]; decide
      · have hkz : ¬ (0 : Int) < (k : Int) := by omega
        have HM : Hid (smallA L syns lo hi) := ⟨by omega, HSM.out.2.1, HLt.out, HSM.out.2.2.2⟩
        go_upto_region 16 with fail
        obtain ⟨cs, hr1, hr2⟩ := HBx.out.res
        obtain ⟨r0, r1, r2, r3, r4, r5, r6, rfl⟩ := arr7 hr2
        have c0 : wr.cell? ⟨BX, 0, none⟩ = some (.bool fo) := blkc HBx.out.box 0
        have d0 : wr.cell? ⟨R, 0, none⟩ = some r0 := blkc hr1 0
        have e0 := blkf hr1 0
        have c1 : wr.cell? ⟨BX, 1, none⟩ = some (.bool st) := blkc HBx.out.box 1
        have d1 : wr.cell? ⟨R, 1, none⟩ = some r1 := blkc hr1 1
        have e1 := blkf hr1 1
        have c2 : wr.cell? ⟨BX, 2, none⟩ = some (.bool ph) := blkc HBx.out.box 2
        have d2 : wr.cell? ⟨R, 2, none⟩ = some r2 := blkc hr1 2
        have e2 := blkf hr1 2
        have c3 : wr.cell? ⟨BX, 3, none⟩ = some (.slice (aS') (L).length cS') := blkc HBx.out.box 3
        have d3 : wr.cell? ⟨R, 3, none⟩ = some r3 := blkc hr1 3
        have e3 := blkf hr1 3
        have c4 : wr.cell? ⟨BX, 4, none⟩ = some (.slice (aY) (syns).length cY) := blkc HBx.out.box 4
        have d4 : wr.cell? ⟨R, 4, none⟩ = some r4 := blkc hr1 4
        have e4 := blkf hr1 4
        have c5 : wr.cell? ⟨BX, 5, none⟩ = some (.int .i64 lo) := blkc HBx.out.box 5
        have d5 : wr.cell? ⟨R, 5, none⟩ = some r5 := blkc hr1 5
        have e5 := blkf hr1 5
        have c6 : wr.cell? ⟨BX, 6, none⟩ = some (.int .i64 hi) := blkc HBx.out.box 6
        have d6 : wr.cell? ⟨R, 6, none⟩ = some r6 := blkc hr1 6
        have e6 := blkf hr1 6
        have hne := HBx.out.ne
        clear hr1 hr2
        go_wp2_with fail
        refine bodyPost_ret (v := .agg #[.bool fo, .bool st, .bool ph, .slice (aS') (L).length cS', .slice (aY) (syns).length cY, .int .i64 (lo), .int .i64 (hi)]) (by simp [results, Tryz.results26, go_sem, *]) rfl ?_
        have HR := hidd (((((((HBx.out.setR 0 (.bool fo)).setR 1 (.bool st)).setR 2 (.bool ph)).setR 3 (.slice (aS') (L).length cS')).setR 4 (.slice (aY) (syns).length cY)).setR 5 (.int .i64 (lo))).setR 6 (.int .i64 (hi)))
        exact ⟨fo, st, ph, _, _, _, _, _, _, _, _, rfl, HR.out.src.mono (by omega), HR.out.but, HR.out.stp, HR.out.syn, HR.out.so.imp (fun x h => Or.inl h), HR.out.yo.imp (fun x h => Or.inl h), HM.out, Or.inr ((ownOff HOx.out).imp (fun x hx => by omega)), Or.inl rfl, ownCap HOx.out⟩
  have g0 : ¬ ((X : Int) = 0) := by omega
  have g1 : ¬ ((X : Int) = 1) := by omega
  have g2 : ¬ ((X : Int) = 2) := by omega
  have g3 : ¬ ((X : Int) = 3) := by omega
  have g4 : ¬ ((X : Int) = 4) := by omega
  go_upto_region 16 with fail
  obtain ⟨cs, hr1, hr2⟩ := HB1.out.res
  obtain ⟨r0, r1, r2, r3, r4, r5, r6, rfl⟩ := arr7 hr2
  have c0 : w2.cell? ⟨BX, 0, none⟩ = some (.bool fo) := blkc HB1.out.box 0
  have d0 : w2.cell? ⟨R, 0, none⟩ = some r0 := blkc hr1 0
  have e0 := blkf hr1 0
  have c1 : w2.cell? ⟨BX, 1, none⟩ = some (.bool st) := blkc HB1.out.box 1
  have d1 : w2.cell? ⟨R, 1, none⟩ = some r1 := blkc hr1 1
  have e1 := blkf hr1 1
  have c2 : w2.cell? ⟨BX, 2, none⟩ = some (.bool ph) := blkc HB1.out.box 2
  have d2 : w2.cell? ⟨R, 2, none⟩ = some r2 := blkc hr1 2
  have e2 := blkf hr1 2
  have c3 : w2.cell? ⟨BX, 3, none⟩ = some (.slice (aS) (stops).length cS) := blkc HB1.out.box 3
  have d3 : w2.cell? ⟨R, 3, none⟩ = some r3 := blkc hr1 3
  have e3 := blkf hr1 3
  have c4 : w2.cell? ⟨BX, 4, none⟩ = some (.slice (aY) (syns).length cY) := blkc HB1.out.box 4
  have d4 : w2.cell? ⟨R, 4, none⟩ = some r4 := blkc hr1 4
  have e4 := blkf hr1 4
  have c5 : w2.cell? ⟨BX, 5, none⟩ = some (.int .i64 lo) := blkc HB1.out.box 5
  have d5 : w2.cell? ⟨R, 5, none⟩ = some r5 := blkc hr1 5
  have e5 := blkf hr1 5
  have c6 : w2.cell? ⟨BX, 6, none⟩ = some (.int .i64 hi) := blkc HB1.out.box 6
  have d6 : w2.cell? ⟨R, 6, none⟩ = some r6 := blkc hr1 6
  have e6 := blkf hr1 6
  have hne := HB1.out.ne
  clear hr1 hr2
  go_wp2_with fail
  refine bodyPost_ret (v := .agg #[.bool fo, .bool st, .bool ph, .slice (aS) (stops).length cS, .slice (aY) (syns).length cY, .int .i64 (lo), .int .i64 (hi)]) (by simp [results, Tryz.results26, go_sem, *]) rfl ?_
  have HR := hidd (((((((HB1.out.setR 0 (.bool fo)).setR 1 (.bool st)).setR 2 (.bool ph)).setR 3 (.slice (aS) (stops).length cS)).setR 4 (.slice (aY) (syns).length cY)).setR 5 (.int .i64 (lo))).setR 6 (.int .i64 (hi)))
  exact ⟨fo, st, ph, _, _, _, _, _, _, _, _, rfl, HR.out.src.mono (by omega), HR.out.but, HR.out.stp, HR.out.syn, HR.out.so.imp (fun x h => Or.inl h), HR.out.yo.imp (fun x h => Or.inl h), HSM.out, Or.inl rfl, Or.inl rfl, hcS⟩
end Go.Proofs.YtionicjnoogpjaaGreatDoor
