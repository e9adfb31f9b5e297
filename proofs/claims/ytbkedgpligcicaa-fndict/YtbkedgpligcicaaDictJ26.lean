import Derived.Test.YtbkedgpligcicaaDictJ25
import Derived.Test.YtbkedgpligcicaaDictJ17
import Derived.Deep.AppendLies
import Derived.RangeFuncNested
import Derived.RangeFuncBound
import Derived.RangeFuncCalls
import Derived.RangeFuncLeaves
import Derived.RangeFuncFrom
import Derived.Shelf.Abstract
import Derived.Shelf.RegionOpen
import Derived.WalkKit
import Derived.OwnWalkIn
import Derived.TacticsInMore
import Derived.LoopNIn
import Derived.LoopIn
import Derived.Deep.DeepCutAuto
import Derived.Deep.CutBlock
import Derived.Test.YtbkedgpligcicaaDictJ12
namespace Go.Proofs.Ytbkedgpligcicaa
open Go Go.RowKit
set_option linter.unusedVariables false
set_option maxRecDepth 100000

/-! How many terms stand ahead of a byte, one byte after the other. -/
theorem aheadT_succ (n : Nat) : ∀ L : List Tx, aheadT (n + 1) L = aheadT n L + (subT n L).length
  | [] => rfl
  | s :: L => by
    have ih := aheadT_succ n L
    unfold aheadT subT at ih ⊢
    rw [List.countP_cons, List.countP_cons, List.filterMap_cons, ih]
    cases s with
    | nil => simp [tailIf, isAhead]; omega
    | cons c r =>
      simp only [isAhead, tailIf]
      by_cases h1 : c.toNat < n
      · have h2 : ¬ c.toNat = n := by omega
        have h3 : c.toNat < n + 1 := by omega
        simp [h1, h2, h3]; omega
      · by_cases h2 : c.toNat = n
        · simp [h2]; omega
        · have h3 : ¬ c.toNat < n + 1 := by omega
          simp [h1, h2, h3]
theorem aheadT_gap {L : List Tx} {a : Nat} : ∀ {b : Nat}, a ≤ b → (∀ n, a ≤ n → n < b → subT n L = []) → aheadT b L = aheadT a L
  | 0, h, _ => by rw [show a = 0 by omega]
  | b + 1, h, hn => by
    by_cases e : a = b + 1
    · rw [e]
    · rw [aheadT_succ, aheadT_gap (b := b) (by omega) (fun n h1 h2 => hn n h1 (by omega)), hn b (by omega) (by omega)]; rfl
theorem aheadT_256 (L : List Tx) : aheadT 256 L = L.length := by
  unfold aheadT
  rw [List.countP_eq_length]
  intro s _
  cases s with
  | nil => rfl
  | cons c r => simp [isAhead]; have := UInt8.toNat_lt c; omega
theorem aheadT_zero {L : List Tx} (h : RiseT L) : aheadT 0 L = if finT L then 1 else 0 := by
  cases L with
  | nil => rfl
  | cons s L =>
    have hr := List.pairwise_cons.1 h
    have hz : ∀ x ∈ L, isAhead 0 x = false := fun x hx => by
      have := hr.1 x hx
      cases x with
      | nil => cases s <;> simp [ltT] at this
      | cons c r => simp [isAhead]
    have h0 : L.countP (isAhead 0) = 0 := by rw [List.countP_eq_zero]; intro x hx; rw [hz x hx]; simp
    have h1 : L.any List.isEmpty = false := by
      rw [List.any_eq_false]
      intro x hx
      have := hz x hx
      cases x with
      | nil => simp [isAhead] at this
      | cons c r => simp
    unfold aheadT finT
    rw [List.countP_cons, h0, List.any_cons, h1]
    cases s <;> simp [isAhead]
/-- What has been told when the arc k is come to. -/
def toldAt (L : List Tx) (k : Nat) : Nat := aheadT ((labelsT L).getD k 256) L
theorem lab_not {L : List Tx} {n : Nat} (h : n < 256) (hn : n ∉ labelsT L) : subT n L = [] := by
  rw [labelsT_mem] at hn
  cases e : subT n L with
  | nil => rfl
  | cons a b => exact absurd ⟨h, by rw [e]; simp⟩ hn
theorem lab_lt {L : List Tx} {k : Nat} (h : k < (labelsT L).length) : (labelsT L).getD k 256 < 256 := by
  rw [List.getD_eq_getElem?_getD, List.getElem?_eq_getElem h]
  exact (labelsT_mem.1 (List.getElem_mem h)).1
theorem lab_between {L : List Tx} {k n : Nat} (hlo : ∀ j, j < k → ∀ hj : j < (labelsT L).length, (labelsT L)[j] < n) (hk : k ≤ (labelsT L).length) (hn : n < (labelsT L).getD k 256) : n ∉ labelsT L := by
  intro hm
  obtain ⟨j, hj, e⟩ := List.getElem_of_mem hm
  rcases Nat.lt_or_ge j k with h | h
  · have := hlo j h hj; omega
  · have hkl : k < (labelsT L).length := by omega
    rw [List.getD_eq_getElem?_getD, List.getElem?_eq_getElem hkl] at hn
    simp at hn
    rcases Nat.lt_or_ge k j with h2 | h2
    · have := List.pairwise_iff_getElem.1 (labelsT_lt L) k j hkl hj h2
      omega
    · have : j = k := by omega
      subst this; omega
theorem toldAt_zero {L : List Tx} (h : RiseT L) : toldAt L 0 = if finT L then 1 else 0 := by
  unfold toldAt
  rw [← aheadT_zero h]
  refine aheadT_gap (Nat.zero_le _) fun n _ hn => lab_not ?_ (lab_between (fun j hj => by omega) (Nat.zero_le _) hn)
  have : (labelsT L).getD 0 256 ≤ 256 := by
    rcases Nat.lt_or_ge 0 (labelsT L).length with h | h
    · exact Nat.le_of_lt (lab_lt h)
    · rw [List.getD_eq_getElem?_getD, List.getElem?_eq_none h]; simp
  omega
theorem toldAt_end (L : List Tx) : toldAt L (labelsT L).length = L.length := by
  unfold toldAt
  rw [List.getD_eq_getElem?_getD, List.getElem?_eq_none (Nat.le_refl _)]
  exact aheadT_256 L
theorem toldAt_next {L : List Tx} {k n : Nat} (h : (labelsT L)[k]? = some n) : toldAt L (k + 1) = toldAt L k + (subT n L).length := by
  obtain ⟨hk, e⟩ := List.getElem?_eq_some_iff.1 h
  have e1 : (labelsT L).getD k 256 = n := by rw [List.getD_eq_getElem?_getD, h]; rfl
  have hn : n < 256 := by have := lab_lt hk; omega
  unfold toldAt
  rw [e1, ← aheadT_succ]
  have hle : n + 1 ≤ (labelsT L).getD (k + 1) 256 := by
    rcases Nat.lt_or_ge (k + 1) (labelsT L).length with h1 | h1
    · rw [List.getD_eq_getElem?_getD, List.getElem?_eq_getElem h1]
      have := List.pairwise_iff_getElem.1 (labelsT_lt L) k (k + 1) hk h1 (by omega)
      simp; omega
    · rw [List.getD_eq_getElem?_getD, List.getElem?_eq_none h1]; simp; omega
  refine aheadT_gap hle fun m h1 h2 => ?_
  have hm : m < 256 := by
    rcases Nat.lt_or_ge (k + 1) (labelsT L).length with h3 | h3
    · have := lab_lt h3; omega
    · rw [List.getD_eq_getElem?_getD, List.getElem?_eq_none h3] at h2; simpa using h2
  refine lab_not hm (lab_between (k := k + 1) (fun j hj hjl => ?_) (by omega) h2)
  rcases Nat.lt_or_ge j k with h3 | h3
  · have := List.pairwise_iff_getElem.1 (labelsT_lt L) j k hjl hk h3
    omega
  · have : j = k := by omega
    subst this; omega

/-! A row that grows in place keeps its room; one that doesn't is a new one. -/
/-- All stays but what X names. -/
structure But (X : Nat → Prop) (w w' : World) : Prop where
  os : w'.os = w.os
  tape : w'.tape = w.tape
  output : w'.output = w.output
  size : w.heap.size ≤ w'.heap.size
  block : ∀ b, b < w.heap.size → ¬ X b → w'.heap[b]? = w.heap[b]?
theorem But.refl (X : Nat → Prop) (w : World) : But X w w := ⟨rfl, rfl, rfl, Nat.le_refl _, fun _ _ _ => rfl⟩
theorem But.trans {X Y Z : Nat → Prop} {a b c : World} (h : But X a b) (k : But Y b c) (hx : ∀ i, i < a.heap.size → X i → Z i) (hy : ∀ i, i < a.heap.size → Y i → Z i) : But Z a c :=
  ⟨k.os.trans h.os, k.tape.trans h.tape, k.output.trans h.output, Nat.le_trans h.size k.size, fun i hi hn =>
    (k.block i (Nat.lt_of_lt_of_le hi h.size) fun e => hn (hy i hi e)).trans (h.block i hi fun e => hn (hx i hi e))⟩
theorem But.mono {X Z : Nat → Prop} {a b : World} (h : But X a b) (hx : ∀ i, i < a.heap.size → X i → Z i) : But Z a b :=
  ⟨h.os, h.tape, h.output, h.size, fun i hi hn => h.block i hi fun e => hn (hx i hi e)⟩
theorem But.of_below {X : Nat → Prop} {a b : World} (h : Below a.heap.size a b) : But X a b := ⟨h.os, h.tape, h.output, h.size, fun i hi _ => h.block i hi⟩
theorem But.below {X : Nat → Prop} {n : Nat} {a b : World} (h : But X a b) (hn : n ≤ a.heap.size) (hx : ∀ i, i < n → ¬ X i) : Below n a b :=
  ⟨h.os, h.tape, h.output, h.size, fun i hi => h.block i (by omega) (hx i hi)⟩
theorem But.grown {w w' : World} {row : Option Nat} (h : w.grownBy w' row) : But (fun b => row = some b) w w' :=
  ⟨h.os, h.tape, h.output, h.size, fun i hi hn => h.block i hi fun e => hn e.symm⟩
section
variable {P : Program} {w : World}
/-- How a row has grown by one more. -/
def GrewX (v v' : Value) (n m : Nat) (w w' : World) : Prop := (∃ g cap, v = .slice (some ⟨g, 0, none⟩) n cap ∧ v' = .slice (some ⟨g, 0, none⟩) (n + m) cap) ∨ ((∃ cap, v' = .slice (some ⟨w.heap.size, 0, none⟩) (n + m) cap) ∧ ∀ k, k < w.heap.size → w'.heap[k]? = w.heap[k]?)
theorem run_append_two (t ty : TypeId) (base : Nat) (e : TypeId) (i : TypeInfo) (z : Value) (size bytes : Nat) (ht : P.underlying t = some (.slice e)) (hi : P.info? e = some i) (hz : i.zero = some z)
    (hsize : i.size = size) (hby : i.bytes = bytes) (hzs : z.cells.size = size) (hsz : 0 < size)
    (v : Value) (n : Nat) (xs : List Value) (hown : w.ownsRow base e size v n xs)
    (ad : Addr) (m c : Nat) (news : List Value) (hl : news.length = m * size) (hnews : ∀ j u, news[j]? = some u → w.cell? (ad.add j) = some u) (h1 : ∀ u ∈ news, u.oneCell' = true)
    (hm : 0 < m) (h63 : n + m ≤ maxLen) (hbytes : (n + m) * bytes ≤ 140737488355328) (hbase : base ≤ w.heap.size) :
    ∃ g cap w', (Builtin.append_ #[t, t] ty #[v, .slice (some ad) m c]).run P w = .ok (.slice (some ⟨g, 0, none⟩) (n + m) cap) w' ∧
      w'.ownsRow base e size (.slice (some ⟨g, 0, none⟩) (n + m) cap) (n + m) (xs ++ news) ∧ w.grownBy w' v.ownBlock ∧ GrewX v (.slice (some ⟨g, 0, none⟩) (n + m) cap) n m w w' ∧ g < w'.heap.size := by
  obtain ⟨g, cap, w', hr, h2, h3, h4, h5⟩ := run_append_lies (P := P) w t ty base e i z size bytes ht hi hz hsize hby hzs hsz v n xs hown ad m c news hl hnews h1 hm h63 hbytes hbase _ rfl
  refine ⟨g, cap, w', hr, h2, h3, ?_, h5⟩
  rcases hown.2 with ⟨rfl, rfl⟩ | ⟨g0, cap0, cur, rfl, hbg, hg, hnc, hcm, hcs, htake⟩
  · right
    rcases h4 with h4 | h4
    · simp [Value.ownBlock] at h4
    · exact ⟨⟨cap, by rw [h4]⟩, fun k hk => h3.block k hk (by simp [Value.ownBlock])⟩
  · subst hsize
    by_cases hroom : n + m ≤ cap0
    · have hfit : n * i.size + news.length ≤ cur.size := by rw [hl, hcs, ← Nat.add_mul]; exact Nat.mul_le_mul_right _ hroom
      have hr2 := run_append_room (P := P) w t ty e i ht hi g0 n cap0 cur hg ad m c news hl hnews h1 hroom hfit
      rw [hr] at hr2
      injection hr2 with e1 e2
      exact .inl ⟨g0, cap0, rfl, e1⟩
    · have holds : ∀ j u, xs[j]? = some u → w.cell? ((⟨g0, 0, none⟩ : Addr).add j) = some u := hown.cells (g := g0) rfl
      have hr2 := run_append_grow (P := P) w t ty e i z ht hi hz ⟨g0, 0, none⟩ n cap0 xs hown.1 holds ad m c news hl hnews (by omega) (by simp only [maxLen] at h63; omega) (growslice_fits (by omega) (by rw [hby]; exact hbytes))
      rw [hr] at hr2
      injection hr2 with e1 e2
      right
      refine ⟨⟨_, e1⟩, fun k hk => ?_⟩
      rw [e2]
      exact Below.heap_alloc w.drew _ k hk
theorem step_append_two {ops : Array Oper} {o : Oper} {a : Act} {K : Act → World → Prop} {Q : Exit → Act → World → Prop} {E : Prop} (hgd : o.guard = none) (s x : Operand) (t : TypeId)
    (ho : o.op = .call { callee := .builtin .append, args := #[s, x], argTypes := #[t, t] })
    (base : Nat) (e : TypeId) (i : TypeInfo) (z : Value) (size bytes : Nat) (ht : P.underlying t = some (.slice e)) (hi : P.info? e = some i) (hz : i.zero = some z)
    (hsize : i.size = size) (hby : i.bytes = bytes) (hzs : z.cells.size = size) (hsz : 0 < size)
    (v : Value) (n : Nat) (xs : List Value) (hs : a.eval s = v) (hown : w.ownsRow base e size v n xs)
    (ad : Addr) (m c : Nat) (news : List Value) (hx : a.eval x = .slice (some ad) m c) (hl : news.length = m * size) (hnews : ∀ j u, news[j]? = some u → w.cell? (ad.add j) = some u) (h1 : ∀ u ∈ news, u.oneCell' = true)
    (hm : 0 < m) (h63 : n + m ≤ maxLen) (hbytes : (n + m) * bytes ≤ 140737488355328) (hbase : base ≤ w.heap.size)
    (h : ∀ g cap w', w'.ownsRow base e size (.slice (some ⟨g, 0, none⟩) (n + m) cap) (n + m) (xs ++ news) → w.grownBy w' v.ownBlock → GrewX v (.slice (some ⟨g, 0, none⟩) (n + m) cap) n m w w' → g < w'.heap.size → K (a.put o.dst (.slice (some ⟨g, 0, none⟩) (n + m) cap)) w') :
    if Region.wanted o (yielded ops a.tmps) = true then Oper.wp P o a w K Q else E := by
  rw [if_pos (by simp [Region.wanted, hgd])]
  obtain ⟨g, cap, w', hr, h2, h3, h4, h5⟩ := run_append_two (P := P) (w := w) t o.type base e i z size bytes ht hi hz hsize hby hzs hsz v n xs hown ad m c news hl hnews h1 hm h63 hbytes hbase
  unfold Oper.wp execOp
  simp only [ho, resolve, invoke, builtin, Sem.run_bind, Sem.run_pure, Result.andThen_ok, List.map_toArray, List.map_cons, List.map_nil, hs, hx, hr]
  exact h g cap w' h2 h3 h4 h5
end
end Go.Proofs.Ytbkedgpligcicaa

namespace Go.Proofs.Ytbkedgpligcicaa
open Go Go.RowKit
set_option linter.unusedVariables false
set_option maxRecDepth 100000

/-- A cursor whose bytes may lie ahead of its own box. -/
structure CurX (w0 W : World) (lo B : Nat) (aS : Option Addr) (cS : Nat) (S : List St) (i k : Nat) (p : Tx) (gv : Value) : Prop where
  old : Below w0.heap.size w0 W
  hold : HoldS w0 aS S
  new : w0.heap.size ≤ B
  newl : w0.heap.size ≤ lo
  ne : gv.ownBlock ≠ some B
  box : W.heap[B]? = some (.cells #[.slice aS S.length cS, .int .i64 (i : Int), gv, .int .i64 (k : Int)] 71)
  row : W.ownsRow lo 5 1 gv p.length (Lib.byteCells p)
theorem CurX.below {w0 W W' : World} {lo B : Nat} {aS : Option Addr} {cS : Nat} {S : List St} {i k : Nat} {p : Tx} {gv : Value} (h : CurX w0 W lo B aS cS S i k p gv) (hb : Below W.heap.size W W') : CurX w0 W' lo B aS cS S i k p gv :=
  ⟨h.old.trans (hb.mono h.old.size), h.hold, h.new, h.newl, h.ne, blko h.box hb, own_below h.row hb⟩
section
variable {w0 W : World} {lo B : Nat} {aS : Option Addr} {cS : Nat} {S : List St} {i k : Nat} {p : Tx} {gv : Value}
set_option maxHeartbeats 1000000 in
theorem arcsX_any (h : CurX w0 W lo B aS cS S i k p gv) (hi : i < S.length) : Calls Try.prog 73 #[.pointer (some ⟨B, 0, none⟩)] W fun e w' => ∃ ai ci m, e = .returned (.slice ai (arcsAt S i).length ci) ∧ HoldA w0 ai (arcsAt S i) ∧ w' = W.drewN m := by
  obtain ⟨b, off, rfl, hb, hc⟩ := h.hold.resolve_left (fun e => by rw [e] at hi; simp at hi)
  obtain ⟨_, ai, ci, c1, hA⟩ := hc i hi
  have c1' := (h.old.cell (p := ⟨b, off + i * 2 + 1, none⟩) hb).trans c1
  have x0 := blkc h.box 0
  have x1 := blkc h.box 1
  have hiz : (i : Int) < (S.length : Int) := by omega
  have HA : Hid (HoldA w0 ai (arcsAt S i)) := hA
  clear h hc hA c1
  change W.cell? _ = some (.slice ai (arcsAt S i).length ci) at c1'
  generalize (arcsAt S i).length = n at *
  go_enter Try.func73, Try.ntmps73
  go_wp2_with fail
  go_quiet (fail)
  go_wp2_with fail
  go_ret
  exact ⟨ai, ci, nq, rfl, HA.out, rfl⟩
set_option maxHeartbeats 1000000 in
theorem finalX_any (h : CurX w0 W lo B aS cS S i k p gv) (hi : i < S.length) : Calls Try.prog 44 #[.pointer (some ⟨B, 0, none⟩)] W fun e w' => e = .returned (.bool (finAt S i)) ∧ ∃ m, w' = W.drewN m := by
  obtain ⟨b, off, rfl, hb, hc⟩ := h.hold.resolve_left (fun e => by rw [e] at hi; simp at hi)
  obtain ⟨c0, _⟩ := hc i hi
  have c0' := (h.old.cell (p := ⟨b, off + i * 2, none⟩) hb).trans c0
  have x0 := blkc h.box 0
  have x1 := blkc h.box 1
  have hiz : (i : Int) < (S.length : Int) := by omega
  clear h hc c0
  change W.cell? _ = some (.bool (finAt S i)) at c0'
  generalize finAt S i = F at *
  go_enter Try.func44, Try.ntmps44
  go_wp2_with fail
  go_quiet (fail)
  go_wp2_with fail
  go_ret
  exact ⟨rfl, nq, rfl⟩
theorem CurX.setSt (h : CurX w0 W lo B aS cS S i k p gv) (j : Nat) : CurX w0 (W.setCell ⟨B, 1, none⟩ (.int .i64 (j : Int))) lo B aS cS S j k p gv :=
  ⟨h.old.setCell (p := ⟨B, 1, none⟩) h.new _, h.hold, h.new, h.newl, h.ne, blk_setk h.box 1 _, own_congr h.row fun b hb => heap_set_other W B 1 _ b (fun e => h.ne (by rw [hb, e]))⟩
theorem CurX.setNum (h : CurX w0 W lo B aS cS S i k p gv) (j : Nat) : CurX w0 (W.setCell ⟨B, 3, none⟩ (.int .i64 (j : Int))) lo B aS cS S i j p gv :=
  ⟨h.old.setCell (p := ⟨B, 3, none⟩) h.new _, h.hold, h.new, h.newl, h.ne, blk_setk h.box 3 _, own_congr h.row fun b hb => heap_set_other W B 3 _ b (fun e => h.ne (by rw [hb, e]))⟩
theorem CurX.push {V w6 : World} {g6 cp6 : Nat} {x : UInt8} (h : CurX w0 W lo B aS cS S i k p gv) (hV : Below W.heap.size W V) (hown : w6.ownsRow lo 5 1 (.slice (some ⟨g6, 0, none⟩) (p.length + 1) cp6) (p.length + 1) (Lib.byteCells p ++ [.int .u8 (x.toNat : Int)])) (hg : V.grownBy w6 gv.ownBlock) (hat : GrewX gv (.slice (some ⟨g6, 0, none⟩) (p.length + 1) cp6) p.length 1 V w6) :
    w6.heap[B]? = some (.cells #[.slice aS S.length cS, .int .i64 (i : Int), gv, .int .i64 (k : Int)] 71) ∧ CurX w0 (w6.setCell ⟨B, 2, none⟩ (.slice (some ⟨g6, 0, none⟩) (p.length + 1) cp6)) lo B aS cS S i k (p ++ [x]) (.slice (some ⟨g6, 0, none⟩) (p.length + 1) cp6) := by
  have hBl := (Array.getElem?_eq_some_iff.1 h.box).1
  have hVs := hV.size
  have hgv : ∀ b, gv.ownBlock = some b → lo ≤ b := fun b hb => (own_blk h.row hb).1
  have hbox : w6.heap[B]? = some (.cells #[.slice aS S.length cS, .int .i64 (i : Int), gv, .int .i64 (k : Int)] 71) := by
    rw [hg.block B (by omega) (fun e => h.ne e.symm), hV.block B hBl]
    exact h.box
  have hg6 : g6 ≠ B := by
    rcases hat with ⟨g, cap, e1, e2⟩ | ⟨⟨cap, e⟩, _⟩
    · rintro rfl
      apply h.ne
      rw [e1]
      simp only [Value.slice.injEq, Option.some.injEq, Addr.mk.injEq] at e2
      rw [← e2.1.1]; rfl
    · simp only [Value.slice.injEq, Option.some.injEq, Addr.mk.injEq] at e
      omega
  have hb2 : Below w0.heap.size w0 V := h.old.trans (hV.mono h.old.size)
  have hb3 : Below w0.heap.size w0 w6 := hb2.grown hg hb2.size (fun b e => by have := hgv b e; have := h.newl; omega)
  refine ⟨hbox, hb3.setCell (p := ⟨B, 2, none⟩) h.new _, h.hold, h.new, h.newl, fun e => hg6 (by simpa [Value.ownBlock] using e), blk_setk hbox 2 _, ?_⟩
  rw [List.length_append, byteCells_snoc]
  exact own_congr hown fun b hb => heap_set_other w6 B 2 _ b (by cases hb; exact hg6)
theorem vOf {wb V w6 : World} {row : Option Nat} (h : V.grownBy w6 row) (hb : Below wb.heap.size wb V) : Hid (Below wb.heap.size wb V) := hidd hb
/-- What follow leaves of the bytes that were. -/
def Kin (lo B : Nat) (gv gv' : Value) (p : Tx) (W w' : World) : Prop := (∃ g cap cap', gv = .slice (some ⟨g, 0, none⟩) p.length cap ∧ gv' = .slice (some ⟨g, 0, none⟩) cap' cap) ∨ ((∀ b, gv'.ownBlock = some b → W.heap.size ≤ b) ∧ ∀ b, b < W.heap.size → b ≠ B → w'.heap[b]? = W.heap[b]?)
end
set_option maxHeartbeats 4000000 in
theorem followX_any {w0 W : World} {lo B : Nat} {aS : Option Addr} {cS : Nat} {S : List St} {i k : Nat} {p : Tx} {gv : Value} {x : UInt8} {j m : Nat} (h : CurX w0 W lo B aS cS S i k p gv) (hlo : lo ≤ W.heap.size) (hp : p.length ≤ 1000000) (hk : k ≤ 1000000) (hm : m ≤ 4096) :
    Calls Try.prog 76 #[.pointer (some ⟨B, 0, none⟩), .agg #[.int .i64 (x.toNat : Int), .int .i64 (j : Int), .int .i64 (m : Int)]] W fun e w' => ∃ gv', e = .returned (.tuple #[]) ∧ CurX w0 w' lo B aS cS S j (k + m) (p ++ [x]) gv' ∧ But (fun b => b = B ∨ gv.ownBlock = some b) W w' ∧ Kin lo B gv gv' p W w' := by
  obtain ⟨i1, hi1, hy0, hy1, hy2⟩ := info_parts Try.infoByte
  have hBl := (Array.getElem?_eq_some_iff.1 h.box).1
  have HBa := hidd ((Below.refl W.heap.size W).alloc (Nat.le_refl _) (.cells #[.int .i64 (x.toNat : Int), .int .i64 (j : Int), .int .i64 (m : Int)] 85))
  have HQ := hidd (heap_alloc_new W (.cells #[.int .i64 (x.toNat : Int), .int .i64 (j : Int), .int .i64 (m : Int)] 85))
  have Hc := hidd h
  clear h
  go_enter Try.func76, Try.ntmps76
  go_upto_region 1 with fail
  obtain ⟨Q, hQ⟩ : ∃ Q, W.heap.size = Q := ⟨_, rfl⟩
  obtain ⟨wa, hwa⟩ : ∃ wa, W.alloc (.cells #[.int .i64 (x.toNat : Int), .int .i64 (j : Int), .int .i64 (m : Int)] 85) = wa := ⟨_, rfl⟩
  rw [hwa] at HBa HQ
  try rw [hwa]
  clear hwa
  have Hca := hidd (Hc.out.below HBa.out)
  rw [hQ] at HQ hBl
  try rw [hQ]
  have a1 := blkc HQ.out 1
  have x1 := blkc Hca.out.box 1
  have f1 := blkf Hca.out.box 1
  have Hcs := hidd (Hca.out.setSt j)
  have HQs := hidd ((heap_set_other wa B 1 (.int .i64 (j : Int)) Q (by omega)).trans HQ.out)
  go_upto_region 2 with fail
  obtain ⟨wb, hwb⟩ : ∃ wb, wa.setCell ⟨B, 1, none⟩ (.int .i64 (j : Int)) = wb := ⟨_, rfl⟩
  have HFr0 : Hid (But (fun b => b = B) W wb) := by
    refine ⟨?_, ?_, ?_, ?_, fun b hb hne => ?_⟩
    · rw [← hwb]; exact HBa.out.os
    · rw [← hwb]; exact HBa.out.tape
    · rw [← hwb]; exact HBa.out.output
    · rw [← hwb]; simpa using HBa.out.size
    · rw [← hwb, heap_set_other wa B 1 _ b hne]
      exact HBa.out.block b hb
  have hsz0 : Q < wb.heap.size := by
    rw [← hwb]
    have := (Array.getElem?_eq_some_iff.1 HQ.out).1
    simpa using this
  rw [hwb] at Hcs HQs
  try rw [hwb]
  clear hwb a1 x1 f1 Hca HBa HQ
  have c2 := blkc Hcs.out.box 2
  have a0 := blkc HQs.out 0
  have HO := hidd Hcs.out.row
  obtain ⟨ag, cg, rfl⟩ := own_form Hcs.out.row
  have hxl := UInt8.toNat_lt x
  have hwx : IntKind.u8.wrap (x.toNat : Int) = (x.toNat : Int) := u8_in_b hxl
  have hBb : B < wb.heap.size := by omega
  have HP := hidd (fun V w6 g6 cp6 => Hcs.out.push (V := V) (w6 := w6) (g6 := g6) (cp6 := cp6) (x := x))
  go_cut [9] (fun v9 wy => ∃ gv', CurX w0 wy lo B aS cS S j k (p ++ [x]) gv' ∧ wy.heap[Q]? = some (.cells #[.int .i64 (x.toNat : Int), .int .i64 (j : Int), .int .i64 (m : Int)] 85) ∧ But (fun b => b = B ∨ (Value.slice ag p.length cg).ownBlock = some b) W wy ∧ Kin lo B (Value.slice ag p.length cg) gv' p W wy)
  case first =>
    go_region_law (refine step_append_two rfl (.tmp 13) (.tmp 17) 22 rfl lo 5 i1 (.int .u8 0) 1 1 Try.underlying22 hi1 hy0 hy1 hy2 rfl (by decide) (.slice ag p.length cg) p.length (Lib.byteCells p) (by simp [Act.eval]) (by first | exact HO.out.drew.alloc _ | exact HO.out.alloc _) ⟨wb.heap.size, 0, none⟩ 1 1 [.int .u8 (x.toNat : Int)] (by simp [Act.eval]) rfl (by intro j' u' hj'; match j', hj' with | 0, hj' => simp at hj'; subst hj'; simp [Addr.add]) (by intro u' hu'; simp at hu'; subst hu'; rfl) (by omega) (by unfold maxLen; omega) (by omega) (by first | omega | (simp; omega)) ?_; intro g6 cp6 w6 hown6 hgrow6 hat6 hlt6; have HV := vOf (wb := wb) hgrow6 (by first | exact (below_drewN (Below.refl _ _) 1).alloc (by simp) _ | exact (Below.refl _ _).alloc (by simp) _); obtain ⟨t1, t2⟩ := HP.out _ w6 g6 cp6 HV.out hown6 hgrow6 hat6; have s2 := blkc t1 2; have sf := blkf t1 2; have HT2 := hidd t2; have HG6 := hidd hgrow6; have HA6 := hidd hat6; clear t1 t2 hown6 hgrow6 hat6 hlt6)
    all_goals
      go_wp2_with fail
      go_meet
      have hVs := HV.out.size
      have hset : But (fun b => b = B) w6 (w6.setCell ⟨B, 2, none⟩ (.slice (some ⟨g6, 0, none⟩) (p.length + 1) cp6)) := ⟨rfl, rfl, rfl, by simp, fun b hb hne => heap_set_other w6 B 2 _ b hne⟩
      refine ⟨_, HT2.out, ?_, ?_, ?_⟩
      · rw [heap_set_other w6 B 2 _ Q (by omega), HG6.out.block Q (by omega) (fun e => by
          obtain ⟨_, cur, hc⟩ := own_blk HO.out e.symm
          exact blk_ne hc HQs.out (by decide) rfl), HV.out.block Q hsz0]
        exact HQs.out
      · refine But.trans (HFr0.out.trans ((But.of_below (X := fun _ => False) HV.out).trans (But.grown HG6.out) (Z := fun b => (Value.slice ag p.length cg).ownBlock = some b) (fun _ _ h => h.elim) (fun _ _ h => h)) (Z := fun b => b = B ∨ (Value.slice ag p.length cg).ownBlock = some b) (fun _ _ h => .inl h) (fun _ _ h => .inr h)) hset (fun _ _ h => h) (fun _ _ h => .inl h)
      · rcases HA6.out with ⟨g, cap, e1, e2⟩ | ⟨⟨cap, e⟩, hk6⟩
        · exact .inl ⟨g, cap, _, e1, e2⟩
        · right
          rw [hQ]
          refine ⟨fun b hb => ?_, fun b hb hne => ?_⟩
          · rw [e] at hb
            simp [Value.ownBlock] at hb
            omega
          · rw [heap_set_other w6 B 2 _ b hne, hk6 b (by omega), HV.out.block b (by omega)]
            exact HFr0.out.block b (by omega) hne
  case rest =>
    obtain ⟨gv', hcu, hq, hfr, hkin⟩ := hcut
    have Hcu := hidd hcu
    have Hq := hidd hq
    have Hfr := hidd hfr
    have Hkin := hidd hkin
    clear hcu hq hfr hkin HO HP HFr0 Hcs HQs c2 a0
    have a2 := blkc Hq.out 2
    have c3 := blkc Hcu.out.box 3
    have f3 := blkf Hcu.out.box 3
    have hsum : IntKind.i64.wrap ((k : Int) + (m : Int)) = ((k + m : Nat) : Int) := by
      have : (k : Int) + (m : Int) = ((k + m : Nat) : Int) := by omega
      rw [this]
      exact IntWalk.i64_in _ ⟨by omega, by omega⟩
    obtain ⟨km, hkm⟩ : ∃ km, k + m = km := ⟨_, rfl⟩
    rw [hkm] at hsum
    have Hkm := hidd hkm
    clear hkm
    have Hset := hidd (Hcu.out.setNum km)
    have hBc : B < wc.heap.size := (Array.getElem?_eq_some_iff.1 Hcu.out.box).1
    have hQc : Q < wc.heap.size := (Array.getElem?_eq_some_iff.1 Hq.out).1
    go_wp2_with fail
    go_region
    all_goals
      go_wp2_with fail
      go_end0
      refine ⟨gv', rfl, ?_, ?_, ?_⟩
      · rw [Hkm.out]
        first | exact Hset.out | exact Hset.out.below (below_drewN (Below.refl _ _) 1)
      · exact Hfr.out.trans (Y := fun b => b = B) ⟨rfl, rfl, rfl, by simp, fun b hb hne => heap_set_other wc B 3 _ b hne⟩ (fun _ _ h => h) (fun _ _ h => .inl h)
      · rcases Hkin.out with h | ⟨h1, h2⟩
        · exact .inl h
        · exact .inr ⟨h1, fun b hb hne => (heap_set_other wc B 3 _ b hne).trans (h2 b hb hne)⟩
end Go.Proofs.Ytbkedgpligcicaa

namespace Go.Proofs.Ytbkedgpligcicaa
open Go Go.RowKit Go.Shelf
set_option linter.unusedVariables false
set_option maxRecDepth 100000

/-- A loop that counts: its box, its record, the place of its deferred calls. -/
structure Cnt (cb h : Nat) (r : Loop) (k : Nat) (W : World) : Prop where
  box : W.heap[cb]? = some (.cells #[.int .i64 (k : Int)] 3)
  rc : W.heap[h + 1]? = some (.loop r)
  df : W.heap[h]? = some (.deferred (some []))
theorem Cnt.but {cb h k : Nat} {r : Loop} {W W' : World} {X : Nat → Prop} (c : Cnt cb h r k W) (hb : But X W W') (hx : ¬ X cb ∧ ¬ X h ∧ ¬ X (h + 1)) : Cnt cb h r k W' :=
  ⟨(hb.block cb (Array.getElem?_eq_some_iff.1 c.box).1 hx.1).trans c.box, (hb.block _ (Array.getElem?_eq_some_iff.1 c.rc).1 hx.2.2).trans c.rc, (hb.block _ (Array.getElem?_eq_some_iff.1 c.df).1 hx.2.1).trans c.df⟩
/-- What one round does. -/
def YieldC (P : Program) (cb h : Nat) (r : Loop) : Prop := ∀ (m k : Nat) (x : Value) (W : World), k < 4096 → Cnt cb h r k W →
  YieldAt Fence.wide m P (h + 1) #[x] W fun e W' => e = .returned (.bool true) ∧ Cnt cb h r (k + 1) W' ∧ But (fun b => b = cb) W W'
theorem range_count {n : Nat} {P : Program} {g : Operand} {ps : Array Tmp} {assign body : Code} {Q : Exit → Act → World → Prop} {a : Act} {w : World} {cb gf N : Nat} {lb : Array Value} {X : Nat → Prop}
    (hg : a.eval g = .func (.func gf) #[] lb) (eg : ∀ args w, (callFunc gf args).run P w = .ok (.enter gf args) w) (hps : ps.size = 1)
    (hbox : w.heap[cb]? = some (.cells #[.int .i64 0] 3)) (hX : ¬ X (w.heap.size + 1) ∧ ¬ X w.heap.size)
    (hit : ∀ (r : Loop) (W1 : World), Below w.heap.size w W1 → YieldC P cb w.heap.size r → Cnt cb w.heap.size r 0 W1 →
      CallsIn Fence.wide (n - 1) P gf (#[.func (.yield (w.heap.size + 1)) #[] #[]] ++ lb) W1 fun e W' => (∃ v, e = .returned v) ∧ Cnt cb w.heap.size r N W' ∧ But X W1 W')
    (a₁ : Value → Act)
    (hassign : ∀ (l m : Nat) (x : Value) (W : World) (K : Act → World → Prop), K (a₁ x) W → assign.wpIn (Fence.wide.inRound l) m P (Exit.then K (fun _ _ _ => False)) { tmps := (ps.zip #[x]).foldl (fun t (p, v) => t.setIfInBounds p v) a.tmps, defers := [] } W)
    (hbody : ∀ (l m k : Nat) (x : Value) (W : World), k < 4096 → W.heap[cb]? = some (.cells #[.int .i64 (k : Int)] 3) → body.wpIn (Fence.wide.inRound l) m P (fun e _ W' => e = .normal ∧ W' = W.setCell ⟨cb, 0, none⟩ (.int .i64 ((k + 1 : Nat) : Int))) (a₁ x) W)
    (hdone : ∀ W' : World, W'.heap[cb]? = some (.cells #[.int .i64 (N : Int)] 3) → But X w W' → W'.heap[w.heap.size]? = some (.deferred (some [])) → Q .normal { a with defers := { target := .collected w.heap.size, args := #[] } :: a.defers } W') :
    (Code.rangeFunc g ps assign body).wpIn Fence.wide n P Q a w := by
  have hcb : cb < w.heap.size := (Array.getElem?_eq_some_iff.1 hbox).1
  refine wpIn_rangeFunc fun fn hfn => ?_
  obtain ⟨r0, hr0⟩ : ∃ r0 : Loop, r0 = { state := .ready, pending := none, fn, tmps := a.tmps, params := ps, assign, body, defers := w.heap.size } := ⟨_, rfl⟩
  obtain ⟨W1, hW1⟩ : ∃ W1, (w.alloc (.deferred (some []))).alloc (.loop r0) = W1 := ⟨_, rfl⟩
  have hB1 : Below w.heap.size w W1 := by rw [← hW1]; exact ((Below.refl _ w).alloc (Nat.le_refl _) _).alloc (by simp) _
  have hC1 : Cnt cb w.heap.size r0 0 W1 := by
    refine ⟨(hB1.block cb hcb).trans hbox, ?_, ?_⟩
    · rw [← hW1]; have := World.alloc_heap_new (w.alloc (.deferred (some []))) (.loop r0); rwa [World.size_alloc] at this
    · rw [← hW1]; exact (Below.heap_alloc _ _ _ (by simp)).trans (World.alloc_heap_new w _)
  refine ⟨w.heap.size + 1, [{ target := .collected w.heap.size, args := #[] }], W1, { target := .fn (.func gf) lb, args := #[.func (.yield (w.heap.size + 1)) #[] #[]] }, W1, gf,
    #[.func (.yield (w.heap.size + 1)) #[] #[]] ++ lb, W1, ?_, ?_, fun _ _ => trivial, ?_, fun h => (by cases h), ?_⟩
  · rw [← hW1, hr0]; exact run_enterLoop_outer _ _ _ _ _
  · simp only [resolve, hg]
    simp [go_sem]
  · simp [invoke, go_sem, eg]
  · refine (hit r0 W1 hB1 ?_ hC1).mono ?_
    · intro m k x W hk hc
      have hl := hc.rc
      have hlt : w.heap.size + 1 < W.heap.size := (Array.getElem?_eq_some_iff.1 hl).1
      have hy := run_yield (P := P) (args := #[x]) hl (by rw [hr0]; simp [hps])
      rw [hr0] at hy
      refine ⟨fn, _, assign, body, hy, roundIn_of_wpIn hfn (hassign _ m x W _ ⟨_, run_beginRound hl (by rw [hr0]), ?_⟩)⟩
      obtain ⟨W2, hW2⟩ : ∃ W2, W.putObj (w.heap.size + 1) (.loop { r0 with state := .busy }) = W2 := ⟨_, rfl⟩
      rw [hW2]
      have hb2 : W2.heap[cb]? = some (.cells #[.int .i64 (k : Int)] 3) := by rw [← hW2]; exact (World.putObj_heap_other (by omega)).trans hc.box
      have hl2 : W2.heap[w.heap.size + 1]? = some (.loop { r0 with state := .busy }) := by rw [← hW2]; exact World.putObj_heap_same hlt
      refine wpIn_mono (hbody (w.heap.size + 1) m k x W2 hk hb2) ?_
      rintro e a3 W3 ⟨rfl, hW3⟩
      have hl3 : W3.heap[w.heap.size + 1]? = some (.loop { r0 with state := .busy }) := by rw [hW3]; exact (heap_set_other W2 cb 0 _ _ (by omega)).trans hl2
      have hlt3 := (Array.getElem?_eq_some_iff.1 hl3).1
      have hb3 : W3.heap[cb]? = some (.cells #[.int .i64 ((k + 1 : Nat) : Int)] 3) := by rw [hW3]; exact heap_setCell_same W2 cb 0 _ _ _ hb2
      have hend := run_endRound (P := P) none hl3
      have hrec : ({ { r0 with state := .busy } with state := if (none : Option Code).isNone then .ready else .done, pending := none } : Loop) = r0 := by rw [hr0]; rfl
      rw [hrec] at hend
      have ho : ∀ b, b ≠ cb → (W3.putObj (w.heap.size + 1) (.loop r0)).heap[b]? = W.heap[b]? := fun b hb => by
        by_cases e : b = w.heap.size + 1
        · rw [e, World.putObj_heap_same hlt3]; exact hl.symm
        · rw [World.putObj_heap_other e, hW3, heap_set_other W2 cb 0 _ b hb, ← hW2, World.putObj_heap_other e]
      refine ⟨_, _, hend, rfl, ⟨(World.putObj_heap_other (by omega)).trans hb3, (ho _ (by omega)).trans hl, (ho _ (by omega)).trans hc.df⟩, ?_⟩
      exact ⟨by rw [hW3, ← hW2]; rfl, by rw [hW3, ← hW2]; rfl, by rw [hW3, ← hW2]; rfl, by rw [hW3, ← hW2]; simp [World.putObj], fun b _ hb => ho b hb⟩
    · rintro e W2 ⟨⟨v, rfl⟩, hc, hb⟩
      have hend := run_endLoop (P := P) hc.rc (by rw [hr0]; simp)
      have hpn : r0.pending = none := by rw [hr0]
      rw [hpn] at hend
      have hq1 : cb ≠ w.heap.size + 1 := by omega
      have hq2 : w.heap.size ≠ w.heap.size + 1 := by omega
      refine ⟨none, _, hend, hdone _ ((World.putObj_heap_other hq1).trans hc.box) ?_ ((World.putObj_heap_other hq2).trans hc.df)⟩
      · refine ⟨hb.os.trans hB1.os, hb.tape.trans hB1.tape, hb.output.trans hB1.output, ?_, fun b hlt hn => ?_⟩
        · have := hB1.size; have := hb.size; simp [World.putObj]; omega
        · rw [World.putObj_heap_other (by omega), hb.block b (Nat.lt_of_lt_of_le hlt hB1.size) hn]
          exact hB1.block b hlt
end Go.Proofs.Ytbkedgpligcicaa

namespace Go.Proofs.Ytbkedgpligcicaa
open Go Go.RowKit Go.Shelf
set_option linter.unusedVariables false
set_option maxRecDepth 100000
attribute [local go_sem] Oper.semAt_some

theorem convX_own {w : World} {base n : Nat} {v : Value} {bs : List UInt8} (h : w.ownsRow base 5 1 v n (Lib.byteCells bs)) (hl : bs.length = n) :
    (convert 22 9 v).run Try.prog w = .ok (.string ⟨bs.toArray⟩) w := by
  rcases own_cases h with ⟨rfl, rfl⟩ | ⟨g, cp, rfl, _, _⟩
  · have : bs = [] := List.length_eq_zero_iff.1 hl
    subst this
    exact run_convert_bytes_nil w 22 5 Try.underlying22 Try.underlying5 0 0 9 Try.underlying9
  · subst hl
    refine run_convert_bytes_back w 22 9 5 ⟨g, 0, none⟩ cp bs Try.underlying22 Try.underlying5 Try.underlying9 fun j hj => ?_
    have := own_bytes h rfl j hj
    rw [show (⟨g, 0, none⟩ : Addr).add j = ⟨g, 0 + j, none⟩ from by simp only [Addr.add]; split <;> simp_all]
    simpa [hj] using this
/-- The blocks that tell writes. -/
def TX (cb : Nat) (gv : Value) : Nat → Prop := fun b => b = cb ∨ gv.ownBlock = some b
/-- What tell leaves. -/
def TellPost (cb h0 : Nat) (r : Loop) (lo : Nat) (p : Tx) (gv : Value) (m : Nat) (W : World) (e : Ending) (W' : World) : Prop :=
  e = .returned (.bool true) ∧ Cnt cb h0 r m W' ∧ W'.ownsRow lo 5 1 gv p.length (Lib.byteCells p) ∧ But (TX cb gv) W W'
theorem own_ne_cnt {W : World} {lo cb h0 k n : Nat} {r : Loop} {gv : Value} {xs : List Value} (h : W.ownsRow lo 5 1 gv n xs) (c : Cnt cb h0 r k W) : gv.ownBlock ≠ some cb ∧ gv.ownBlock ≠ some h0 ∧ gv.ownBlock ≠ some (h0 + 1) := by
  refine ⟨fun e => ?_, fun e => ?_, fun e => ?_⟩
  · obtain ⟨_, cur, hc⟩ := own_blk h e
    exact blk_ne hc c.box (by decide) rfl
  · obtain ⟨_, cur, hc⟩ := own_blk h e
    rw [c.df] at hc; cases hc
  · obtain ⟨_, cur, hc⟩ := own_blk h e
    rw [c.rc] at hc; cases hc
/-- The bytes that were there when an arc was followed and told. -/
theorem own_kin {W W2 W3 : World} {lo B cb : Nat} {gv gv' : Value} {p : Tx} {x : UInt8} (h : W.ownsRow lo 5 1 gv p.length (Lib.byteCells p)) (hk : Kin lo B gv gv' p W W2) (hne : gv.ownBlock ≠ some B) (hcb : gv.ownBlock ≠ some cb)
    (ho : W3.ownsRow lo 5 1 gv' (p ++ [x]).length (Lib.byteCells (p ++ [x]))) (hb : But (TX cb gv') W2 W3) (hs : W.heap.size ≤ W2.heap.size) : W3.ownsRow lo 5 1 gv p.length (Lib.byteCells p) := by
  rcases hk with ⟨g, cap, cap', rfl, rfl⟩ | ⟨h1, h2⟩
  · obtain ⟨a1, a2⟩ := h
    obtain ⟨b1, b2⟩ := ho
    refine ⟨a1, ?_⟩
    rcases b2 with ⟨e, _⟩ | ⟨g', cap2, cur, e, hb', hc, hn, hm, hsz, ht⟩
    · cases e
    rcases a2 with ⟨e2, _⟩ | ⟨g2, cap3, cur2, e2, hb2, hc2, hn2, hm2, hsz2, ht2⟩
    · cases e2
    simp only [Value.slice.injEq, Option.some.injEq, Addr.mk.injEq] at e e2
    obtain ⟨⟨rfl, _⟩, rfl, rfl⟩ := e
    obtain ⟨⟨rfl, _⟩, _, rfl⟩ := e2
    refine .inr ⟨g, cap, cur, rfl, hb2, hc, hn2, hm2, hsz, ?_⟩
    have := congrArg (List.take (p.length * 1)) ht
    rw [List.take_take, byteCells_snoc] at this
    rw [show min (p.length * 1) ((p ++ [x]).length * 1) = p.length * 1 by simp] at this
    rw [this, List.take_append_of_le_length (by rw [a1]; exact Nat.le_refl _), ← a1, List.take_length]
  · refine own_congr h fun b hb' => ?_
    have hlt := (h.lt b hb').2
    have hnB : b ≠ B := fun e => hne (by rw [hb', e])
    rw [hb.block b (by omega) (fun e => by
      rcases e with e | e
      · exact hcb (by rw [hb', e])
      · have := h1 b e; omega)]
    exact h2 b hlt hnB
section
variable {w0 : World} {aS : Option Addr} {cS : Nat} {S : List St} {ts : List Tx} {ord : List (List Tx)} {cb h0 lo : Nat} {r : Loop}
/-- What tell is asked, at texts of at most h bytes. -/
def TellC (w0 : World) (aS : Option Addr) (cS : Nat) (S : List St) (ord : List (List Tx)) (cb h0 lo : Nat) (r : Loop) (h : Nat) : Prop :=
  ∀ (L : List Tx) (p : Tx) (gv : Value) (k m : Nat) (W : World), L ∈ ord → RiseT L → (∀ s ∈ L, s.length < h) → p.length + h ≤ 1000000 → k + L.length ≤ 8192 → m + L.length ≤ 4096 →
    Cnt cb h0 r m W → W.ownsRow lo 5 1 gv p.length (Lib.byteCells p) → Below w0.heap.size w0 W → lo ≤ W.heap.size →
    Calls Try.prog 79 #[.agg #[.slice aS S.length cS, .int .i64 ((ord.idxOf L : Nat) : Int), gv, .int .i64 (k : Int)], .func (.yield (h0 + 1)) #[] #[]] W (TellPost cb h0 r lo p gv (m + L.length) W)
set_option maxHeartbeats 8000000 in
theorem tell_step (hd : DictAt ts ord S) (hy : YieldC Try.prog cb h0 r) (hold : HoldS w0 aS S) (hlo : w0.heap.size ≤ lo) (hcb : w0.heap.size ≤ cb) {h : Nat} (ih : TellC w0 aS cS S ord cb h0 lo r h) : TellC w0 aS cS S ord cb h0 lo r (h + 1) := by
  intro L p gv k m W hL hr hsh hp hk hm hc ho hb hlW
  obtain ⟨ag, cg, rfl⟩ := own_form ho
  have hiL := hd.lt hL
  have HX : Hid (CurX w0 (W.alloc (.cells #[.slice aS S.length cS, .int .i64 ((ord.idxOf L : Nat) : Int), .slice ag p.length cg, .int .i64 (k : Int)] 71)) lo W.heap.size aS cS S (ord.idxOf L) k p (Value.slice ag p.length cg)) := by
    refine ⟨hb.trans (((Below.refl _ _).alloc (Nat.le_refl _) _).mono hb.size), hold, hb.size, hlo, fun e => ?_, heap_alloc_new W _, ho.alloc _⟩
    have := (ho.lt _ e).2
    omega
  have HC : Hid (Cnt cb h0 r m (W.alloc (.cells #[.slice aS S.length cS, .int .i64 ((ord.idxOf L : Nat) : Int), .slice ag p.length cg, .int .i64 (k : Int)] 71))) := hc.but (X := fun _ => False) (But.of_below ((Below.refl _ _).alloc (Nat.le_refl _) _)) ⟨id, id, id⟩
  have HB1 : Hid (Below W.heap.size W (W.alloc (.cells #[.slice aS S.length cS, .int .i64 ((ord.idxOf L : Nat) : Int), .slice ag p.length cg, .int .i64 (k : Int)] 71))) := (Below.refl _ _).alloc (Nat.le_refl _) _
  have HNe := hidd (own_ne_cnt ho hc)
  have hcbW : cb < W.heap.size := (Array.getElem?_eq_some_iff.1 hc.box).1
  have Hgl : Hid (∀ b, (Value.slice ag p.length cg).ownBlock = some b → b < W.heap.size) := fun b e => (ho.lt b e).2
  have HD := hidd hd
  have HL := hidd hL
  have HR := hidd hr
  have HSh := hidd hsh
  have HIh := hidd ih
  have HY := hidd hy
  have HF := hidd (hd.fin hL)
  have Ht0 := hidd (toldAt_zero hr)
  have Hte := hidd (toldAt_end L)
  clear hc ho hb hd hL hr hsh ih hy hold
  obtain ⟨ix, hix⟩ : ∃ ix, ord.idxOf L = ix := ⟨_, rfl⟩
  rw [hix] at HX HC HB1 HF hiL
  rw [hix]
  go_enter Try.func79, Try.ntmps79
  go_upto_region 1 with fail
  obtain ⟨W1, hW1⟩ : ∃ W1, W.alloc (.cells #[.slice aS S.length cS, .int .i64 (ix : Int), (Value.slice ag p.length cg), .int .i64 (k : Int)] 71) = W1 := ⟨_, rfl⟩
  rw [hW1] at HX HC HB1
  try rw [hW1]
  clear hW1
  have hsz1 : W.heap.size < W1.heap.size := (Array.getElem?_eq_some_iff.1 HX.out.box).1
  have HFin := hidd (finalX_any HX.out hiL)
  rw [HF.out] at HFin
  go_cut [16] (fun v wy => v = .bool false ∧ Cnt cb h0 r (m + toldAt L 0) wy ∧ But (fun b => b = cb) W1 wy)
  case first =>
    cases hf : finT L with
    | true =>
      rw [hf] at HFin Ht0
      have hlen : 0 < L.length := by
        cases L with
        | nil => simp [finT] at hf
        | cons a b => simp
      have HYq : Hid (∀ q, YieldAt Fence.wide 3 Try.prog (h0 + 1) #[.string ⟨p.toArray⟩] (W1.drewN q) fun e W' => e = .returned (.bool true) ∧ Cnt cb h0 r (m + 1) W' ∧ But (fun b => b = cb) (W1.drewN q) W') := fun q => HY.out 3 m _ _ (by omega) (HC.out.but (X := fun _ => False) (But.of_below (below_drewN (Below.refl _ _) q)) ⟨id, id, id⟩)
      have HCv : Hid (∀ q, (convert 22 9 (Value.slice ag p.length cg)).run Try.prog (W1.drewN q) = .ok (.string ⟨p.toArray⟩) (W1.drewN q)) := fun q => convX_own (own_below HX.out.row (below_drewN (Below.refl _ _) q)) rfl
      have x2 := blkc HX.out.box 2
      clear hf
      refine (wpIn_wide (n := 4)).1 ?_
      gi_wp2_with fail
      refine ⟨trivial, ((callsIn_wide (n := 3)).2 HFin.out).mono ?_⟩
      clear HFin
      rintro e w2 ⟨rfl, q, rfl⟩
      have xc := HCv.out q
      obtain ⟨fn, tmps, assign, body, hyr, hR⟩ := HYq.out q
      dsimp only
      gi_wp2_with fail
      refine hR.mono ?_
      rintro e W3 ⟨rfl, hc3, hb3⟩
      have HC3 := hidd hc3
      have HB3 := hidd (But.trans (X := fun b => b = cb) (Z := fun b => b = cb) (But.of_below (below_drewN (Below.refl W1.heap.size W1) q)) hb3 (fun _ _ h => h) (fun _ _ h => h))
      clear hc3 hb3
      gi_wp2
      go_meet
      case rel => exact ⟨rfl, by rw [Ht0.out]; exact HC3.out, HB3.out⟩
    | false =>
      rw [hf] at HFin Ht0
      clear hf
      go_wp2_with fail
      refine HFin.out.mono ?_
      rintro e w2 ⟨rfl, q, rfl⟩
      dsimp only
      go_wp2_with fail
      go_meet
      case rel => exact ⟨rfl, by rw [Ht0.out]; exact HC.out.but (X := fun _ => False) (But.of_below (below_drewN (Below.refl _ _) q)) ⟨id, id, id⟩, But.of_below (below_drewN (Below.refl _ _) q)⟩
  case rest =>
    obtain ⟨rfl, hcC, hbC⟩ := hcut
    have HCc := hidd hcC
    have HBc := hidd hbC
    clear hcC hbC HFin
    have HXc : Hid (CurX w0 wc lo W.heap.size aS cS S ix k p (Value.slice ag p.length cg)) := by
      refine ⟨HX.out.old.trans (HBc.out.below (HX.out.old.size) (fun i hi e => by omega)), HX.out.hold, HX.out.new, HX.out.newl, HX.out.ne, (HBc.out.block _ hsz1 (by omega)).trans HX.out.box, own_congr HX.out.row fun b hb => HBc.out.block b (HX.out.row.lt b hb).2 (fun e => HNe.out.1 (by rw [hb, e]))⟩
    have HAr := hidd (arcsX_any HXc.out hiL)
    rw [← hix, HD.out.arcs HL.out] at HAr
    have hal : (stOf ord L).2.length ≤ 256 := by have := labelsT_len L; simpa [stOf] using this
    have hall : (stOf ord L).2.length = (labelsT L).length := by simp [stOf]
    obtain ⟨l, hl⟩ : ∃ l, (stOf ord L).2 = l := ⟨_, rfl⟩
    rw [hl] at HAr hal hall
    have Hl := hidd hl
    have Hall := hidd hall
    clear hl hall
    go_wp2_with fail
    refine HAr.out.mono ?_
    rintro e w2 ⟨ai, ci, q, rfl, hA1, hw2⟩
    have HB2 : Hid (Below wc.heap.size wc w2) := by rw [hw2]; exact below_drewN (Below.refl _ _) q
    have HC2 := hidd (HCc.out.but (X := fun _ => False) (But.of_below HB2.out) ⟨id, id, id⟩)
    have HX2 := hidd (HXc.out.below HB2.out)
    have HA1 := hidd hA1
    have HB12 : Hid (But (TX cb (Value.slice ag p.length cg)) W1 w2) := HBc.out.trans (But.of_below (X := fun _ => False) HB2.out) (fun _ _ h => .inl h) (fun _ _ h => h.elim)
    clear hw2 hA1 HAr HB2 HCc HXc HBc HX HC
    dsimp only
    go_wp2_with fail
    go_loopw [19] (fun iv wr => ∃ j : Nat, j ≤ l.length ∧ iv = .int .i64 (j : Int) ∧ Cnt cb h0 r (m + toldAt L j) wr ∧ CurX w0 wr lo W.heap.size aS cS S ix k p (Value.slice ag p.length cg) ∧ But (TX cb (Value.slice ag p.length cg)) W1 wr) (fun iv _ => l.length - (intOf iv).toNat)
    case atStart => exact ⟨0, Nat.zero_le _, rfl, HC2.out, HX2.out, HB12.out⟩
    case round =>
      clear HC2 HX2 HB12
      obtain ⟨j, hj, rfl, hcr, hxr, hbr⟩ := hrel
      have HCr := hidd hcr
      have HXr := hidd hxr
      have HBr := hidd hbr
      clear hcr hxr hbr
      by_cases hlt : j < l.length
      · have hltz : (j : Int) < (l.length : Int) := by omega
        obtain ⟨n, hn⟩ : ∃ n, (labelsT L)[j]? = some n := ⟨(labelsT L)[j]'(by rw [← Hall.out]; exact hlt), List.getElem?_eq_getElem _⟩
        have hlab : n ∈ labelsT L := List.mem_of_getElem? hn
        have hn256 : n < 256 := (labelsT_mem.1 hlab).1
        have q3 : l.getD j ar0 = ((n : Int), ((ord.idxOf (subT n L) : Nat) : Int), ((aheadT n L : Nat) : Int)) := by
          rw [List.getD_eq_getElem?_getD, ← Hl.out, stOf_at hn]; rfl
        have HTn := hidd (toldAt_next hn)
        have HMn := hidd (dict_next HD.out.bfs HL.out hlab)
        have HRn := hidd (subT_rise (n := n) HR.out)
        have HSn : Hid (∀ s ∈ subT n L, s.length < h) := by
          intro s hs
          obtain ⟨c, _, hc⟩ := subT_mem.1 hs
          have := HSh.out _ hc
          simp at this
          omega
        have hadd := aheadT_succ n L
        have hah := ahead_le n L
        have hah1 := ahead_le (n + 1) L
        have htn : toldAt L j = aheadT n L := by unfold toldAt; rw [List.getD_eq_getElem?_getD, hn]; rfl
        obtain ⟨x, hx⟩ : ∃ x : UInt8, x.toNat = n := ⟨UInt8.ofNat n, by simp [UInt8.toNat_ofNat']; omega⟩
        subst hx
        have HK := hidd (fun (gv' : Value) (W' : World) => HIh.out (subT x.toNat L) (p ++ [x]) gv' (k + aheadT x.toNat L) (m + toldAt L j) W' HMn.out HRn.out HSn.out (by simp; omega) (by omega) (by omega))
        generalize ord.idxOf (subT x.toNat L) = nx at *
        generalize aheadT x.toNat L = ah at *
        have Hn := hidd hn
        clear HRn HSn HMn hn hlab hadd
        obtain ⟨g1, o1, rfl, hg1, hc1⟩ := HA1.out.resolve_left (fun e => by rw [e] at hlt; simp at hlt)
        obtain ⟨p0, p1, p2⟩ := hc1 j hlt
        replace p0 := (HXr.out.old.cell (p := ⟨g1, o1 + j * 3, none⟩) hg1).trans p0
        replace p1 := (HXr.out.old.cell (p := ⟨g1, o1 + j * 3 + 1, none⟩) hg1).trans p1
        replace p2 := (HXr.out.old.cell (p := ⟨g1, o1 + j * 3 + 2, none⟩) hg1).trans p2
        rw [q3] at p0 p1 p2
        dsimp only at p0 p1 p2
        clear hc1 q3
        have hsr : W.heap.size < wr.heap.size := (Array.getElem?_eq_some_iff.1 HXr.out.box).1
        have HBa := hidd ((Below.refl wr.heap.size wr).alloc (Nat.le_refl _) (.cells #[.int .i64 (x.toNat : Int), .int .i64 (nx : Int), .int .i64 (ah : Int)] 85))
        have HQa := hidd (heap_alloc_new wr (.cells #[.int .i64 (x.toNat : Int), .int .i64 (nx : Int), .int .i64 (ah : Int)] 85))
        go_upto_region 6 with fail
        obtain ⟨wa, hwa⟩ : ∃ wa, wr.alloc (.cells #[.int .i64 (x.toNat : Int), .int .i64 (nx : Int), .int .i64 (ah : Int)] 85) = wa := ⟨_, rfl⟩
        rw [hwa] at HBa HQa
        try rw [hwa]
        have hsa : wa.heap.size = wr.heap.size + 1 := by rw [← hwa]; simp
        clear hwa p0 p1 p2
        have HXa := hidd (HXr.out.below HBa.out)
        have y0 := blkc HXa.out.box 0
        have y1 := blkc HXa.out.box 1
        have y2 := blkc HXa.out.box 2
        have y3 := blkc HXa.out.box 3
        have HBn := hidd ((Below.refl wa.heap.size wa).alloc (Nat.le_refl _) (.cells #[.slice aS S.length cS, .int .i64 (ix : Int), (Value.slice ag p.length cg), .int .i64 (k : Int)] 71))
        have HQn := hidd (heap_alloc_new wa (.cells #[.slice aS S.length cS, .int .i64 (ix : Int), (Value.slice ag p.length cg), .int .i64 (k : Int)] 71))
        go_upto_region 7 with fail
        obtain ⟨wn, hwn⟩ : ∃ wn, wa.alloc (.cells #[.slice aS S.length cS, .int .i64 (ix : Int), (Value.slice ag p.length cg), .int .i64 (k : Int)] 71) = wn := ⟨_, rfl⟩
        rw [hwn] at HBn HQn
        try rw [hwn]
        have hsn : wn.heap.size = wa.heap.size + 1 := by rw [← hwn]; simp
        clear hwn y0 y1 y2 y3
        have HXn := hidd (HXa.out.below HBn.out)
        rw [hsa] at HQn
        have HXm : Hid (CurX w0 wn lo (wr.heap.size + 1) aS cS S ix k p (Value.slice ag p.length cg)) := ⟨HXn.out.old, HXn.out.hold, by have := HXr.out.old.size; omega, HXn.out.newl, fun e => by have := Hgl.out _ e; omega, HQn.out, HXn.out.row⟩
        have HBrn : Hid (Below wr.heap.size wr wn) := HBa.out.trans (HBn.out.mono HBa.out.size)
        have HCn := hidd (HCr.out.but (X := fun _ => False) (But.of_below HBrn.out) ⟨id, id, id⟩)
        have HFo := hidd (followX_any (x := x) (j := nx) (m := ah) HXm.out (by omega) (by omega) (by omega) (by omega))
        have z0 := blkc (blko HQa.out HBn.out) 0
        have z1 := blkc (blko HQa.out HBn.out) 1
        have z2 := blkc (blko HQa.out HBn.out) 2
        go_wp2_with fail
        refine HFo.out.mono ?_
        rintro e w3 ⟨gv', rfl, hcu, hbu, hki⟩
        have HCu := hidd hcu
        have HBu := hidd hbu
        have HKi := hidd hki
        clear hcu hbu hki HFo z0 z1 z2
        dsimp only
        have u0 := blkc HCu.out.box 0
        have u1 := blkc HCu.out.box 1
        have u2 := blkc HCu.out.box 2
        have u3 := blkc HCu.out.box 3
        have hh0 : h0 < wr.heap.size := (Array.getElem?_eq_some_iff.1 HCr.out.df).1
        have hh1 : h0 + 1 < wr.heap.size := (Array.getElem?_eq_some_iff.1 HCr.out.rc).1
        have HC3 : Hid (Cnt cb h0 r (m + toldAt L j) w3) := HCn.out.but HBu.out ⟨fun e => by rcases e with e | e; omega; exact HNe.out.1 e, fun e => by rcases e with e | e; omega; exact HNe.out.2.1 e, fun e => by rcases e with e | e; omega; exact HNe.out.2.2 e⟩
        have HTe := hidd (HK.out gv' w3 HC3.out HCu.out.row HCu.out.old (by have := HBu.out.size; omega))
        go_wp2_with fail
        refine HTe.out.mono ?_
        rintro e w4 ⟨rfl, hc4, ho4, hb4⟩
        have HC4 := hidd hc4
        have HO4 := hidd ho4
        have HB4 := hidd hb4
        clear hc4 ho4 hb4 HTe u0 u1 u2 u3
        dsimp only
        have HO5 : Hid (w4.ownsRow lo 5 1 (Value.slice ag p.length cg) p.length (Lib.byteCells p)) := own_kin HXn.out.row HKi.out HXm.out.ne HNe.out.1 HO4.out HB4.out HBu.out.size
        have HB5 : Hid (But (TX cb (Value.slice ag p.length cg)) wr w4) := by
          refine (But.of_below (X := fun _ => False) HBrn.out).trans (HBu.out.trans HB4.out (Z := fun b => TX cb (Value.slice ag p.length cg) b ∨ wr.heap.size ≤ b) ?_ ?_) (fun _ _ h => h.elim) ?_
          · rintro i hi (e | e)
            · exact .inr (by omega)
            · exact .inl (.inr e)
          · rintro i hi (e | e)
            · exact .inl (.inl e)
            · rcases HKi.out with ⟨g, cap, cap', e1, e2⟩ | ⟨h1, _⟩
              · refine .inl (.inr ?_)
                rw [e1]
                rw [e2] at e
                exact e
              · have := h1 i e
                exact .inr (by omega)
          · rintro i hi (e | e)
            · exact e
            · omega
        have HX5 : Hid (CurX w0 w4 lo W.heap.size aS cS S ix k p (Value.slice ag p.length cg)) := by
          refine ⟨HXr.out.old.trans (HB5.out.below HXr.out.old.size (fun i hi e => ?_)), HXr.out.hold, HXr.out.new, HXr.out.newl, HXr.out.ne, (HB5.out.block _ hsr (fun e => ?_)).trans HXr.out.box, HO5.out⟩
          · rcases e with e | e
            · omega
            · have := (HXr.out.row.lt _ e).1
              omega
          · rcases e with e | e
            · omega
            · exact HXr.out.ne e
        have HB6 : Hid (But (TX cb (Value.slice ag p.length cg)) W1 w4) := HBr.out.trans HB5.out (fun _ _ h => h) (fun _ _ h => h)
        have HC5 : Hid (Cnt cb h0 r (m + toldAt L (j + 1)) w4) := by
          show Cnt _ _ _ _ _
          rw [HTn.out, ← Nat.add_assoc]
          exact HC4.out
        go_wp2_with fail
        go_roundw
        case rel => exact ⟨j + 1, by omega, by go_num, HC5.out, HX5.out, HB6.out⟩
        case measure => simp [intOf]; omega
      · have hltz : ¬ (j : Int) < (l.length : Int) := by omega
        obtain rfl : j = l.length := by omega
        have HC5 : Hid (Cnt cb h0 r (m + L.length) wr) := by
          show Cnt _ _ _ _ _
          rw [← Hte.out, ← Hall.out]
          exact HCr.out
        have HB6 : Hid (But (TX cb (Value.slice ag p.length cg)) W wr) := (But.of_below (X := fun _ => False) HB1.out).trans HBr.out (fun _ _ h => h.elim) (fun _ _ h => h)
        go_wp2_with fail
        go_ret
        exact ⟨rfl, HC5.out, HXr.out.row, HB6.out⟩
end
end Go.Proofs.Ytbkedgpligcicaa

namespace Go.Proofs.Ytbkedgpligcicaa
open Go Go.RowKit
set_option linter.unusedVariables false
set_option maxRecDepth 100000

def RangeC (fn : Nat) : Prop := ∀ (c : Int) (a : Option Addr) (cap : Nat) (S : List St) (t : Tx) (w : World), S.length ≤ 1048576 → (∀ i, (arcsAt S i).length ≤ 1048576) → HoldS w a S →
  Calls Try.prog fn #[.agg #[.int .i64 c, .slice a S.length cap], .string ⟨t.toArray⟩] w fun e w' => e = .returned (.tuple #[.int .i64 (rangeO (dictT c S) t).1, .int .i64 (rangeO (dictT c S) t).2.1, .int .i64 (rangeO (dictT c S) t).2.2]) ∧ Below w.heap.size w w'
theorem begins_take (p s : Tx) (h : p.length ≤ s.length) : (s.take p.length == p) = begs p s := by
  unfold begs
  rw [Bool.eq_iff_iff, beq_iff_eq, List.isPrefixOf_iff_prefix]
  exact ⟨fun e => List.prefix_iff_eq_take.2 e.symm, fun e => (List.prefix_iff_eq_take.1 e).symm⟩
theorem ext_take (s : Tx) (n : Nat) : ((⟨s.toArray⟩ : ByteArray).extract 0 n).toList = s.take n := by
  rw [Lib.toList_data, ByteArray.data_extract]
  simp
set_option maxHeartbeats 1000000 in
theorem begins_any (s p : Tx) (w : World) : Calls Try.prog 59 #[.string ⟨s.toArray⟩, .string ⟨p.toArray⟩] w fun e w' => e = .returned (.bool (begs p s)) ∧ ∃ m, w' = w.drewN m := by
  have hs : (⟨s.toArray⟩ : ByteArray).size = s.length := by rw [Lib.size_eq]
  have hp : (⟨p.toArray⟩ : ByteArray).size = p.length := by rw [Lib.size_eq]
  go_enter Try.func59, Try.ntmps59
  by_cases h : p.length ≤ s.length
  · have hz : (s.length : Int) ≥ (p.length : Int) := by omega
    have HB := hidd (begins_take p s h)
    go_wp2_with fail
    go_ret
    exact ⟨by rw [← HB.out, ← ext_take]; rfl, 0, rfl⟩
  · have hz : ¬ (s.length : Int) ≥ (p.length : Int) := by omega
    have HB : Hid (begs p s = false) := by
      show _ = _
      unfold begs
      cases e : p.isPrefixOf s with
      | false => rfl
      | true => exact absurd ((List.isPrefixOf_iff_prefix.1 e).length_le) h
    go_wp2_with fail
    go_ret
    exact ⟨by rw [HB.out]; rfl, 0, rfl⟩
set_option maxHeartbeats 4000000 in
theorem specRange_any (hmake : ∀ (base bm bb : Nat) (aT : Option Addr) (cT : Nat) (ts : List Tx) (f : Nat), MakeC base bm bb aT cT ts (f + 1)) : RangeC 25 := by
  intro c a cap S t w hn hA hS
  have HAll := hidd (fun W (hW : Below w.heap.size w W) => all_any hmake c a cap S W hn hA (hS.below hW))
  clear hmake hA hS
  have HBa : Hid (Below w.heap.size w (w.alloc (.cells #[.int .i64 c, .slice a S.length cap] 27))) := (Below.refl _ _).alloc (Nat.le_refl _) _
  have hsl : (⟨t.toArray⟩ : ByteArray).size = t.length := by rw [Lib.size_eq]
  go_enter Try.func25, Try.ntmps25
  by_cases hl : 65536 < t.length
  · have hlz : (t.length : Int) > 65536 := by omega
    have HF := hidd (rangeO_long (d := dictT c S) hl)
    go_wp2_with fail
    go_ret3
    exact ⟨by rw [HF.out]; rfl, HBa.out⟩
  have hlz : ¬ (t.length : Int) > 65536 := by omega
  go_wp2_with fail
  refine (HAll.out _ HBa.out).mono ?_
  rintro e w1 ⟨v, rfl, hb1, hown⟩
  have HB1 := hidd (HBa.out.trans (hb1.mono HBa.out.size))
  clear hb1
  dsimp only
  rcases okD_cases c S with ⟨hok, ts, hts⟩ | ⟨hok, hno⟩
  · rw [hok]
    have HD := hidd (dictT_some hts)
    have HR := hidd hts.1.1
    obtain ⟨av, cv, rfl⟩ := own_form (hown ts hts)
    have HO := hidd (hown ts hts)
    have hfew : ts.length ≤ 4096 := hts.1.2.1
    clear hok hown hts
    go_wp2_with fail
    go_loopw [9, 10, 11] (fun fv nv iv wr => ∃ m first n q : Nat, fv = .int .i64 (first : Int) ∧ nv = .int .i64 (n : Int) ∧ iv = .int .i64 ((m : Int) - 1) ∧ Back ts t m first n ∧ n ≤ ts.length ∧ wr = w1.drewN q) (fun _ _ iv _ => (intOf iv + 1).toNat)
    case atStart => exact ⟨ts.length, 0, 0, 0, rfl, rfl, rfl, Back.start ts t, Nat.zero_le _, rfl⟩
    case round =>
      obtain ⟨m, first, n, q, rfl, rfl, rfl, hbk, hnl, rfl⟩ := hrel
      have HBk := hidd hbk
      have hml := hbk.le
      clear hbk
      cases m with
      | zero =>
        have hgz : ¬ ((0 : Nat) : Int) - 1 ≥ 0 := by omega
        obtain ⟨e1, e2⟩ := HBk.out.done HR.out
        have E2 := hidd e2
        by_cases h0 : n = 0
        · have hz0 : ((n : Int) == 0) = true := by simp [h0]
          have HR2 : Hid (rangeO (dictT c S) t = (0, 0, 8)) := by
            show _ = _
            rw [HD.out, rangeO_out hl (by omega)]
          clear e1 e2 h0
          go_wp2_with fail
          go_ret3
          exact ⟨by rw [HR2.out]; rfl, below_drewN HB1.out q⟩
        · have hz0 : ((n : Int) == 0) = false := beq_false_of_ne (by omega)
          have HR2 : Hid (rangeO (dictT c S) t = ((first : Int), (n : Int), 0)) := by
            show _ = _
            rw [HD.out, rangeO_in hl (by omega), ← e1, e2 (by omega)]
          clear e1 e2 h0
          go_wp2_with fail
          go_ret3
          exact ⟨by rw [HR2.out]; rfl, below_drewN HB1.out q⟩
      | succ m =>
        have hgz : ((m + 1 : Nat) : Int) - 1 ≥ 0 := by omega
        have hmz : ((m + 1 : Nat) : Int) - 1 = (m : Int) := by omega
        rw [hmz] at hgz
        try rw [hmz]
        clear hmz
        have hltz : (m : Int) < (ts.length : Int) := by omega
        rcases own_cases HO.out with ⟨_, h0⟩ | ⟨g, c', e1, _, hg⟩
        · omega
        simp only [Value.slice.injEq, true_and] at e1
        obtain ⟨rfl, rfl⟩ := e1
        have c1 : w1.cell? ⟨g, m, none⟩ = some (.string ⟨(ts.getD m []).toArray⟩) := (HO.out.cellAt m (by omega)).trans (by simp [tCells, txV, show m < ts.length by omega])
        obtain ⟨x, hx⟩ : ∃ x, ts.getD m [] = x := ⟨_, rfl⟩
        rw [hx] at c1
        have Hx := hidd hx
        clear hx
        have HBe := hidd (fun (W : World) => begins_any x t W)
        cases hbg : begs t x with
        | true =>
          rw [hbg] at HBe
          have HBk2 : Hid (Back ts t m m (n + 1)) := HBk.out.hit (by rw [Hx.out]; exact hbg)
          have hn2 : n + 1 ≤ ts.length := by have := HBk2.out.cnt; have := List.countP_le_length (p := begs t) (l := ts.drop m); rw [List.length_drop] at this; omega
          clear hbg
          go_wp2_with (go_at_call 59; refine (HBe.out _).mono ?_; rintro e w' ⟨rfl, q2, rfl⟩)
          go_roundw
          case rel => exact ⟨m, m, n + 1, q + q2, rfl, by go_num, by go_num, HBk2.out, hn2, by first | rfl | simp [World.drewN, Nat.add_assoc]⟩
          case measure => simp [intOf]
        | false =>
          rw [hbg] at HBe
          have HBk2 : Hid (Back ts t m first n) := HBk.out.miss (by rw [Hx.out]; exact hbg)
          clear hbg
          go_wp2_with (go_at_call 59; refine (HBe.out _).mono ?_; rintro e w' ⟨rfl, q2, rfl⟩)
          go_roundw
          case rel => exact ⟨m, first, n, q + q2, rfl, rfl, by go_num, HBk2.out, hnl, by first | rfl | simp [World.drewN, Nat.add_assoc]⟩
          case measure => simp [intOf]
  · rw [hok]
    have HR : Hid (rangeO (dictT c S) t = (0, 0, 1)) := by
      show _ = _
      rw [dictT_none hno, rangeO_none hl]
    clear hok hown hno
    go_wp2_with fail
    go_ret3
    exact ⟨by rw [HR.out]; rfl, HB1.out⟩
end Go.Proofs.Ytbkedgpligcicaa
