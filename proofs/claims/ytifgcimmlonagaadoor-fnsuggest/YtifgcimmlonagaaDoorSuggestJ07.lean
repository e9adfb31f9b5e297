import Derived.RangeFuncNested
import Derived.RangeFuncBound
import Derived.RangeFuncCalls
import Derived.RangeFuncLeaves
import Derived.RangeFuncFrom
import Derived.Shelf.Abstract
import Derived.Shelf.RegionOpen
import Derived.WalkKit
import Derived.OwnWalkIn
import Derived.TacticsInMore
import Derived.LoopNIn
import Derived.LoopIn
import Derived.Test.YtifgcimmlonagaaDoorSuggestJ06
import Derived.OrdersHeld
import Derived.OrdersIn
namespace Go.Proofs.YtifgcimmlonagaaDoor
open Go Go.RowKit Go.Shelf
set_option linter.unusedVariables false
set_option maxRecDepth 100000

/-- The two blocks of a range over a function: its record and the place of its deferred calls. -/
structure RecAt (h : Nat) (r : Loop) (W : World) : Prop where
  rc : W.heap[h + 1]? = some (.loop r)
  df : W.heap[h]? = some (.deferred (some []))
/-- A range over a function with a statement of one's own for every state: what the iterator wants of a round. -/
def YieldI {α : Type} (P : Program) (h : Nat) (r : Loop) (I : α → World → Prop) (live : α → Prop) (args : α → Array Value) (next : α → α) : Prop := ∀ (m : Nat) (x : α) (W : World), live x → I x W → RecAt h r W →
  YieldAt Fence.wide m P (h + 1) (args x) W fun e W' => e = .returned (.bool true) ∧ I (next x) W' ∧ RecAt h r W'
theorem range_inv {α : Type} {n : Nat} {P : Program} {g : Operand} {ps : Array Tmp} {assign body : Code} {Q : Exit → Act → World → Prop} {a : Act} {w : World} {gf : Nat} {lb : Array Value}
    (hg : a.eval g = .func (.func gf) #[] lb) (eg : ∀ args w, (callFunc gf args).run P w = .ok (.enter gf args) w)
    (I : α → World → Prop) (live : α → Prop) (args : α → Array Value) (next : α → α) (x0 xN : α) (hps : ∀ x, (args x).size = ps.size)
    (hput : ∀ x W o, I x W → I x (W.putObj (w.heap.size + 1) o))
    (h0 : ∀ W1, Below w.heap.size w W1 → W1.heap.size = w.heap.size + 2 → I x0 W1)
    (hit : ∀ (r : Loop) (W1 : World), Below w.heap.size w W1 → YieldI P w.heap.size r I live args next → I x0 W1 → RecAt w.heap.size r W1 →
      CallsIn Fence.wide (n - 1) P gf (#[.func (.yield (w.heap.size + 1)) #[] #[]] ++ lb) W1 fun e W' => (∃ v, e = .returned v) ∧ I xN W' ∧ RecAt w.heap.size r W')
    (a₁ : α → Act)
    (hassign : ∀ (l m : Nat) (x : α) (W : World) (K : Act → World → Prop), K (a₁ x) W → assign.wpIn (Fence.wide.inRound l) m P (Exit.then K (fun _ _ _ => False)) { tmps := (ps.zip (args x)).foldl (fun t (p, v) => t.setIfInBounds p v) a.tmps, defers := [] } W)
    (hbody : ∀ (m : Nat) (x : α) (W : World), live x → I x W → w.heap.size + 1 < W.heap.size → (∃ r, W.heap[w.heap.size + 1]? = some (.loop r)) → W.heap[w.heap.size]? = some (.deferred (some [])) →
      body.wpIn (Fence.wide.inRound (w.heap.size + 1)) m P (fun e _ W' => e = .normal ∧ I (next x) W' ∧ W'.heap[w.heap.size]? = W.heap[w.heap.size]? ∧ W'.heap[w.heap.size + 1]? = W.heap[w.heap.size + 1]?) (a₁ x) W)
    (hdone : ∀ W' : World, I xN W' → W'.heap[w.heap.size]? = some (.deferred (some [])) → Q .normal { a with defers := { target := .collected w.heap.size, args := #[] } :: a.defers } W') :
    (Code.rangeFunc g ps assign body).wpIn Fence.wide n P Q a w := by
  refine wpIn_rangeFunc fun fn hfn => ?_
  obtain ⟨r0, hr0⟩ : ∃ r0 : Loop, r0 = { state := .ready, pending := none, fn, tmps := a.tmps, params := ps, assign, body, defers := w.heap.size } := ⟨_, rfl⟩
  obtain ⟨W1, hW1⟩ : ∃ W1, (w.alloc (.deferred (some []))).alloc (.loop r0) = W1 := ⟨_, rfl⟩
  have hB1 : Below w.heap.size w W1 := by rw [← hW1]; exact ((Below.refl _ w).alloc (Nat.le_refl _) _).alloc (by simp) _
  have hz1 : W1.heap.size = w.heap.size + 2 := by rw [← hW1]; simp
  have hC1 : RecAt w.heap.size r0 W1 := by
    refine ⟨?_, ?_⟩
    · rw [← hW1]; have := World.alloc_heap_new (w.alloc (.deferred (some []))) (.loop r0); rwa [World.size_alloc] at this
    · rw [← hW1]; exact (Below.heap_alloc _ _ _ (by simp)).trans (World.alloc_heap_new w _)
  refine ⟨w.heap.size + 1, [{ target := .collected w.heap.size, args := #[] }], W1, { target := .fn (.func gf) lb, args := #[.func (.yield (w.heap.size + 1)) #[] #[]] }, W1, gf,
    #[.func (.yield (w.heap.size + 1)) #[] #[]] ++ lb, W1, ?_, ?_, fun _ _ => trivial, ?_, fun h => (by cases h), ?_⟩
  · rw [← hW1, hr0]; exact run_enterLoop_outer _ _ _ _ _
  · simp only [resolve, hg]
    simp [go_sem]
  · simp [invoke, go_sem, eg]
  · refine (hit r0 W1 hB1 ?_ (h0 W1 hB1 hz1) hC1).mono ?_
    · intro m x W hk hI hc
      have hl := hc.rc
      have hlt : w.heap.size + 1 < W.heap.size := (Array.getElem?_eq_some_iff.1 hl).1
      have hy := run_yield (P := P) (args := args x) hl (by rw [hr0]; exact hps x)
      rw [hr0] at hy
      refine ⟨fn, _, assign, body, hy, roundIn_of_wpIn hfn (hassign _ m x W _ ⟨_, run_beginRound hl (by rw [hr0]), ?_⟩)⟩
      obtain ⟨W2, hW2⟩ : ∃ W2, W.putObj (w.heap.size + 1) (.loop { r0 with state := .busy }) = W2 := ⟨_, rfl⟩
      rw [hW2]
      have hI2 : I x W2 := by rw [← hW2]; exact hput x W _ hI
      have hl2 : W2.heap[w.heap.size + 1]? = some (.loop { r0 with state := .busy }) := by rw [← hW2]; exact World.putObj_heap_same hlt
      have hd2 : W2.heap[w.heap.size]? = some (.deferred (some [])) := by rw [← hW2]; exact (World.putObj_heap_other (by omega)).trans hc.df
      have hs2 : w.heap.size + 1 < W2.heap.size := (Array.getElem?_eq_some_iff.1 hl2).1
      refine wpIn_mono (hbody m x W2 hk hI2 hs2 ⟨_, hl2⟩ hd2) ?_
      rintro e a3 W3 ⟨rfl, hI3, hd3, hr3⟩
      have hl3 : W3.heap[w.heap.size + 1]? = some (.loop { r0 with state := .busy }) := hr3.trans hl2
      have hlt3 := (Array.getElem?_eq_some_iff.1 hl3).1
      have hend := run_endRound (P := P) none hl3
      have hrec : ({ { r0 with state := .busy } with state := if (none : Option Code).isNone then .ready else .done, pending := none } : Loop) = r0 := by rw [hr0]; rfl
      rw [hrec] at hend
      refine ⟨_, _, hend, rfl, hput _ _ _ hI3, World.putObj_heap_same hlt3, (World.putObj_heap_other (by omega)).trans (hd3.trans hd2)⟩
    · rintro e W2 ⟨⟨v, rfl⟩, hI2, hc⟩
      have hend := run_endLoop (P := P) hc.rc (by rw [hr0]; simp)
      have hpn : r0.pending = none := by rw [hr0]
      rw [hpn] at hend
      exact ⟨none, _, hend, hdone _ (hput _ _ _ hI2) ((World.putObj_heap_other (by omega)).trans hc.df)⟩
end Go.Proofs.YtifgcimmlonagaaDoor

namespace Go.Proofs.YtifgcimmlonagaaDoor
open Go Go.RowKit
set_option linter.unusedVariables false

/-! A region that draws, in a round: as everywhere, if it defers nothing. -/
def noDefer (ops : Array Oper) : Bool := ops.toList.all fun o => match o.op with
  | .defer _ => false
  | _ => true
theorem noDefer_at {ops : Array Oper} (h : noDefer ops = true) {i : Nat} {o : Oper} (ho : ops[i]? = some o) : ∀ c, o.op ≠ .defer c := by
  intro c e
  have hm : o ∈ ops.toList := by
    have := List.mem_of_getElem? (by rw [Array.getElem?_toList]; exact ho : ops.toList[i]? = some o)
    exact this
  have := List.all_eq_true.1 h o hm
  rw [e] at this
  cases this
theorem wpOpIn_round {l m : Nat} {P : Program} {ops : Array Oper} {Q : Exit → Act → World → Prop} (hd : noDefer ops = true) (hno : ¬ LetsOut Q) {i : Nat} {K K' : Act → World → Prop} (hk : ∀ a w, K a w → K' a w) {a : Act} {w : World}
    (h : wpOp P ops Q i K a w) : wpOpIn (Fence.wide.inRound l) m P ops Q i K' a w := by
  unfold wpOp at h
  unfold wpOpIn
  cases ho : ops[i]? with
  | none => simp only [ho] at h ⊢; exact hk _ _ h
  | some o =>
    simp only [ho] at h ⊢
    split
    · rename_i hw
      simp only [hw, if_true] at h
      have h' := h.resolve_right (fun h2 => hno h2.2)
      unfold Oper.wp at h'
      unfold Oper.wpIn
      refine ⟨fun f _ => trivial, ?_⟩
      show o.uponIn (Fence.wide.inRound l) m P a K' Q ((o.semAt (some l) a.eval).run P w)
      rw [Oper.semAt_some l a.eval o (noDefer_at hd ho)]
      generalize (execOp a.eval o).run P w = r at h'
      cases r with
      | ok x w' =>
        cases x with
        | value v => exact hk _ _ h'
        | skip => exact hk _ _ h'
        | defer d => exact hk _ _ h'
        | enter f args =>
          refine ⟨(fun h => by cases h), CallsIn.inRound l (callsIn_wide.2 ?_)⟩
          refine Calls.mono h' ?_
          intro e w2 he
          cases e <;> first | exact hk _ _ he | exact he
        | row r args =>
          refine ⟨(fun h => by cases h), fun c cs _ => ?_⟩
          obtain ⟨v, w2, hq, hst⟩ := h' c cs
          exact ⟨v, w2, hk _ _ hq, stepsIn_wide.2 hst⟩
        | _ => exact h'.elim
      | halt x w' => cases x <;> first | exact h' | exact h'.elim
    · rename_i hw
      simp only [hw] at h
      exact ⟨fun f _ => trivial, hk _ _ h⟩
theorem wpAnyIn_round {l m : Nat} {P : Program} {md : Region.Mode} {ops : Array Oper} {Q : Exit → Act → World → Prop} (hd : noDefer ops = true) (hno : ¬ LetsOut Q) : ∀ (fuel : Nat) (listed : Array Bool) (a : Act) (w : World), wpAny P md ops Q fuel listed a w → wpAnyIn (Fence.wide.inRound l) m P md ops Q fuel listed a w
  | 0, _, _, _, h => h
  | fuel + 1, _, _, _, h => ⟨h.1, fun i hi => wpOpIn_round hd hno (fun a' w' h' => wpAnyIn_round hd hno fuel _ a' w' h') (h.2 i hi)⟩
theorem region_round {id l m : Nat} {P : Program} {ops : Array Oper} {Q : Exit → Act → World → Prop} {a : Act} {w : World} {S : World → Prop} (hm : P.follows .mixedOrders = true) (hd : noDefer ops = true) (hno : ¬ LetsOut Q)
    (hS : S w.drew) (h : S w.drew → wpAnyH P .any ops Q S ops.size (Array.replicate ops.size false) a w.drew) : (Code.region id ops true).wpIn (Fence.wide.inRound l) m P Q a w :=
  wpIn_region_any hm (wpAnyIn_round hd hno _ _ _ _ (wpAny_of_held _ _ _ _ (h hS)))
end Go.Proofs.YtifgcimmlonagaaDoor

namespace Go.Proofs.YtifgcimmlonagaaDoor
open Go Go.RowKit Go.Shelf
set_option linter.unusedVariables false
set_option maxRecDepth 100000
set_option linter.unusedSimpArgs false

/-! The first ones of a list. -/
def HoldN (w : World) (a : Option Addr) (l : List NW) : Prop :=
  l = [] ∨ ∃ b off, a = some ⟨b, off, none⟩ ∧ b < w.heap.size ∧ ∀ t, t < l.length → w.cell? ⟨b, off + t * 2, none⟩ = some (.int .i64 ((l.getD t nw0).1 : Int)) ∧ w.cell? ⟨b, off + t * 2 + 1, none⟩ = some (.string (bs (l.getD t nw0).2))
theorem HoldN.below {n : Nat} {w w' : World} {a : Option Addr} {l : List NW} (h : HoldN w a l) (hb : Below w.heap.size w w') : HoldN w' a l := by
  rcases h with h | ⟨b, off, h1, h2, h3⟩
  · exact .inl h
  · refine .inr ⟨b, off, h1, Nat.lt_of_lt_of_le h2 hb.size, fun t ht => ?_⟩
    obtain ⟨k1, k2⟩ := h3 t ht
    exact ⟨(hb.cell (p := ⟨b, off + t * 2, none⟩) h2).trans k1, (hb.cell (p := ⟨b, off + t * 2 + 1, none⟩) h2).trans k2⟩
attribute [local go_sem] Oper.semAt_some
set_option maxHeartbeats 4000000 in
theorem backN_any (n : Nat) (hn : 1 ≤ n) (l Bs g N cap : Nat) (hN : N ≤ 1048576) (J : Nat → World → Prop)
    (hJ : ∀ c W, J c W → W.cell? ⟨Bs, 0, none⟩ = some (.slice (some ⟨g, 0, none⟩) N cap) ∧ ∀ i, i < c → W.cell? ⟨g, i * 2, none⟩ = some (.int .i64 0) ∧ W.cell? ⟨g, i * 2 + 1, none⟩ = some (.string ⟨#[]⟩))
    (hY : ∀ c W, c < N → J (c + 1) W → YieldAt Fence.wide (n - 1) Tryd.prog l #[.int .i64 (c : Int), .agg #[.int .i64 0, .string ⟨#[]⟩]] W fun e W' => e = .returned (.bool true) ∧ J c W')
    (W : World) (h0 : J N W) :
    CallsIn Fence.wide n Tryd.prog 67 #[.func (.yield l) #[] #[], .pointer (some ⟨Bs, 0, none⟩)] W fun e W' => (∃ v, e = .returned v) ∧ J 0 W' := by
  refine callsIn_of_wp Tryd.func67 rfl trivial ?_ rfl
  simp only [Tryd.ntmps67, List.size_toArray, List.length_cons, List.length_nil, Nat.reduceAdd, Nat.reduceSub, Array.replicate_succ, Array.replicate_zero, List.push_toArray, List.append_toArray, List.nil_append, List.cons_append]
  have k0 := (hJ N W h0).1
  gi_wp2
  gi_loopw [3] (fun i wr => ∃ c : Nat, i = .int .i64 ((c : Int) - 1) ∧ c ≤ N ∧ J c wr) (fun i _ => (intOf i + 1).toNat)
  case atStart => exact ⟨N, by go_num, Nat.le_refl _, h0⟩
  case round =>
    obtain ⟨c, rfl, hc, hJc⟩ := hrel
    have c1 := (hJ c wr hJc).1
    have HJ := hidd hJc
    have HJJ := hidd hJ
    have HYY := hidd hY
    clear hJc k0 h0 hJ hY
    cases c with
    | zero =>
      gi_wp2
      go_end0
      exact ⟨⟨_, rfl⟩, HJ.out⟩
    | succ x =>
      have hxz : ((x + 1 : Nat) : Int) - 1 = (x : Int) := by omega
      rw [hxz]
      clear hxz
      have hxl : (x : Int) < (N : Int) := by omega
      obtain ⟨x0, x1⟩ := (HJJ.out _ _ HJ.out).2 x (by omega)
      obtain ⟨fn, tmps, assign, body, hy, hR⟩ := HYY.out x wr (by omega) HJ.out
      gi_wp2
      refine hR.mono ?_
      rintro e W3 ⟨rfl, hJ3⟩
      gi_wp2
      go_roundw
      · exact ⟨x, by go_num, by omega, hJ3⟩
      · simp [intOf]
theorem backF_any (s : Option Addr) (n cap : Nat) (w : World) : Calls Tryd.prog 52 #[.slice s n cap] w fun e w' => e = .returned (.func (.func 67) #[] #[.pointer (some ⟨w.heap.size, 0, none⟩)]) ∧ w' = w.alloc (.cells #[.slice s n cap] 49) := by
  go_enter Tryd.func52, Tryd.ntmps52
  go_wp2
  go_ret
  exact ⟨rfl, rfl⟩
end Go.Proofs.YtifgcimmlonagaaDoor

namespace Go.Proofs.YtifgcimmlonagaaDoor
open Go Go.RowKit Go.Shelf
set_option linter.unusedVariables false
set_option maxRecDepth 100000
set_option linter.unusedSimpArgs false

/-! firstOf: what is popped is laid from the end on. -/
structure FoInv (w0 : World) (base hz p bh bf bk g N : Nat) (vb : Option Nat) (H : List NW) (c : Nat) (W : World) : Prop where
  fr : Below base w0 W
  sz : hz ≤ W.heap.size
  vh : W.heap[bh]? = some (.cells #[.pointer (some ⟨p, 0, none⟩)] 79)
  vf : W.heap[bf]? = some (.cells #[.slice (some ⟨g, 0, none⟩) N N] 49)
  vk : W.heap[bk]? = some (.cells #[.slice (some ⟨g, 0, none⟩) N N] 49)
  hp : ∃ v G T, HpAt W base p v G ∧ v.ownBlock = vb ∧ Heap gtW nw0 G G.length ∧ G.length = c ∧ c ≤ N ∧ (G ++ T).Perm H ∧ Srt gtW T ∧ (∀ x ∈ G, ∀ y ∈ T, gtW x y = false) ∧ W.ownsRow base 59 2 (.slice (some ⟨g, 0, none⟩) N N) N (nwCells (List.replicate c nw0 ++ T))
theorem FoInv.zero {w0 : World} {base hz p bh bf bk g N c : Nat} {vb : Option Nat} {H : List NW} {W : World} (h : FoInv w0 base hz p bh bf bk g N vb H c W) (i : Nat) (hi : i < c) : W.cell? ⟨g, i * 2, none⟩ = some (.int .i64 0) ∧ W.cell? ⟨g, i * 2 + 1, none⟩ = some (.string ⟨#[]⟩) := by
  obtain ⟨v, G, T, h1, h2, h3, h4, h5, h6, h7, h8, h9⟩ := h.hp
  have hl : (List.replicate c nw0 ++ T).length = N := by
    have := h9.1
    rw [nwCells_len] at this
    omega
  have k := own2_cells (l := List.replicate c nw0 ++ T) (by rw [hl]; exact h9) i (by omega)
  have e : (List.replicate c nw0 ++ T).getD i nw0 = nw0 := by
    rw [List.getD_eq_getElem?_getD, List.getElem?_append_left (by simpa using hi), List.getElem?_replicate, if_pos hi]; rfl
  rw [e] at k
  exact k
theorem FoInv.keep {w0 : World} {base hz p bh bf bk g N c : Nat} {vb : Option Nat} {H : List NW} {W W' : World} (h : FoInv w0 base hz p bh bf bk g N vb H c W) (hf : Below base w0 W') (hs : hz ≤ W'.heap.size) (hk : ∀ b, (b = p ∨ b = bh ∨ b = bf ∨ b = bk ∨ b = g ∨ vb = some b) → W'.heap[b]? = W.heap[b]?) : FoInv w0 base hz p bh bf bk g N vb H c W' := by
  obtain ⟨v, G, T, h1, h2, h3, h4, h5, h6, h7, h8, h9⟩ := h.hp
  refine ⟨hf, hs, (hk _ (by simp)).trans h.vh, (hk _ (by simp)).trans h.vf, (hk _ (by simp)).trans h.vk, v, G, T, ⟨(hk _ (by simp)).trans h1.box, own_congr h1.row fun b e => hk b (by simp [← h2, e])⟩, h2, h3, h4, h5, h6, h7, h8, own_congr h9 fun b e => ?_⟩
  have e2 : g = b := Option.some.inj e
  subst e2
  exact hk _ (by simp)
/-- One more is laid. -/
theorem FoInv.next {w0 : World} {base hz p bh bf bk g N c : Nat} {vb : Option Nat} {H : List NW} {W W2 : World} (h : FoInv w0 base hz p bh bf bk g N vb H (c + 1) W) {v : Value} {G T : List NW} (hG : G.length = c + 1) (hT : (G ++ T).Perm H) (hTs : Srt gtW T) (hGT : ∀ x ∈ G, ∀ y ∈ T, gtW x y = false)
    (hrow : W.ownsRow base 59 2 (.slice (some ⟨g, 0, none⟩) N N) N (nwCells (List.replicate (c + 1) nw0 ++ T))) (hvb : v.ownBlock = vb) (hcN : c + 1 ≤ N)
    {m : NW} {v2 : Value} {G2 : List NW} (hm : ∀ x ∈ G, gtW x m = false) (hp2 : (G2 ++ [m]).Perm G) (hl2 : G2.length = c) (hh2 : Heap gtW nw0 G2 G2.length) (hat : HpAt W2 base p v2 G2) (hmv : Mv p W v W2 v2) (hv2 : v2.ownBlock = v.ownBlock)
    (hbp : base ≤ p) (ne1 : bh ≠ p) (ne2 : bf ≠ p) (ne3 : bk ≠ p) (ne4 : g ≠ p) (n1 : vb ≠ some bh) (n2 : vb ≠ some bf) (n3 : vb ≠ some bk) (n4 : vb ≠ some g) (m1 : g ≠ bh) (m2 : g ≠ bf) (m3 : g ≠ bk) (hbg : base ≤ g) (hvl : ∀ b, vb = some b → base ≤ b) :
    FoInv w0 base hz p bh bf bk g N vb H c ((W2.setCell ⟨g, c * 2, none⟩ (.int .i64 (m.1 : Int))).setCell ⟨g, c * 2 + 1, none⟩ (.string (bs m.2))) ∧
    (∀ b, b < W.heap.size → b ≠ p → b ≠ g → vb ≠ some b → ((W2.setCell ⟨g, c * 2, none⟩ (.int .i64 (m.1 : Int))).setCell ⟨g, c * 2 + 1, none⟩ (.string (bs m.2))).heap[b]? = W.heap[b]?) := by
  have hk : ∀ b, b < W.heap.size → b ≠ p → b ≠ g → vb ≠ some b → ((W2.setCell ⟨g, c * 2, none⟩ (.int .i64 (m.1 : Int))).setCell ⟨g, c * 2 + 1, none⟩ (.string (bs m.2))).heap[b]? = W.heap[b]? := by
    intro b hb b1 b2 b3
    rw [heap_set_other _ _ _ _ _ b2, heap_set_other _ _ _ _ _ b2]
    exact hmv.but.block b hb (fun e => by rcases e with e | e; exact b1 e; rw [hvb] at e; exact b3 e)
  have lt : ∀ {b : Nat} {o : Obj}, W.heap[b]? = some o → b < W.heap.size := fun h => (Array.getElem?_eq_some_iff.1 h).1
  have hgl : g < W.heap.size := (hrow.lt g rfl).2
  have hrow2 : W2.ownsRow base 59 2 (.slice (some ⟨g, 0, none⟩) N N) N (nwCells (List.replicate (c + 1) nw0 ++ T)) := own_congr hrow fun b e => by
    have e2 : g = b := Option.some.inj e
    subst e2
    exact hmv.but.block g hgl (fun e => by rcases e with e | e; exact ne4 e; rw [hvb] at e; exact n4 e)
  have hl : (List.replicate (c + 1) nw0 ++ T).length = N := by
    have := hrow.1
    rw [nwCells_len] at this
    omega
  have hset : (List.replicate (c + 1) nw0 ++ T).set c m = List.replicate c nw0 ++ (m :: T) := by
    rw [List.replicate_succ', List.append_assoc, List.set_append_right _ _ (by simp)]
    simp
  have hrow3 := own2_put (l := List.replicate (c + 1) nw0 ++ T) (by rw [hl]; exact hrow2) c m (by omega)
  rw [hl, hset] at hrow3
  refine ⟨⟨?_, ?_, (hk bh (lt h.vh) ne1 (Ne.symm m1) n1).trans h.vh, (hk bf (lt h.vf) ne2 (Ne.symm m2) n2).trans h.vf, (hk bk (lt h.vk) ne3 (Ne.symm m3) n3).trans h.vk, v2, G2, m :: T, ?_, hv2.trans hvb, hh2, hl2, by omega, ?_, ?_, ?_, hrow3⟩, hk⟩
  · have h1 : But (fun b => base ≤ b) W ((W2.setCell ⟨g, c * 2, none⟩ (.int .i64 (m.1 : Int))).setCell ⟨g, c * 2 + 1, none⟩ (.string (bs m.2))) := ((hmv.but.mono (Z := fun b => base ≤ b) (fun i _ e => by rcases e with e | e; (show base ≤ i; omega); exact hvl i (hvb ▸ e))).set g _ _ hbg).set g _ _ hbg
    exact h.fr.trans ⟨h1.os, h1.tape, h1.output, h1.size, fun i hi => h1.block i (by have := h.fr.size; have := (Array.getElem?_eq_some_iff.1 h.vh).1; have := hat.lt; have := hgl; omega) (by omega)⟩
  · have := h.sz
    have := hmv.but.size
    simp only [World.size_setCell]
    omega
  · refine ⟨?_, own_congr hat.row fun b e => ?_⟩
    · rw [heap_set_other _ _ _ _ _ (Ne.symm ne4), heap_set_other _ _ _ _ _ (Ne.symm ne4)]; exact hat.box
    · have hbne : b ≠ g := fun e3 => by rw [hv2, hvb] at e; rw [e3] at e; exact n4 e
      rw [heap_set_other _ _ _ _ _ hbne, heap_set_other _ _ _ _ _ hbne]
  · have e : G2 ++ m :: T = (G2 ++ [m]) ++ T := by simp
    rw [e]
    exact (hp2.append_right T).trans hT
  · rw [Srt, List.pairwise_cons]
    exact ⟨fun y hy => hGT m (hp2.mem_iff.1 (by simp)) y hy, hTs⟩
  · intro x hx y hy
    have hxG : x ∈ G := hp2.mem_iff.1 (by simp [hx])
    rcases List.mem_cons.1 hy with rfl | hy
    · exact hm x hxG
    · exact hGT x hxG y hy
end Go.Proofs.YtifgcimmlonagaaDoor
