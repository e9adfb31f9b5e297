import Derived.Test.YtbkedgpligcicaaDictJ13
import Derived.RangeFuncNested
import Derived.RangeFuncBound
import Derived.RangeFuncCalls
import Derived.RangeFuncLeaves
import Derived.RangeFuncFrom
import Derived.Shelf.Abstract
import Derived.Shelf.RegionOpen
import Derived.WalkKit
import Derived.OwnWalkIn
import Derived.TacticsInMore
import Derived.LoopNIn
import Derived.LoopIn
import Derived.Test.YtbkedgpligcicaaDictJ09
import Derived.Test.YtbkedgpligcicaaDictJ01
import Derived.Test.YtbkedgpligcicaaDictJ05
import Derived.Sort.QuietIn
import Derived.Test.YtbkedgpligcicaaDictJ14
import Derived.Deep.QuietTactic
import Derived.Deep.CutBlock
import Derived.Deep.DeepCutAuto
namespace Go.Proofs.Ytbkedgpligcicaa
open Go
set_option linter.unusedVariables false

/-! Frozen states: a number stands for a set of texts. -/
def lkG (T : List Tx) (g : Nat → Nat) : List Lk := (labelsT T).map fun (k : Nat) => ((k : Int), ((g k : Nat) : Int))
def Den (L : List Ar) : Nat → List Tx → Nat → Prop
  | 0, T, s => T = [] ∧ s = 0
  | d + 1, T, s => ∃ n, s = frz n (finT T) ∧ ∃ g : Nat → Nat, ChainIs L (lkG T g) n ∧ ∀ k ∈ labelsT T, Den L d (subT k T) (g k)
theorem Den.mono {L L' : List Ar} (h : L <+: L') : ∀ {d : Nat} {T : List Tx} {s : Nat}, Den L d T s → Den L' d T s
  | 0, T, s, hd => hd
  | d + 1, T, s, ⟨n, h1, g, h2, h3⟩ => ⟨n, h1, g, h2.mono h, fun k hk => Den.mono h (h3 k hk)⟩
theorem labelsT_none {T : List Tx} (h : labelsT T = []) (hf : finT T = false) (hr : RiseT T) : T = [] := by
  have e := joinT_self hr
  rw [h, hf] at e
  exact e.symm
theorem lkG_eq {T : List Tx} {g g' : Nat → Nat} (h : ∀ k ∈ labelsT T, g k = g' k) : lkG T g = lkG T g' :=
  List.map_congr_left fun k hk => by rw [h k hk]
theorem map_pair_eq {g g' : Nat → Nat} : ∀ {A B : List Nat}, (A.map fun (k : Nat) => ((k : Int), ((g k : Nat) : Int))) = (B.map fun (k : Nat) => ((k : Int), ((g' k : Nat) : Int))) → A = B ∧ ∀ k ∈ A, g k = g' k
  | [], [], _ => ⟨rfl, fun k hk => by simp at hk⟩
  | [], b :: B, h => by simp at h
  | a :: A, [], h => by simp at h
  | a :: A, b :: B, h => by
    simp only [List.map_cons, List.cons.injEq, Prod.mk.injEq] at h
    obtain ⟨⟨h1, h2⟩, h3⟩ := h
    obtain ⟨e, h4⟩ := map_pair_eq h3
    have e1 : a = b := by omega
    subst e1
    refine ⟨by rw [e], fun k hk => ?_⟩
    rcases List.mem_cons.1 hk with rfl | hk
    · omega
    · exact h4 k hk
theorem labelsT_nil : labelsT [] = [] := List.eq_nil_iff_forall_not_mem.2 fun k hk => (labelsT_mem.1 hk).2 rfl
theorem lkG_nil (g : Nat → Nat) : lkG [] g = [] := by rw [lkG, labelsT_nil]; rfl
theorem Den.none {L : List Ar} : ∀ {d : Nat}, Den L d [] 0
  | 0 => ⟨rfl, rfl⟩
  | d + 1 => ⟨0, rfl, fun _ => 0, by rw [lkG_nil]; rfl, fun k hk => absurd ((labelsT_mem.1 hk).2) (by simp [subT])⟩
/-- A set has one number. -/
theorem Den.fn {L : List Ar} (hn : L.Nodup) : ∀ {d d' : Nat} {T : List Tx} {s s' : Nat}, Den L d T s → Den L d' T s' → s = s'
  | 0, 0, T, s, s', h, h' => h.2.trans h'.2.symm
  | 0, d' + 1, T, s, s', ⟨h1, h2⟩, ⟨n, h3, g, h4, h5⟩ => by
    subst h1
    have h6 : n = 0 := by rw [lkG_nil] at h4; exact h4
    subst h6
    rw [h2, h3]; rfl
  | d + 1, 0, T, s, s', ⟨n, h3, g, h4, h5⟩, ⟨h1, h2⟩ => by
    subst h1
    have h6 : n = 0 := by rw [lkG_nil] at h4; exact h4
    subst h6
    rw [h2, h3]; rfl
  | d + 1, d' + 1, T, s, s', ⟨n, h1, g, h2, h3⟩, ⟨n', h1', g', h2', h3'⟩ => by
    have hg : lkG T g = lkG T g' := lkG_eq fun k hk => Den.fn hn (h3 k hk) (h3' k hk)
    rw [hg] at h2
    rw [h1, h1', ChainIs.fn hn h2 h2']
/-- A number stands for one set. -/
theorem Den.inj {L : List Ar} : ∀ {d d' : Nat} {T T' : List Tx} {s : Nat}, RiseT T → RiseT T' → Den L d T s → Den L d' T' s → T = T'
  | 0, 0, T, T', s, _, _, h, h' => h.1.trans h'.1.symm
  | 0, d' + 1, T, T', s, hr, hr', ⟨h1, h2⟩, ⟨n, h3, g, h4, h5⟩ => by
    obtain ⟨rfl, e⟩ := frz_inj (m := n) (g := finT T') (n := 0) (f := false) (by rw [← h3, h2]; rfl)
    have h6 : lkG T' g = [] := ChainIs.inj h4 (show ChainIs L [] 0 from rfl)
    rw [h1, labelsT_none (by simpa [lkG] using h6) e.symm hr']
  | d + 1, 0, T, T', s, hr, hr', ⟨n, h3, g, h4, h5⟩, ⟨h1, h2⟩ => by
    obtain ⟨rfl, e⟩ := frz_inj (m := n) (g := finT T) (n := 0) (f := false) (by rw [← h3, h2]; rfl)
    have h6 : lkG T g = [] := ChainIs.inj h4 (show ChainIs L [] 0 from rfl)
    rw [h1, labelsT_none (by simpa [lkG] using h6) e.symm hr]
  | d + 1, d' + 1, T, T', s, hr, hr', ⟨n, h1, g, h2, h3⟩, ⟨n', h1', g', h2', h3'⟩ => by
    obtain ⟨rfl, e⟩ := frz_inj (h1.symm.trans h1')
    obtain ⟨e2, hg⟩ := map_pair_eq (ChainIs.inj h2 h2')
    have e3 : (labelsT T).map (fun k => (k, subT k T)) = (labelsT T').map (fun k => (k, subT k T')) := by
      rw [← e2]
      refine List.map_congr_left fun k hk => ?_
      have h4 := h3 k hk
      have h5 := h3' k (by rw [← e2]; exact hk)
      rw [hg k hk] at h4
      rw [Den.inj (subT_rise hr) (subT_rise hr') h4 h5]
    rw [← joinT_self hr, ← joinT_self hr', e, e3]

/-! The arcs of a number, read off the links. -/
def arcsC (L : List Ar) : Nat → Nat → List Lk
  | 0, _ => []
  | f + 1, 0 => []
  | f + 1, n + 1 => match L[n]? with
    | none => []
    | some l => (l.1, l.2.1) :: arcsC L f l.2.2.toNat
theorem arcsC_of {L : List Ar} : ∀ {l : List Lk} {n f : Nat}, ChainIs L l n → l.length ≤ f → arcsC L f n = l
  | [], n, f, h, _ => by cases h; cases f <;> rfl
  | p :: t, n, 0, _, hf => by simp at hf
  | p :: t, n, f + 1, ⟨m, r, h1, h2, h3⟩, hf => by
    subst h1
    simp only [arcsC, h3, Int.toNat_natCast, arcsC_of h2 (by simpa using hf)]
theorem labelsT_lenF (T : List Tx) : (labelsT T).length ≤ 256 := by
  have := List.length_filter_le (fun n => !(subT n T).isEmpty) (List.range 256)
  simpa [labelsT] using this
def lksF (L : List Ar) (s : Nat) : List Lk := arcsC L 256 (s / 2)
def nxF (L : List Ar) (s : Nat) : List Nat := (lksF L s).map fun p => p.2.toNat
theorem frz_half (n : Nat) (f : Bool) : frz n f / 2 = n := by cases f <;> simp [frz] <;> omega
theorem frz_odd (n : Nat) (f : Bool) : decide (frz n f % 2 = 1) = f := by cases f <;> simp [frz] <;> omega
theorem Den.lks {L : List Ar} {d : Nat} {T : List Tx} {s : Nat} (h : Den L d T s) : ∃ g : Nat → Nat, lksF L s = lkG T g ∧ decide (s % 2 = 1) = finT T ∧ ∀ k ∈ labelsT T, Den L (d - 1) (subT k T) (g k) := by
  cases d with
  | zero =>
    obtain ⟨rfl, rfl⟩ := h
    exact ⟨fun _ => 0, by rw [lkG_nil]; rfl, rfl, fun k hk => absurd ((labelsT_mem.1 hk).2) (by simp [subT])⟩
  | succ d =>
    obtain ⟨n, h1, g, h2, h3⟩ := h
    refine ⟨g, ?_, by rw [h1, frz_odd], h3⟩
    rw [lksF, h1, frz_half]
    exact arcsC_of h2 (by rw [lkG, List.length_map]; exact labelsT_lenF T)
def IsF (L : List Ar) (s : Nat) : Prop := ∃ d T, RiseT T ∧ Den L d T s
open Classical in
noncomputable def setF (L : List Ar) (s : Nat) : List Tx := if h : IsF L s then h.choose_spec.choose else []
theorem setF_den {L : List Ar} {s : Nat} (h : IsF L s) : ∃ d, RiseT (setF L s) ∧ Den L d (setF L s) s := by
  unfold setF
  rw [dif_pos h]
  exact ⟨_, h.choose_spec.choose_spec⟩
theorem setF_of {L : List Ar} {d s : Nat} {T : List Tx} (hr : RiseT T) (h : Den L d T s) : setF L s = T := by
  obtain ⟨d', h1, h2⟩ := setF_den ⟨d, T, hr, h⟩
  exact Den.inj h1 hr h2 h
theorem setF_inj {L : List Ar} (hn : L.Nodup) {s s' : Nat} (h : IsF L s) (h' : IsF L s') (e : setF L s = setF L s') : s = s' := by
  obtain ⟨d, _, h2⟩ := setF_den h
  obtain ⟨d', _, h2'⟩ := setF_den h'
  rw [e] at h2
  exact Den.fn hn h2 h2'
theorem IsF.next {L : List Ar} {s : Nat} (h : IsF L s) : ∀ y ∈ nxF L s, IsF L y := by
  obtain ⟨d, T, hr, hd⟩ := h
  obtain ⟨g, h1, _, h3⟩ := hd.lks
  intro y hy
  rw [nxF, h1, lkG, List.map_map] at hy
  obtain ⟨k, hk, rfl⟩ := List.mem_map.1 hy
  exact ⟨_, _, subT_rise hr, by simpa using h3 k hk⟩
theorem setF_next {L : List Ar} {s : Nat} (h : IsF L s) : nextT (setF L s) = (nxF L s).map (setF L) := by
  obtain ⟨d, hr, hd⟩ := setF_den h
  obtain ⟨g, h1, _, h3⟩ := hd.lks
  rw [nxF, h1, lkG, List.map_map, List.map_map, nextT]
  refine List.map_congr_left fun k hk => ?_
  simp only [Function.comp, Int.toNat_natCast]
  exact (setF_of (subT_rise hr) (h3 k hk)).symm
/-- The states of a number, in the order in which they are met, without their Aheads. -/
def stF (L : List Ar) (o : List Nat) (s : Nat) : St := (decide (s % 2 = 1), (lksF L s).map fun p => (p.1, ((o.idxOf p.2.toNat : Nat) : Int), (0 : Int)))
def bare (s : St) : St := (s.1, s.2.map fun a => (a.1, a.2.1, (0 : Int)))
theorem idxOf_setF {L : List Ar} (hn : L.Nodup) : ∀ (o : List Nat) (x : Nat), (∀ y ∈ o, IsF L y) → IsF L x → (o.map (setF L)).idxOf (setF L x) = o.idxOf x
  | [], x, _, _ => rfl
  | y :: t, x, h, hx => by
    rw [List.map_cons, List.idxOf_cons, List.idxOf_cons]
    by_cases e : y = x
    · subst e; simp
    · have e2 : ¬ setF L y = setF L x := fun e3 => e (setF_inj hn (h y (by simp)) hx e3)
      have h1 : (setF L y == setF L x) = false := beq_false_of_ne e2
      have h2 : (y == x) = false := beq_false_of_ne e
      rw [idxOf_setF hn t x (fun z hz => h z (by simp [hz])) hx, h1, h2]
theorem frozen_plain {L : List Ar} (hn : L.Nodup) {d r : Nat} {T : List Tx} (hr : RiseT T) (hd : Den L d T r) {o : List Nat} (hb : IsBfs (nxF L) r o) :
    IsBfs nextT T (o.map (setF L)) ∧ o.map (stF L o) = ((o.map (setF L)).map (stOf (o.map (setF L)))).map bare := by
  have hf : IsF L r := ⟨d, T, hr, hd⟩
  have hall : ∀ x ∈ o, IsF L x := hb.all (IsF L) hf (fun x hx y hy => hx.next y hy)
  refine ⟨?_, ?_⟩
  · rw [← setF_of hr hd]
    exact hb.map nextT (setF L) (IsF L) hf (fun x y hx hy e => setF_inj hn hx hy e) (fun x hx y hy => hx.next y hy) (fun x hx => setF_next hx)
  · rw [List.map_map, List.map_map]
    refine List.map_congr_left fun x hx => ?_
    obtain ⟨d', hr', hd'⟩ := setF_den (hall x hx)
    obtain ⟨g, h1, h2, h3⟩ := hd'.lks
    simp only [Function.comp, stF, bare, stOf, h2, h1, lkG, List.map_map]
    congr 1
    refine List.map_congr_left fun k hk => ?_
    have hy : IsF L (g k) := ⟨_, _, subT_rise hr', h3 k hk⟩
    have e := idxOf_setF hn o (g k) hall hy
    rw [setF_of (subT_rise hr') (h3 k hk)] at e
    simp only [Function.comp, Int.toNat_natCast, e]
end Go.Proofs.Ytbkedgpligcicaa

namespace Go.Proofs.Ytbkedgpligcicaa
open Go Go.RowKit Go.Shelf
set_option linter.unusedVariables false
set_option maxRecDepth 100000

/-- The two blocks of a range over a function: its record and the place of its deferred calls. -/
structure RecAt (h : Nat) (r : Loop) (W : World) : Prop where
  rc : W.heap[h + 1]? = some (.loop r)
  df : W.heap[h]? = some (.deferred (some []))
/-- A range over a function with a statement of one's own for every state: what the iterator wants of a round. -/
def YieldI {α : Type} (P : Program) (h : Nat) (r : Loop) (I : α → World → Prop) (live : α → Prop) (args : α → Array Value) (next : α → α) : Prop := ∀ (m : Nat) (x : α) (W : World), live x → I x W → RecAt h r W →
  YieldAt Fence.wide m P (h + 1) (args x) W fun e W' => e = .returned (.bool true) ∧ I (next x) W' ∧ RecAt h r W'
theorem range_inv {α : Type} {n : Nat} {P : Program} {g : Operand} {ps : Array Tmp} {assign body : Code} {Q : Exit → Act → World → Prop} {a : Act} {w : World} {gf : Nat} {lb : Array Value}
    (hg : a.eval g = .func (.func gf) #[] lb) (eg : ∀ args w, (callFunc gf args).run P w = .ok (.enter gf args) w)
    (I : α → World → Prop) (live : α → Prop) (args : α → Array Value) (next : α → α) (x0 xN : α) (hps : ∀ x, (args x).size = ps.size)
    (hput : ∀ x W o, I x W → I x (W.putObj (w.heap.size + 1) o))
    (h0 : ∀ W1, Below w.heap.size w W1 → W1.heap.size = w.heap.size + 2 → I x0 W1)
    (hit : ∀ (r : Loop) (W1 : World), Below w.heap.size w W1 → YieldI P w.heap.size r I live args next → I x0 W1 → RecAt w.heap.size r W1 →
      CallsIn Fence.wide (n - 1) P gf (#[.func (.yield (w.heap.size + 1)) #[] #[]] ++ lb) W1 fun e W' => (∃ v, e = .returned v) ∧ I xN W' ∧ RecAt w.heap.size r W')
    (a₁ : α → Act)
    (hassign : ∀ (l m : Nat) (x : α) (W : World) (K : Act → World → Prop), K (a₁ x) W → assign.wpIn (Fence.wide.inRound l) m P (Exit.then K (fun _ _ _ => False)) { tmps := (ps.zip (args x)).foldl (fun t (p, v) => t.setIfInBounds p v) a.tmps, defers := [] } W)
    (hbody : ∀ (m : Nat) (x : α) (W : World), live x → I x W → w.heap.size + 1 < W.heap.size → (∃ r, W.heap[w.heap.size + 1]? = some (.loop r)) → W.heap[w.heap.size]? = some (.deferred (some [])) →
      body.wpIn (Fence.wide.inRound (w.heap.size + 1)) m P (fun e _ W' => e = .normal ∧ I (next x) W' ∧ W'.heap[w.heap.size]? = W.heap[w.heap.size]? ∧ W'.heap[w.heap.size + 1]? = W.heap[w.heap.size + 1]?) (a₁ x) W)
    (hdone : ∀ W' : World, I xN W' → W'.heap[w.heap.size]? = some (.deferred (some [])) → Q .normal { a with defers := { target := .collected w.heap.size, args := #[] } :: a.defers } W') :
    (Code.rangeFunc g ps assign body).wpIn Fence.wide n P Q a w := by
  refine wpIn_rangeFunc fun fn hfn => ?_
  obtain ⟨r0, hr0⟩ : ∃ r0 : Loop, r0 = { state := .ready, pending := none, fn, tmps := a.tmps, params := ps, assign, body, defers := w.heap.size } := ⟨_, rfl⟩
  obtain ⟨W1, hW1⟩ : ∃ W1, (w.alloc (.deferred (some []))).alloc (.loop r0) = W1 := ⟨_, rfl⟩
  have hB1 : Below w.heap.size w W1 := by rw [← hW1]; exact ((Below.refl _ w).alloc (Nat.le_refl _) _).alloc (by simp) _
  have hz1 : W1.heap.size = w.heap.size + 2 := by rw [← hW1]; simp
  have hC1 : RecAt w.heap.size r0 W1 := by
    refine ⟨?_, ?_⟩
    · rw [← hW1]; have := World.alloc_heap_new (w.alloc (.deferred (some []))) (.loop r0); rwa [World.size_alloc] at this
    · rw [← hW1]; exact (Below.heap_alloc _ _ _ (by simp)).trans (World.alloc_heap_new w _)
  refine ⟨w.heap.size + 1, [{ target := .collected w.heap.size, args := #[] }], W1, { target := .fn (.func gf) lb, args := #[.func (.yield (w.heap.size + 1)) #[] #[]] }, W1, gf,
    #[.func (.yield (w.heap.size + 1)) #[] #[]] ++ lb, W1, ?_, ?_, fun _ _ => trivial, ?_, fun h => (by cases h), ?_⟩
  · rw [← hW1, hr0]; exact run_enterLoop_outer _ _ _ _ _
  · simp only [resolve, hg]
    simp [go_sem]
  · simp [invoke, go_sem, eg]
  · refine (hit r0 W1 hB1 ?_ (h0 W1 hB1 hz1) hC1).mono ?_
    · intro m x W hk hI hc
      have hl := hc.rc
      have hlt : w.heap.size + 1 < W.heap.size := (Array.getElem?_eq_some_iff.1 hl).1
      have hy := run_yield (P := P) (args := args x) hl (by rw [hr0]; exact hps x)
      rw [hr0] at hy
      refine ⟨fn, _, assign, body, hy, roundIn_of_wpIn hfn (hassign _ m x W _ ⟨_, run_beginRound hl (by rw [hr0]), ?_⟩)⟩
      obtain ⟨W2, hW2⟩ : ∃ W2, W.putObj (w.heap.size + 1) (.loop { r0 with state := .busy }) = W2 := ⟨_, rfl⟩
      rw [hW2]
      have hI2 : I x W2 := by rw [← hW2]; exact hput x W _ hI
      have hl2 : W2.heap[w.heap.size + 1]? = some (.loop { r0 with state := .busy }) := by rw [← hW2]; exact World.putObj_heap_same hlt
      have hd2 : W2.heap[w.heap.size]? = some (.deferred (some [])) := by rw [← hW2]; exact (World.putObj_heap_other (by omega)).trans hc.df
      have hs2 : w.heap.size + 1 < W2.heap.size := (Array.getElem?_eq_some_iff.1 hl2).1
      refine wpIn_mono (hbody m x W2 hk hI2 hs2 ⟨_, hl2⟩ hd2) ?_
      rintro e a3 W3 ⟨rfl, hI3, hd3, hr3⟩
      have hl3 : W3.heap[w.heap.size + 1]? = some (.loop { r0 with state := .busy }) := hr3.trans hl2
      have hlt3 := (Array.getElem?_eq_some_iff.1 hl3).1
      have hend := run_endRound (P := P) none hl3
      have hrec : ({ { r0 with state := .busy } with state := if (none : Option Code).isNone then .ready else .done, pending := none } : Loop) = r0 := by rw [hr0]; rfl
      rw [hrec] at hend
      refine ⟨_, _, hend, rfl, hput _ _ _ hI3, World.putObj_heap_same hlt3, (World.putObj_heap_other (by omega)).trans (hd3.trans hd2)⟩
    · rintro e W2 ⟨⟨v, rfl⟩, hI2, hc⟩
      have hend := run_endLoop (P := P) hc.rc (by rw [hr0]; simp)
      have hpn : r0.pending = none := by rw [hr0]
      rw [hpn] at hend
      exact ⟨none, _, hend, hdone _ (hput _ _ _ hI2) ((World.putObj_heap_other (by omega)).trans hc.df)⟩
end Go.Proofs.Ytbkedgpligcicaa

namespace Go.Proofs.Ytbkedgpligcicaa
open Go
set_option linter.unusedVariables false

/-! The stretches of rising texts that begin alike, from the end on. -/
def lblT (T : List Tx) (j : Nat) : Nat := ((T.getD j []).headD 0).toNat
def gsT (T : List Tx) (x : Nat) : Nat → Nat
  | 0 => 0
  | s + 1 => if lblT T s = x then gsT T x s else s + 1
theorem gsT_le (T : List Tx) (x : Nat) : ∀ e, gsT T x e ≤ e
  | 0 => Nat.le_refl _
  | e + 1 => by
    unfold gsT
    split
    · exact Nat.le_succ_of_le (gsT_le T x e)
    · exact Nat.le_refl _
theorem gsT_all (T : List Tx) (x : Nat) : ∀ e j, gsT T x e ≤ j → j < e → lblT T j = x
  | 0, j, _, h => absurd h (by omega)
  | e + 1, j, h1, h2 => by
    unfold gsT at h1
    split at h1
    · rename_i hx
      by_cases hj : j = e
      · subst hj; exact hx
      · exact gsT_all T x e j h1 (by omega)
    · omega
theorem gsT_stop (T : List Tx) (x : Nat) : ∀ e, gsT T x e = 0 ∨ lblT T (gsT T x e - 1) ≠ x
  | 0 => Or.inl rfl
  | e + 1 => by
    unfold gsT
    split
    · exact gsT_stop T x e
    · rename_i hx; exact Or.inr (by simpa using hx)
theorem gsT_lt (T : List Tx) {e : Nat} (he : 0 < e) : gsT T (lblT T (e - 1)) e < e := by
  obtain ⟨k, rfl⟩ : ∃ k, e = k + 1 := ⟨e - 1, by omega⟩
  simp only [Nat.add_sub_cancel]
  unfold gsT
  rw [if_pos rfl]
  have := gsT_le T (lblT T k) k
  omega
def FullT (T : List Tx) : Prop := ∀ t ∈ T, t ≠ []
theorem getD_mem {T : List Tx} {j : Nat} (h : j < T.length) : T.getD j [] ∈ T := by
  rw [List.getD_eq_getElem?_getD, List.getElem?_eq_getElem h]; exact List.getElem_mem _
theorem lbl_lt {T : List Tx} (hr : RiseT T) (hf : FullT T) {i j : Nat} (hij : i ≤ j) (hj : j < T.length) : lblT T i ≤ lblT T j := by
  by_cases e : i = j
  · subst e; exact Nat.le_refl _
  · have h1 : ltT (T.getD i []) (T.getD j []) = true := by
      have := List.pairwise_iff_getElem.1 hr i j (by omega) hj (by omega)
      simpa [List.getD_eq_getElem?_getD, (by omega : i < T.length), hj] using this
    have h2 := hf _ (getD_mem (by omega : i < T.length))
    have h3 := hf _ (getD_mem hj)
    unfold lblT
    cases ha : T.getD i [] with
    | nil => exact absurd ha h2
    | cons a s =>
      cases hb : T.getD j [] with
      | nil => exact absurd hb h3
      | cons b t =>
        rw [ha, hb, ltT_cons] at h1
        simp only [List.headD_cons]
        rcases h1 with h1 | ⟨h1, _⟩
        · omega
        · rw [h1]; exact Nat.le_refl _
/-- Where one may stand between two stretches. -/
def CutT (T : List Tx) (e : Nat) : Prop := e = 0 ∨ e = T.length ∨ lblT T (e - 1) ≠ lblT T e
theorem gsT_cut {T : List Tx} {e : Nat} (he : 0 < e) : CutT T (gsT T (lblT T (e - 1)) e) := by
  have h1 := gsT_lt T he
  rcases gsT_stop T (lblT T (e - 1)) e with h | h
  · exact Or.inl h
  · refine Or.inr (Or.inr ?_)
    have h2 := gsT_all T (lblT T (e - 1)) e (gsT T (lblT T (e - 1)) e) (Nat.le_refl _) h1
    rw [h2]
    exact h
theorem sorted_ext : ∀ {A B : List Nat}, A.Pairwise (· < ·) → B.Pairwise (· < ·) → (∀ t, t ∈ A ↔ t ∈ B) → A = B
  | [], [], _, _, _ => rfl
  | [], b :: B, _, _, h => by have := (h b).2 (by simp); simp at this
  | a :: A, [], _, _, h => by have := (h a).1 (by simp); simp at this
  | a :: A, b :: B, ha, hb, h => by
    rw [List.pairwise_cons] at ha hb
    have e : a = b := by
      have h1 := (h a).1 (by simp)
      have h2 := (h b).2 (by simp)
      rcases List.mem_cons.1 h1 with h1 | h1
      · exact h1
      · rcases List.mem_cons.1 h2 with h2 | h2
        · exact h2.symm
        · have := hb.1 a h1
          have := ha.1 b h2
          omega
    subst e
    congr 1
    refine sorted_ext ha.2 hb.2 fun t => ?_
    constructor
    · intro ht
      rcases List.mem_cons.1 ((h t).1 (by simp [ht])) with rfl | h'
      · have := ha.1 t ht; omega
      · exact h'
    · intro ht
      rcases List.mem_cons.1 ((h t).2 (by simp [ht])) with rfl | h'
      · have := hb.1 t ht; omega
      · exact h'
theorem drop_mem_lbl {T : List Tx} {e : Nat} {t : Tx} (h : t ∈ T.drop e) : ∃ j, e ≤ j ∧ j < T.length ∧ t = T.getD j [] := by
  obtain ⟨i, hi⟩ := List.mem_iff_getElem?.1 h
  rw [List.getElem?_drop] at hi
  have hl := (List.getElem?_eq_some_iff.1 hi).1
  exact ⟨e + i, by omega, hl, by rw [List.getD_eq_getElem?_getD, hi]; rfl⟩
theorem tailIf_lbl {t : Tx} (h : t ≠ []) (n : Nat) : tailIf n t = if (t.headD 0).toNat = n then some t.tail else none := by
  cases t with
  | nil => exact absurd rfl h
  | cons a s => rfl
theorem subT_appendF (n : Nat) (A B : List Tx) : subT n (A ++ B) = subT n A ++ subT n B := List.filterMap_append
theorem subT_same {G : List Tx} {x : Nat} (h : ∀ t ∈ G, t ≠ [] ∧ (t.headD 0).toNat = x) : subT x G = G.map List.tail := by
  induction G with
  | nil => rfl
  | cons a t ih =>
    have ha := h a (by simp)
    have hi := ih fun u hu => h u (by simp [hu])
    rw [subT, List.filterMap_cons, tailIf_lbl ha.1, if_pos ha.2, List.map_cons]
    show a.tail :: subT x t = _
    rw [hi]
theorem subT_other {G : List Tx} {x : Nat} (h : ∀ t ∈ G, t ≠ [] ∧ (t.headD 0).toNat ≠ x) : subT x G = [] := by
  induction G with
  | nil => rfl
  | cons a t ih =>
    have ha := h a (by simp)
    rw [subT, List.filterMap_cons, tailIf_lbl ha.1, if_neg ha.2]
    exact ih fun u hu => h u (by simp [hu])
structure StepT (T : List Tx) (s e x : Nat) : Prop where
  labs : labelsT (T.drop s) = x :: labelsT (T.drop e)
  sub : subT x (T.drop s) = ((T.drop s).take (e - s)).map List.tail
  olds : ∀ k ∈ labelsT (T.drop e), subT k (T.drop s) = subT k (T.drop e)
  new : x ∉ labelsT (T.drop e)
theorem stepT {T : List Tx} (hr : RiseT T) (hf : FullT T) {e : Nat} (he : 0 < e) (hl : e ≤ T.length) (hc : CutT T e) : StepT T (gsT T (lblT T (e - 1)) e) e (lblT T (e - 1)) := by
  have hs := gsT_lt T he
  have hall := gsT_all T (lblT T (e - 1)) e
  generalize hx : lblT T (e - 1) = x at *
  generalize gsT T x e = s at *
  have hsplit : T.drop s = (T.drop s).take (e - s) ++ T.drop e := by
    have h1 := (List.take_append_drop (e - s) (T.drop s)).symm
    rw [List.drop_drop, show s + (e - s) = e by omega] at h1
    exact h1
  have hG : ∀ t ∈ (T.drop s).take (e - s), t ≠ [] ∧ (t.headD 0).toNat = x := by
    intro t ht
    obtain ⟨i, hi⟩ := List.mem_iff_getElem?.1 ht
    have hil := (List.getElem?_eq_some_iff.1 hi).1
    rw [List.length_take, List.length_drop] at hil
    rw [List.getElem?_take, if_pos (by omega), List.getElem?_drop] at hi
    have ht2 : t = T.getD (s + i) [] := by rw [List.getD_eq_getElem?_getD, hi]; rfl
    refine ⟨hf t (List.mem_of_mem_drop (List.mem_of_mem_take ht)), ?_⟩
    rw [ht2]
    exact hall (s + i) (by omega) (by omega)
  have hD : ∀ t ∈ T.drop e, t ≠ [] ∧ x < (t.headD 0).toNat := by
    intro t ht
    obtain ⟨j, hj1, hj2, rfl⟩ := drop_mem_lbl ht
    refine ⟨hf _ (getD_mem hj2), ?_⟩
    have h1 : lblT T e ≤ lblT T j := lbl_lt hr hf hj1 hj2
    have h2 : lblT T (e - 1) ≤ lblT T e := lbl_lt hr hf (by omega) (by omega)
    have h3 : lblT T (e - 1) ≠ lblT T e := by
      rcases hc with h | h | h
      · omega
      · omega
      · exact h
    show x < lblT T j
    omega
  have hx256 : x < 256 := by rw [← hx]; exact UInt8.toNat_lt _
  have hDx : subT x (T.drop e) = [] := subT_other fun t ht => ⟨(hD t ht).1, by have := (hD t ht).2; omega⟩
  have hGx : subT x ((T.drop s).take (e - s)) = ((T.drop s).take (e - s)).map List.tail := subT_same hG
  have hGk : ∀ k, k ≠ x → subT k ((T.drop s).take (e - s)) = [] := fun k hk => subT_other fun t ht => ⟨(hG t ht).1, by have := (hG t ht).2; omega⟩
  have hsubx : subT x (T.drop s) = ((T.drop s).take (e - s)).map List.tail := by
    rw [hsplit, subT_appendF, hDx, List.append_nil, hGx, ← hsplit]
  have hsubk : ∀ k, k ≠ x → subT k (T.drop s) = subT k (T.drop e) := fun k hk => by
    rw [hsplit, subT_appendF, hGk k hk, List.nil_append]
  have hnew : x ∉ labelsT (T.drop e) := fun h => (labelsT_mem.1 h).2 hDx
  have hbig : ∀ k ∈ labelsT (T.drop e), x < k := by
    intro k hk
    obtain ⟨t, ht⟩ := List.exists_mem_of_ne_nil _ (labelsT_mem.1 hk).2
    obtain ⟨c, hc, hm⟩ := subT_mem.1 ht
    have := (hD _ hm).2
    simp at this
    omega
  refine ⟨?_, hsubx, fun k hk => hsubk k (fun h => hnew (h ▸ hk)), hnew⟩
  refine sorted_ext (labelsT_lt _) (List.pairwise_cons.2 ⟨hbig, labelsT_lt _⟩) fun k => ?_
  rw [labelsT_mem, List.mem_cons, labelsT_mem]
  by_cases hk : k = x
  · subst hk
    rw [hsubx]
    simp only [true_or, iff_true]
    refine ⟨hx256, fun h => ?_⟩
    have := congrArg List.length h
    simp at this
    omega
  · rw [hsubk k hk]
    simp [hk]

/-- What freeze has made of the stretches from e on. -/
structure Part (L : List Ar) (h : Nat) (T : List Tx) (e n : Nat) (gf : Nat → Nat) : Prop where
  chain : ChainIs L (lkG (T.drop e) gf) n
  den : ∀ k ∈ labelsT (T.drop e), Den L h (subT k (T.drop e)) (gf k)
theorem Part.start (L : List Ar) (h : Nat) (T : List Tx) : Part L h T T.length 0 fun _ => 0 := by
  refine ⟨?_, fun k hk => ?_⟩
  · rw [List.drop_length, lkG_nil]; rfl
  · rw [List.drop_length, labelsT_nil] at hk; simp at hk
theorem Part.step {L L1 L2 : List Ar} {h : Nat} {T : List Tx} {e n m s0 : Nat} {gf : Nat → Nat} (hp : Part L h T e n gf) {s x : Nat} (hs : StepT T s e x) (h1 : L <+: L1) (h2 : L1 <+: L2)
    (hd : Den L1 h (((T.drop s).take (e - s)).map List.tail) s0) (hm : L2[m]? = some ((x : Int), (s0 : Int), (n : Int))) : Part L2 h T s (m + 1) fun k => if k = x then s0 else gf k := by
  refine ⟨?_, fun k hk => ?_⟩
  · have e1 : lkG (T.drop s) (fun k => if k = x then s0 else gf k) = ((x : Int), (s0 : Int)) :: lkG (T.drop e) gf := by
      unfold lkG
      rw [hs.labs, List.map_cons]
      simp only [if_true, List.cons.injEq, true_and]
      refine List.map_congr_left fun k hk => ?_
      have hkx : k ≠ x := fun h => hs.new (by rw [← h]; exact hk)
      rw [if_neg hkx]
    rw [e1]
    exact ⟨m, n, rfl, (hp.chain.mono h1).mono h2, hm⟩
  · by_cases hkx : k = x
    · subst hkx
      rw [if_pos rfl, hs.sub]
      exact hd.mono h2
    · rw [if_neg hkx]
      rw [hs.labs] at hk
      have hk2 := (List.mem_cons.1 hk).resolve_left hkx
      rw [hs.olds k hk2]
      exact ((hp.den k hk2).mono h1).mono h2
theorem subT_fin (k : Nat) (f : Bool) (T : List Tx) : subT k ((if f then [[]] else []) ++ T) = subT k T := by
  cases f with
  | false => rfl
  | true => rfl
theorem labelsT_fin (f : Bool) (T : List Tx) : labelsT ((if f then [[]] else []) ++ T) = labelsT T := by
  unfold labelsT
  simp only [subT_fin]
theorem finT_full {f : Bool} {T : List Tx} (h : FullT T) : finT ((if f then [[]] else []) ++ T) = f := by
  have h1 : finT T = false := by
    cases hx : finT T with
    | false => rfl
    | true => exact absurd rfl (h _ (finT_mem.1 hx))
  cases f with
  | true => simp [finT]
  | false => simpa using h1
theorem Part.whole {L : List Ar} {h : Nat} {T : List Tx} {n : Nat} {gf : Nat → Nat} (hp : Part L h T 0 n gf) (hf : FullT T) (f : Bool) : Den L (h + 1) ((if f then [[]] else []) ++ T) (frz n f) := by
  obtain ⟨h1, h2⟩ := hp
  rw [List.drop_zero] at h1 h2
  refine ⟨n, by rw [finT_full hf], gf, ?_, ?_⟩
  · unfold lkG at h1 ⊢
    rw [labelsT_fin]
    exact h1
  · intro k hk
    rw [labelsT_fin] at hk
    rw [subT_fin]
    exact h2 k hk
end Go.Proofs.Ytbkedgpligcicaa

namespace Go.Proofs.Ytbkedgpligcicaa
open Go Go.RowKit
set_option linter.unusedVariables false

/-! What is told of a list of terms. -/
def okT (t : Tx) : Prop := 1 ≤ t.length ∧ t.length ≤ 64
def CodeT (ts : List Tx) (c : Int) : Prop :=
  (4096 < ts.length ∧ c = 2) ∨ (ts.length ≤ 4096 ∧ (∃ j, j < ts.length ∧ ¬ okT (ts.getD j [])) ∧ c = 1) ∨
  (ts.length ≤ 4096 ∧ (∀ j, j < ts.length → okT (ts.getD j [])) ∧ (∃ j, 0 < j ∧ j < ts.length ∧ ltT (ts.getD (j - 1) []) (ts.getD j []) = false) ∧ c = 17) ∨
  (ts.length ≤ 4096 ∧ (∀ j, j < ts.length → okT (ts.getD j [])) ∧ (∀ j, 0 < j → j < ts.length → ltT (ts.getD (j - 1) []) (ts.getD j []) = true) ∧ c = 0)
theorem CodeT.fn {ts : List Tx} {c c' : Int} (h : CodeT ts c) (h' : CodeT ts c') : c = c' := by
  rcases h with ⟨h1, rfl⟩ | ⟨h1, ⟨j, hj, hb⟩, rfl⟩ | ⟨h1, hg, ⟨j, h0, hj, hb⟩, rfl⟩ | ⟨h1, hg, hr, rfl⟩ <;>
  rcases h' with ⟨k1, rfl⟩ | ⟨k1, ⟨i, hi, kb⟩, rfl⟩ | ⟨k1, kg, ⟨i, k0, hi, kb⟩, rfl⟩ | ⟨k1, kg, kr, rfl⟩ <;>
  first
  | rfl
  | omega
  | exact absurd (kg j hj) hb
  | exact absurd (hg i hi) kb
  | (have := kr j h0 hj; rw [hb] at this; cases this)
  | (have := hr i k0 hi; rw [kb] at this; cases this)
theorem rise_of_steps : ∀ {ts : List Tx}, (∀ j, 0 < j → j < ts.length → ltT (ts.getD (j - 1) []) (ts.getD j []) = true) → RiseT ts
  | [], _ => List.Pairwise.nil
  | a :: t, h => by
    have ht : RiseT t := rise_of_steps fun j h0 hj => by
      have := h (j + 1) (by omega) (by simpa using hj)
      obtain ⟨i, rfl⟩ : ∃ i, j = i + 1 := ⟨j - 1, by omega⟩
      simpa using this
    refine List.pairwise_cons.2 ⟨?_, ht⟩
    cases t with
    | nil => intro b hb; simp at hb
    | cons b r =>
      have hab : ltT a b = true := by simpa using h 1 (by omega) (by simp)
      intro c hc
      rcases List.mem_cons.1 hc with rfl | hc
      · exact hab
      · exact ltT_trans hab ((List.pairwise_cons.1 ht).1 c hc)
theorem CodeT.good {ts : List Tx} (h : CodeT ts 0) : GoodT ts := by
  rcases h with ⟨_, h⟩ | ⟨_, _, h⟩ | ⟨_, _, _, h⟩ | ⟨h1, hg, hr, _⟩
  · cases h
  · cases h
  · cases h
  · refine ⟨rise_of_steps hr, h1, fun t ht => ?_⟩
    obtain ⟨j, hj⟩ := List.mem_iff_getElem?.1 ht
    have hjl := (List.getElem?_eq_some_iff.1 hj).1
    have := hg j hjl
    rw [List.getD_eq_getElem?_getD, hj] at this
    exact this
/-- A row of terms as it lies. -/
def TmAt (w : World) (a : Option Addr) (ts : List Tx) : Prop := ts = [] ∨ ∃ g off, a = some ⟨g, off, none⟩ ∧ g < w.heap.size ∧ ∀ j, j < ts.length → w.cell? ⟨g, off + j, none⟩ = some (.string ⟨(ts.getD j []).toArray⟩)
end Go.Proofs.Ytbkedgpligcicaa

namespace Go.Proofs.Ytbkedgpligcicaa
open Go Go.RowKit Go.Shelf
set_option linter.unusedVariables false
set_option maxRecDepth 100000
attribute [local go_sem] Oper.semAt_some

def dropT (p : Nat) (ts : List Tx) : List Tx := ts.map (List.drop p)
theorem dropT_length (p : Nat) (ts : List Tx) : (dropT p ts).length = ts.length := by simp [dropT]
theorem lbl_drop {p : Nat} {ts : List Tx} {j : Nat} (hj : j < ts.length) (hp : p < (ts.getD j []).length) : lblT (dropT p ts) j = ((ts.getD j []).getD p 0).toNat := by
  unfold lblT dropT
  have e : (ts.map (List.drop p)).getD j [] = (ts.getD j []).drop p := by
    rw [List.getD_eq_getElem?_getD, List.getD_eq_getElem?_getD, List.getElem?_map, List.getElem?_eq_getElem hj]
    rfl
  rw [e]
  generalize ts.getD j [] = t at *
  congr 1
  rw [List.headD_eq_head?_getD, List.head?_drop, List.getD_eq_getElem?_getD]
def partV (a : Option Addr) (s e cap : Nat) : Value := match a with
  | some ⟨g, off, none⟩ => .slice (some ⟨g, off + s, none⟩) (e - s) (cap - s)
  | _ => .slice none 0 0
def brArgs (a : Option Addr) (cap : Nat) (T : List Tx) (e : Nat) : Array Value := #[.int .i64 (lblT T (e - 1) : Nat), partV a (gsT T (lblT T (e - 1)) e) e cap]
set_option maxHeartbeats 4000000 in
theorem branches1_any (n l Bt Bp p : Nat) (a : Option Addr) (cap : Nat) (ts : List Tx) (hn : 1 ≤ n) (hl : ts.length ≤ 1048576) (hcap : ts.length ≤ cap) (hcm : cap ≤ 9223372036854775807) (hp : p ≤ 1048576) (hlong : ∀ j, j < ts.length → p < (ts.getD j []).length)
    (J : Nat → World → Prop) (hJ : ∀ e W, J e W → W.cell? ⟨Bt, 0, none⟩ = some (.slice a ts.length cap) ∧ W.cell? ⟨Bp, 0, none⟩ = some (.int .i64 (p : Int)) ∧ TmAt W a ts) (hD : ∀ e W q, J e W → J e (W.drewN q))
    (hY : ∀ e W, 0 < e → e ≤ ts.length → J e W → YieldAt Fence.wide (n - 1) Try.prog l (brArgs a cap (dropT p ts) e) W fun r W' => r = .returned (.bool true) ∧ J (gsT (dropT p ts) (lblT (dropT p ts) (e - 1)) e) W')
    (W : World) (h0 : J ts.length W) :
    CallsIn Fence.wide n Try.prog 97 #[.func (.yield l) #[] #[], .pointer (some ⟨Bt, 0, none⟩), .pointer (some ⟨Bp, 0, none⟩)] W fun r W' => (∃ v, r = .returned v) ∧ J 0 W' := by
  refine callsIn_of_wp Try.func97 rfl trivial ?_ rfl
  simp only [Try.ntmps97, List.size_toArray, List.length_cons, List.length_nil, Nat.reduceAdd, Nat.reduceSub, Array.replicate_succ, Array.replicate_zero, List.push_toArray, List.append_toArray, List.nil_append, List.cons_append]
  have HJ := hidd hJ
  have HD := hidd hD
  have HY := hidd hY
  have HLo := hidd hlong
  obtain ⟨c0, c1, ct⟩ := hJ _ W h0
  have Ht := hidd ct
  have H0 := hidd h0
  clear hJ hD hY hlong ct h0
  gi_wp2
  gi_loopw [4] (fun ev wr => ∃ e : Nat, ev = .int .i64 (e : Int) ∧ e ≤ ts.length ∧ J e wr) (fun ev _ => (intOf ev).toNat)
  case atStart => exact ⟨ts.length, rfl, Nat.le_refl _, H0.out⟩
  case round =>
    clear c0 c1 Ht H0
    obtain ⟨e, rfl, he, hJe⟩ := hrel
    have HJe := hidd hJe
    clear hJe
    by_cases h0 : 0 < e
    · have h0z : (0 : Int) < (e : Int) := by omega
      obtain ⟨E, hE⟩ : ∃ E, e = E + 1 := ⟨e - 1, by omega⟩
      have hEl : E < ts.length := by omega
      have hEz : (e : Int) - 1 = (E : Int) := by omega
      have hEn : e - 1 = E := by omega
      have HE := hidd hE
      have HEn := hidd hEn
      clear hE hEn
      obtain ⟨c0, c1, ct⟩ := HJ.out _ _ HJe.out
      obtain ⟨g, off, rfl, hg, hcell⟩ := ct.resolve_left (fun h => by rw [h] at hEl; simp at hEl)
      have c2 := hcell E hEl
      clear hcell ct hg
      have HYe := hidd (HY.out e)
      obtain ⟨x, hx⟩ : ∃ x, lblT (dropT p ts) E = x := ⟨_, rfl⟩
      obtain ⟨c, hc⟩ : ∃ c : UInt8, (ts.getD E []).getD p 0 = c := ⟨_, rfl⟩
      have HXc : Hid (c.toNat = x) := by show _ = _; rw [← hx, lbl_drop hEl (HLo.out E hEl), hc]
      have xi : ∀ W, (Instr.index 9 (.string ⟨(ts.getD E []).toArray⟩) (.int .i64 (p : Int))).run Try.prog W = .ok (.int .u8 (c.toNat : Int)) W := fun W => by rw [idx_run _ _ W (HLo.out E hEl), hc]
      have hEz2 : (E : Int) < (ts.length : Int) := by omega
      have hpz : (p : Int) < ((ts.getD E []).length : Int) := by have := HLo.out E hEl; omega
      have Hx := hidd hx
      clear hx hc
      obtain ⟨tE, htE⟩ : ∃ t, ts.getD E [] = t := ⟨_, rfl⟩
      rw [htE] at c2 xi hpz
      clear htE
      gi_wp2
      gi_quiet (fail)
      gi_wp2
      gi_loopw [6] (fun sv wy => ∃ s : Nat, sv = .int .i64 (s : Int) ∧ s ≤ e ∧ J e wy ∧ gsT (dropT p ts) x s = gsT (dropT p ts) x e) (fun sv _ => (intOf sv).toNat)
      case atStart => exact ⟨e, rfl, Nat.le_refl _, HD.out _ _ _ HJe.out, rfl⟩
      case round =>
        clear c0 c1 c2 xi
        obtain ⟨s, rfl, hs, hJs, hgs⟩ := hrel
        have HJs := hidd hJs
        have Hgs := hidd hgs
        clear hJs hgs
        obtain ⟨c0, c1, ct⟩ := HJ.out _ _ HJs.out
        obtain ⟨g', off', hgo, hg, hcell⟩ := ct.resolve_left (fun h => by rw [h] at hEl; simp at hEl)
        cases hgo
        clear ct hg
        by_cases hs0 : 0 < s
        · have hs0z : 0 < (s : Int) := by omega
          obtain ⟨s', hs'⟩ : ∃ s', s = s' + 1 := ⟨s - 1, by omega⟩
          have hsl : s' < ts.length := by omega
          have hsz : (s : Int) - 1 = (s' : Int) := by omega
          have hszl : (s' : Int) < (ts.length : Int) := by omega
          have c2 := hcell s' hsl
          clear hcell
          obtain ⟨c', hc'⟩ : ∃ c : UInt8, (ts.getD s' []).getD p 0 = c := ⟨_, rfl⟩
          have HXs : Hid (lblT (dropT p ts) s' = c'.toNat) := by show _ = _; rw [lbl_drop hsl (HLo.out s' hsl), hc']
          have xi : ∀ W, (Instr.index 9 (.string ⟨(ts.getD s' []).toArray⟩) (.int .i64 (p : Int))).run Try.prog W = .ok (.int .u8 (c'.toNat : Int)) W := fun W => by rw [idx_run _ _ W (HLo.out s' hsl), hc']
          have hpz' : (p : Int) < ((ts.getD s' []).length : Int) := by have := HLo.out s' hsl; omega
          clear hc'
          obtain ⟨t', ht'⟩ : ∃ t, ts.getD s' [] = t := ⟨_, rfl⟩
          rw [ht'] at c2 xi hpz'
          clear ht'
          have HS' := hidd hs'
          clear hs'
          by_cases hcc : c'.toNat = c.toNat
          · have hccz : ((c'.toNat : Int) == (c.toNat : Int)) = true := by simp [hcc]
            have HG2 : Hid (gsT (dropT p ts) x s' = gsT (dropT p ts) x e) := by
              show _ = _
              rw [← Hgs.out, HS'.out]
              conv => rhs; unfold gsT
              rw [if_pos (by rw [HXs.out, hcc, HXc.out])]
            clear hcc
            gi_wp2
            gi_quiet (fail)
            gi_wp2
            go_roundw
            · exact ⟨s', by go_num, by omega, HD.out _ _ _ HJs.out, HG2.out⟩
            · simp [intOf]; omega
          · have hccz : ((c'.toNat : Int) == (c.toNat : Int)) = false := by simp; omega
            have HG : Hid (gsT (dropT p ts) x e = s) := by
              show _ = _
              rw [← Hgs.out, HS'.out]
              unfold gsT
              rw [if_neg (by rw [HXs.out, ← HXc.out]; exact hcc)]
            clear hcc
            gi_wp2
            gi_quiet (fail)
            have HJq := hidd (HD.out _ _ nq HJs.out)
            clear c0 c1
            obtain ⟨k0, k1, _⟩ := HJ.out _ _ HJq.out
            have hse : s < e := by have := gsT_lt (dropT p ts) (e := e) h0; rw [HEn.out, Hx.out, HG.out] at this; exact this
            obtain ⟨fn, tmps, assign, body, hy, hR⟩ := HYe.out _ h0 he HJq.out
            rw [brArgs, HEn.out, Hx.out, HG.out] at hy
            rw [HEn.out, Hx.out, HG.out] at hR
            simp only [partV] at hy
            have hcx : (c.toNat : Int) = (x : Int) := by rw [HXc.out]
            have hx255 : x ≤ 255 := by have := UInt8.toNat_lt c; have := HXc.out; omega
            have hsz : (s : Int) ≤ (e : Int) := by omega
            have hez : (e : Int) ≤ (ts.length : Int) := by omega
            have hec : (e : Int) ≤ (cap : Int) := by omega
            simp only [hcx]
            clear hcx
            gi_wp2
            refine hR.mono ?_
            rintro r W3 ⟨rfl, hJ3⟩
            gi_wp2
            go_roundw
            · exact ⟨s, rfl, by omega, hJ3⟩
            · simp [intOf]; omega
        · have hs0z : ¬ 0 < (s : Int) := by omega
          clear hcell
          have HG : Hid (gsT (dropT p ts) x e = s) := by
            show _ = _
            obtain rfl : s = 0 := by omega
            rw [← Hgs.out]
            rfl
          gi_wp2
          gi_quiet (fail)
          have HJq := hidd (HD.out _ _ nq HJs.out)
          clear c0 c1
          obtain ⟨k0, k1, _⟩ := HJ.out _ _ HJq.out
          have hse : s < e := by have := gsT_lt (dropT p ts) (e := e) h0; rw [HEn.out, Hx.out, HG.out] at this; exact this
          obtain ⟨fn, tmps, assign, body, hy, hR⟩ := HYe.out _ h0 he HJq.out
          rw [brArgs, HEn.out, Hx.out, HG.out] at hy
          rw [HEn.out, Hx.out, HG.out] at hR
          simp only [partV] at hy
          have hcx : (c.toNat : Int) = (x : Int) := by rw [HXc.out]
          have hx255 : x ≤ 255 := by have := UInt8.toNat_lt c; have := HXc.out; omega
          have hsz : (s : Int) ≤ (e : Int) := by omega
          have hez : (e : Int) ≤ (ts.length : Int) := by omega
          have hec : (e : Int) ≤ (cap : Int) := by omega
          simp only [hcx]
          clear hcx
          gi_wp2
          refine hR.mono ?_
          rintro r W3 ⟨rfl, hJ3⟩
          gi_wp2
          go_roundw
          · exact ⟨s, rfl, by omega, hJ3⟩
          · simp [intOf]; omega
    · have h0z : ¬ (0 : Int) < (e : Int) := by omega
      obtain rfl : e = 0 := by omega
      gi_wp2
      go_end0
      exact ⟨⟨_, rfl⟩, HJe.out⟩
end Go.Proofs.Ytbkedgpligcicaa

namespace Go.Proofs.Ytbkedgpligcicaa
open Go Go.RowKit Go.Shelf
set_option linter.unusedVariables false
set_option maxRecDepth 100000
attribute [local go_sem] Oper.semAt_some

theorem branches_any (a : Option Addr) (len cap p : Nat) (w : World) :
    Calls Try.prog 67 #[.slice a len cap, .int .i64 (p : Int)] w fun e w' => e = .returned (.func (.func 97) #[] #[.pointer (some ⟨w.heap.size, 0, none⟩), .pointer (some ⟨w.heap.size + 1, 0, none⟩)]) ∧ w' = (w.alloc (.cells #[.slice a len cap] 23)).alloc (.cells #[.int .i64 (p : Int)] 3) := by
  go_enter Try.func67, Try.ntmps67
  go_wp2
  go_ret
  refine ⟨?_, rfl⟩
  simp

/-- What freeze does. -/
structure Frozen (base : Nat) (W W' : World) (rb mb g : Nat) (L : List Ar) (h : Nat) (T : List Tx) (s : Nat) (L' : List Ar) (g' cap' : Nat) : Prop where
  reg : RegAt base W' rb mb g' cap' L'
  fr : Fr3 rb mb g W W'
  den : Den L' (h + 1) T s
  pre : L <+: L'
  few : L'.length ≤ L.length + T.length * h
  new : g' = g ∨ W.heap.size ≤ g'
theorem Den.le {L : List Ar} {d s : Nat} {T : List Tx} (h : Den L d T s) : s ≤ 2 * L.length + 1 := by
  cases d with
  | zero => obtain ⟨_, rfl⟩ := h; omega
  | succ d =>
    obtain ⟨n, rfl, g, h2, _⟩ := h
    have := h2.le
    unfold frz
    split <;> omega
/-- Between two rounds. -/
structure FzInv (base : Nat) (w : World) (rb mb g0 B8 h : Nat) (L0 : List Ar) (T : List Tx) (e : Nat) (W : World) : Prop where
  size : w.heap.size + 2 ≤ W.heap.size
  os : W.os = w.os
  tape : W.tape = w.tape
  output : W.output = w.output
  fr : ∀ b, b < w.heap.size → b ≠ rb → b ≠ mb → b ≠ g0 → b ≠ B8 → W.heap[b]? = w.heap[b]?
  le : e ≤ T.length
  cut : CutT T e
  ex : ∃ L g cap n gf, RegAt base W rb mb g cap L ∧ L0 <+: L ∧ L.length ≤ L0.length + (T.length - e) * h ∧ Part L h T e n gf ∧ W.heap[B8]? = some (.cells #[.int .i64 (n : Int)] 3) ∧ (g = g0 ∨ w.heap.size + 2 ≤ g)
theorem FzInv.put {base : Nat} {w : World} {rb mb g0 B8 h : Nat} {L0 : List Ar} {T : List Tx} (hrb : rb < w.heap.size) (hmb : mb < w.heap.size) (hg0 : g0 < w.heap.size) (hB8 : B8 < w.heap.size) {e : Nat} {W : World} (hI : FzInv base w rb mb g0 B8 h L0 T e W) (o : Obj) :
    FzInv base w rb mb g0 B8 h L0 T e (W.putObj (w.heap.size + 1) o) := by
  obtain ⟨L, g, cap, n, gf, h1, h2, h3, h4, h5, h6⟩ := hI.ex
  have hg : g ≠ w.heap.size + 1 := by omega
  refine ⟨by have := hI.size; simpa [World.putObj] using this, hI.os, hI.tape, hI.output, fun b hb a1 a2 a3 a4 => (World.putObj_heap_other (by omega)).trans (hI.fr b hb a1 a2 a3 a4), hI.le, hI.cut, L, g, cap, n, gf, ?_, h2, h3, h4, (World.putObj_heap_other (by omega)).trans h5, h6⟩
  exact h1.keep (by simp [World.putObj]) (World.putObj_heap_other (by omega)) (World.putObj_heap_other (by omega)) (World.putObj_heap_other hg)
theorem FzInv.drew {base : Nat} {w : World} {rb mb g0 B8 h : Nat} {L0 : List Ar} {T : List Tx} {e : Nat} {W : World} (hI : FzInv base w rb mb g0 B8 h L0 T e W) (q : Nat) :
    FzInv base w rb mb g0 B8 h L0 T e (W.drewN q) := by
  obtain ⟨L, g, cap, n, gf, h1, h2, h3, h4, h5, h6⟩ := hI.ex
  exact ⟨by simpa using hI.size, hI.os, hI.tape, hI.output, fun b hb a1 a2 a3 a4 => by rw [← hI.fr b hb a1 a2 a3 a4]; simp, hI.le, hI.cut, L, g, cap, n, gf, h1.keep (by simp) (by simp) (by simp) (by simp), h2, h3, h4, by rw [← h5]; simp, h6⟩
theorem FzInv.next {base : Nat} {w : World} {rb mb g0 B8 k : Nat} {L0 : List Ar} {T : List Tx} (hrb : rb < w.heap.size) (hmb : mb < w.heap.size) (hg0 : g0 < w.heap.size) (hB8 : B8 < w.heap.size) (hne : B8 ≠ rb ∧ B8 ≠ mb ∧ B8 ≠ g0)
    {e s x : Nat} {W W1 W2 : World} (hI : FzInv base w rb mb g0 B8 (k + 1) L0 T e W) (hs : StepT T s e x) (hse : s < e) (hct : CutT T s)
    {L : List Ar} {g cap n : Nat} {gf : Nat → Nat} (h1 : RegAt base W rb mb g cap L) (h2 : L0 <+: L) (h3 : L.length ≤ L0.length + (T.length - e) * (k + 1)) (h4 : Part L (k + 1) T e n gf) (h5 : W.heap[B8]? = some (.cells #[.int .i64 (n : Int)] 3)) (h6 : g = g0 ∨ w.heap.size + 2 ≤ g)
    {s0 m g1 c1 g2 c2 : Nat} {L1 L2 : List Ar} (hz : Frozen base W W1 rb mb g L k (((T.drop s).take (e - s)).map List.tail) s0 L1 g1 c1) (hc : Chained base W1 W2 rb mb g1 L1 ((x : Int), (s0 : Int), (n : Int)) m L2 g2 c2) :
    FzInv base w rb mb g0 B8 (k + 1) L0 T s (W2.setCell ⟨B8, 0, none⟩ (.int .i64 ((m + 1 : Nat) : Int))) ∧ (∀ b, w.heap.size ≤ b → b < w.heap.size + 2 → (W2.setCell ⟨B8, 0, none⟩ (.int .i64 ((m + 1 : Nat) : Int))).heap[b]? = W.heap[b]?) := by
  have hzs := hz.fr.size
  have hcs := hc.fr.size
  have hIs := hI.size
  have hle := hI.le
  have hg1 : g1 = g0 ∨ w.heap.size + 2 ≤ g1 := by
    rcases hz.new with e1 | e1
    · rw [e1]; exact h6
    · exact Or.inr (by omega)
  have hg2 : g2 = g0 ∨ w.heap.size + 2 ≤ g2 := by
    rcases hc.new with e1 | e1
    · rw [e1]; exact hg1
    · exact Or.inr (by omega)
  have hbl : ∀ b, b < W.heap.size → b ≠ rb → b ≠ mb → b ≠ g → b ≠ g1 → W2.heap[b]? = W.heap[b]? := fun b hb a1 a2 a3 a4 => (hc.fr.block b (by omega) a1 a2 a4).trans (hz.fr.block b hb a1 a2 a3)
  have hb8 : W2.heap[B8]? = some (.cells #[.int .i64 (n : Int)] 3) := (hbl B8 (by omega) hne.1 hne.2.1 (by omega) (by omega)).trans h5
  have hset : ∀ b, b ≠ B8 → (W2.setCell ⟨B8, 0, none⟩ (.int .i64 ((m + 1 : Nat) : Int))).heap[b]? = W2.heap[b]? := fun b hb => heap_setCell_other W2 ⟨B8, 0, none⟩ b _ hb
  refine ⟨⟨by simp; omega, ?_, ?_, ?_, ?_, by omega, hct, L2, g2, c2, m + 1, _, ?_, ?_, ?_, h4.step hs hz.pre hc.pre hz.den hc.at_, ?_, hg2⟩, ?_⟩
  · exact hc.fr.os.trans (hz.fr.os.trans hI.os)
  · exact hc.fr.tape.trans (hz.fr.tape.trans hI.tape)
  · exact hc.fr.output.trans (hz.fr.output.trans hI.output)
  · intro b hb a1 a2 a3 a4
    rw [hset b a4, hbl b (by omega) a1 a2 (by omega) (by omega)]
    exact hI.fr b hb a1 a2 a3 a4
  · exact hc.reg.keep (by simp) (hset _ (fun e => hne.1 e.symm)) (hset _ (fun e => hne.2.1 e.symm)) (hset _ (by omega))
  · exact h2.trans (hz.pre.trans hc.pre)
  · have f1 := hz.few
    have f2 := hc.few
    have hlen : (((T.drop s).take (e - s)).map List.tail).length = e - s := by simp; omega
    rw [hlen] at f1
    obtain ⟨d, hd⟩ : ∃ d, e = s + d + 1 := ⟨e - s - 1, by omega⟩
    have e1 : e - s = d + 1 := by omega
    rw [e1] at f1
    have e2 : T.length - s = (T.length - e) + (d + 1) := by omega
    rw [e2, Nat.add_mul]
    have e3 : (d + 1) * (k + 1) = (d + 1) * k + (d + 1) := by rw [Nat.mul_add, Nat.mul_one]
    omega
  · rw [heap_setCell_same W2 B8 0 _ _ _ hb8]
    rfl
  · intro b hb1 hb2
    rw [hset b (by omega)]
    exact hbl b (by omega) (by omega) (by omega) (by omega) (by omega)
/-- What freeze is asked. -/
def FreezeC (base rb mb h : Nat) : Prop := ∀ (W : World) (g cap : Nat) (L : List Ar) (a : Option Addr) (cp : Nat) (ts : List Tx) (p : Nat), RegAt base W rb mb g cap L → TmAt W a ts → (∀ gT off, a = some ⟨gT, off, none⟩ → ts ≠ [] → gT ≠ rb ∧ gT ≠ mb ∧ gT ≠ g) →
  ts.length ≤ cp → cp ≤ 9223372036854775807 → ts.length ≤ 4096 → RiseT (dropT p ts) → (∀ t ∈ ts, p ≤ t.length ∧ t.length ≤ p + h) → p + h ≤ 64 → L.length + ts.length * h ≤ 1000000 →
  Calls Try.prog 40 #[.pointer (some ⟨rb, 0, none⟩), .slice a ts.length cp, .int .i64 (p : Int)] W fun e W' => ∃ (s : Nat) (L' : List Ar) (g' cap' : Nat), e = .returned (.int .i64 (s : Int)) ∧ Frozen base W W' rb mb g L h (dropT p ts) s L' g' cap'
end Go.Proofs.Ytbkedgpligcicaa

namespace Go.Proofs.Ytbkedgpligcicaa
open Go
set_option linter.unusedVariables false

/-! The states of a frozen number, in the order in which they are met: plain. -/
theorem IsF.chain {L : List Ar} {s : Nat} (h : IsF L s) : ChainIs L (lksF L s) (s / 2) := by
  obtain ⟨d, T, hr, hd⟩ := h
  cases d with
  | zero =>
    obtain ⟨_, rfl⟩ := hd
    rfl
  | succ d =>
    obtain ⟨n, rfl, g, h2, _⟩ := hd
    have e : lksF L (frz n (finT T)) = lkG T g := by
      rw [lksF, frz_half]
      exact arcsC_of h2 (by rw [lkG, List.length_map]; exact labelsT_lenF T)
    rw [e, frz_half]
    exact h2
theorem IsF.le {L : List Ar} {s : Nat} (h : IsF L s) : s ≤ 2 * L.length + 1 := by
  obtain ⟨d, T, hr, hd⟩ := h
  exact hd.le
theorem IsF.lks256 {L : List Ar} {s : Nat} (h : IsF L s) : (lksF L s).length ≤ 256 := by
  obtain ⟨d, T, hr, hd⟩ := h
  obtain ⟨g, h1, _, _⟩ := hd.lks
  rw [h1, lkG, List.length_map]
  exact labelsT_lenF T
theorem IsF.to {L : List Ar} {s : Nat} (h : IsF L s) {k : Nat} {p : Lk} (hk : (lksF L s)[k]? = some p) : ∃ y : Nat, p.2 = (y : Int) ∧ y ∈ nxF L s ∧ (nxF L s)[k]? = some y ∧ 0 ≤ p.1 ∧ p.1 ≤ 255 := by
  obtain ⟨d, T, hr, hd⟩ := h
  obtain ⟨g, h1, _, _⟩ := hd.lks
  have hk' := hk
  rw [h1, lkG, List.getElem?_map] at hk'
  cases hx : (labelsT T)[k]? with
  | none => rw [hx] at hk'; cases hk'
  | some n =>
    rw [hx] at hk'
    simp only [Option.map_some, Option.some.injEq] at hk'
    subst hk'
    have hn := (labelsT_mem.1 (List.mem_of_getElem? hx)).1
    have e : (nxF L s)[k]? = some (g n) := by rw [nxF, List.getElem?_map, hk]; simp
    exact ⟨g n, rfl, List.mem_of_getElem? e, e, by simp, by dsimp only; omega⟩
def arcT (o : List Nat) (p : Lk) : Ar := (p.1, ((o.idxOf p.2.toNat : Nat) : Int), (0 : Int))
theorem stF_eq (L : List Ar) (o : List Nat) (s : Nat) : stF L o s = (decide (s % 2 = 1), (lksF L s).map (arcT o)) := rfl
theorem idxOf_appF {r : List Nat} {x : Nat} : ∀ {o : List Nat}, x ∈ o → (o ++ r).idxOf x = o.idxOf x
  | [], h => by simp at h
  | a :: t, h => by
    rw [List.cons_append, List.idxOf_cons, List.idxOf_cons]
    by_cases e : a = x
    · subst e; simp
    · have hx : x ∈ t := by
        rcases List.mem_cons.1 h with h | h
        · exact absurd h.symm e
        · exact h
      rw [idxOf_appF hx]
theorem arcs_app {o r : List Nat} {l : List Lk} (h : ∀ p ∈ l, p.2.toNat ∈ o) : l.map (arcT (o ++ r)) = l.map (arcT o) :=
  List.map_congr_left fun p hp => by unfold arcT; rw [idxOf_appF (h p hp)]
theorem nxF_mem {L : List Ar} {s : Nat} {p : Lk} (h : p ∈ lksF L s) : p.2.toNat ∈ nxF L s := List.mem_map.2 ⟨p, h, rfl⟩
theorem stF_app {L : List Ar} {o r : List Nat} {s : Nat} (h : ∀ y ∈ nxF L s, y ∈ o) : stF L (o ++ r) s = stF L o s := by
  rw [stF_eq, stF_eq, arcs_app fun p hp => h _ (nxF_mem hp)]
/-- What is known when i states are told. -/
structure PlO (L : List Ar) (r i : Nat) (o : List Nat) : Prop where
  bfs : bfs (nxF L) i 0 [r] = o
  nodup : o.Nodup
  allF : ∀ x ∈ o, IsF L x
  closed : ∀ j, j < i → ∀ x, o[j]? = some x → ∀ y ∈ nxF L x, y ∈ o
theorem PlO.start {L : List Ar} {r : Nat} (h : IsF L r) : PlO L r 0 [r] := by
  refine ⟨rfl, by simp, fun x hx => ?_, fun j hj => by omega⟩
  have e : x = r := by simpa using hx
  rw [e]; exact h
theorem PlO.few {L : List Ar} {r i : Nat} {o : List Nat} (h : PlO L r i o) : o.length ≤ 2 * L.length + 2 := by
  have hs := h.nodup.length_le_of_subset (l₂ := List.range (2 * L.length + 2)) (fun x hx => by
    have := (h.allF x hx).le
    simp; omega)
  simpa using hs
theorem PlO.next {L : List Ar} {r i x : Nat} {o : List Nat} (h : PlO L r i o) (hx : o[i]? = some x) : PlO L r (i + 1) (meets o (nxF L x)) := by
  have hxm := List.mem_of_getElem? hx
  refine ⟨bfs_step h.bfs hx, meets_nodup h.nodup, fun y hy => ?_, fun j hj y hy z hz => ?_⟩
  · rcases meets_mem.1 hy with hy | hy
    · exact h.allF y hy
    · exact (h.allF x hxm).next y hy
  · obtain ⟨q, hq⟩ := meets_pre (nxF L x) o
    have hil := (List.getElem?_eq_some_iff.1 hx).1
    rw [hq, List.getElem?_append_left (by omega)] at hy
    rw [meets_mem]
    by_cases hji : j = i
    · subst hji
      rw [hx] at hy
      cases hy
      exact Or.inr hz
    · exact Or.inl (h.closed j (by omega) y hy z hz)
theorem PlO.done {L : List Ar} {r i : Nat} {o : List Nat} (h : PlO L r i o) (hi : o.length ≤ i) : IsBfs (nxF L) r o := ⟨i, h.bfs, hi⟩
theorem PlO.states {L : List Ar} {r i x : Nat} {o : List Nat} (h : PlO L r i o) (hx : o[i]? = some x) :
    ((meets o (nxF L x)).take (i + 1)).map (stF L (meets o (nxF L x))) = ((o.take i).map (stF L o)) ++ [stF L (meets o (nxF L x)) x] := by
  obtain ⟨q, hq⟩ := meets_pre (nxF L x) o
  have hil := (List.getElem?_eq_some_iff.1 hx).1
  have e1 : (meets o (nxF L x)).take (i + 1) = o.take i ++ [x] := by
    rw [hq, List.take_append_of_le_length (by omega), List.take_add_one, hx]
    rfl
  rw [e1, List.map_append]
  congr 1
  refine List.map_congr_left fun y hy => ?_
  obtain ⟨j, hj⟩ := List.mem_iff_getElem?.1 hy
  have hjl := (List.getElem?_eq_some_iff.1 hj).1
  rw [List.length_take] at hjl
  rw [List.getElem?_take, if_pos (by omega)] at hj
  rw [hq]
  exact stF_app (h.closed j (by omega) y hj)
end Go.Proofs.Ytbkedgpligcicaa

namespace Go.Proofs.Ytbkedgpligcicaa
open Go
set_option linter.unusedVariables false

/-! The way of a text through a dictionary, in plain words. -/
/-- What stands behind the bytes p. -/
def subs : Tx → List Tx → List Tx
  | [], L => L
  | b :: p, L => subs p (subT b.toNat L)
/-- How many texts come ahead of t. -/
def rk (t : Tx) (L : List Tx) : Nat := L.countP fun s => ltT s t
theorem rk_nil (L : List Tx) : rk [] L = 0 := by
  unfold rk
  rw [List.countP_eq_zero]
  intro s _
  cases s <;> simp [ltT]
theorem rk_cons (b : UInt8) (r : Tx) : ∀ L : List Tx, rk (b :: r) L = aheadT b.toNat L + rk r (subT b.toNat L)
  | [] => rfl
  | s :: L => by
    have ih := rk_cons b r L
    unfold rk aheadT subT at ih ⊢
    rw [List.countP_cons, List.countP_cons, List.filterMap_cons, ih]
    cases s with
    | nil => simp [ltT, isAhead, tailIf]; omega
    | cons c q =>
      rcases Nat.lt_trichotomy c.toNat b.toNat with h | h | h
      · have h2 : ¬ c.toNat = b.toNat := by omega
        simp [ltT, isAhead, tailIf, h, h2]; omega
      · have h1 : c = b := UInt8.toNat_inj.1 h
        subst h1
        simp only [ltT, isAhead, tailIf, Nat.lt_irrefl, decide_false, Bool.false_or, beq_self_eq_true, Bool.true_and, if_true, List.countP_cons]
        simp; omega
      · have h2 : ¬ c.toNat = b.toNat := by omega
        have h3 : ¬ c = b := fun e => h2 (by rw [e])
        have h4 : ¬ c.toNat < b.toNat := by omega
        simp [ltT, isAhead, tailIf, h2, h3, h4]
theorem subs_snoc (b : UInt8) : ∀ (p : Tx) (L : List Tx), subs (p ++ [b]) L = subT b.toNat (subs p L)
  | [], L => rfl
  | a :: p, L => by rw [List.cons_append, subs, subs, subs_snoc b p]
theorem rk_snoc (b : UInt8) : ∀ (p : Tx) (L : List Tx), rk (p ++ [b]) L = rk p L + aheadT b.toNat (subs p L)
  | [], L => by rw [List.nil_append, rk_cons, rk_nil, rk_nil, subs]; omega
  | a :: p, L => by rw [List.cons_append, rk_cons, rk_snoc b p, rk_cons, subs]; omega
theorem subs_mem : ∀ {p : Tx} {L : List Tx} {t : Tx}, t ∈ subs p L ↔ p ++ t ∈ L
  | [], L, t => Iff.rfl
  | a :: p, L, t => by
    rw [subs, subs_mem, subT_mem, List.cons_append]
    constructor
    · rintro ⟨c, hc, h⟩
      rw [UInt8.toNat_inj.1 hc] at h
      exact h
    · exact fun h => ⟨a, rfl, h⟩
theorem subs_rise : ∀ {p : Tx} {L : List Tx}, RiseT L → RiseT (subs p L)
  | [], L, h => h
  | a :: p, L, h => by show RiseT (subs p (subT a.toNat L)); exact subs_rise (subT_rise h)
theorem subs_nil : ∀ (p : Tx), subs p [] = []
  | [] => rfl
  | a :: p => subs_nil p
theorem subs_append : ∀ (p q : Tx) (L : List Tx), subs (p ++ q) L = subs q (subs p L)
  | [], q, L => rfl
  | a :: p, q, L => by rw [List.cons_append, subs, subs, subs_append p q]
/-- In a rising list the place of a text is the number of those ahead of it. -/
theorem rise_rk : ∀ {L : List Tx} {t : Tx}, RiseT L → t ∈ L → L.idxOf t = rk t L
  | [], t, _, h => by simp at h
  | s :: L, t, hr, h => by
    have hr' := List.pairwise_cons.1 hr
    unfold rk
    rw [List.idxOf_cons, List.countP_cons]
    by_cases e : s = t
    · subst e
      rw [beq_self_eq_true, cond_true, ltT_irr]
      have : L.countP (fun x => ltT x s) = 0 := by
        rw [List.countP_eq_zero]
        intro x hx hlt
        have h1 := hr'.1 x hx
        have := ltT_trans h1 hlt
        rw [ltT_irr] at this
        cases this
      rw [this]; rfl
    · have ht : t ∈ L := by
        rcases List.mem_cons.1 h with h | h
        · exact absurd h.symm e
        · exact h
      have e2 : (s == t) = false := beq_false_of_ne e
      rw [e2, cond_false, rise_rk hr'.2 ht, hr'.1 t ht]
      rfl
theorem idx_find : ∀ {L : List Tx} {t : Tx} {i : Nat}, i < L.length → L.getD i [] = t → (∀ j, j < i → L.getD j [] ≠ t) → L.idxOf t = i
  | [], t, i, hi, _, _ => by simp at hi
  | s :: L, t, 0, _, he, _ => by
    simp at he
    subst he
    simp
  | s :: L, t, i + 1, hi, he, hn => by
    have h0 : s ≠ t := by have := hn 0 (by omega); simpa using this
    have e2 : (s == t) = false := beq_false_of_ne h0
    rw [List.idxOf_cons, e2, cond_false, idx_find (L := L) (t := t) (i := i) (by simpa using hi) (by simpa using he) (fun j hj => by have := hn (j + 1) (by omega); simpa using this)]
theorem find_not {L : List Tx} {t : Tx} (hn : ∀ j, j < L.length → L.getD j [] ≠ t) : t ∉ L := fun h => by
  obtain ⟨j, hj, rfl⟩ := List.getElem_of_mem h
  exact hn j hj (getD_at hj)
/-! A state of a dictionary. -/
section
variable {ts : List Tx} {ord : List (List Tx)}
theorem dict_at (hb : IsBfs nextT ts ord) {L : List Tx} (hL : L ∈ ord) : (ord.map (stOf ord)).getD (ord.idxOf L) st0 = stOf ord L := by
  rw [List.getD_eq_getElem?_getD, List.getElem?_map, idxOf_at hL]; rfl
theorem dict_next (hb : IsBfs nextT ts ord) {L : List Tx} (hL : L ∈ ord) {n : Nat} (hn : n ∈ labelsT L) : subT n L ∈ ord := hb.closed L hL _ (List.mem_map.2 ⟨n, hn, rfl⟩)
theorem dict_root (hb : IsBfs nextT ts ord) : ts ∈ ord ∧ ord.idxOf ts = 0 := by
  have h := hb.head
  refine ⟨List.mem_of_getElem? h, idxOf_of hb.nodup h⟩
/-- The arcs of a set: the k-th one. -/
theorem stOf_at {L : List Tx} {k : Nat} {n : Nat} (h : (labelsT L)[k]? = some n) : (stOf ord L).2[k]? = some ((n : Int), ((ord.idxOf (subT n L) : Nat) : Int), ((aheadT n L : Nat) : Int)) := by
  simp [stOf, h]
end
end Go.Proofs.Ytbkedgpligcicaa
