import Derived.RangeFuncNested
import Derived.RangeFuncBound
import Derived.RangeFuncCalls
import Derived.RangeFuncLeaves
import Derived.RangeFuncFrom
import Derived.Shelf.Abstract
import Derived.Shelf.RegionOpen
import Derived.WalkKit
import Derived.OwnWalkIn
import Derived.TacticsInMore
import Derived.LoopNIn
import Derived.LoopIn
import Derived.Test.YtbkedgpligcicaaDictJ01
import Derived.Test.YtbkedgpligcicaaDictJ04
import Derived.Test.YtbkedgpligcicaaDictJ07
import Derived.Maps.Keyed
import Derived.DeepKeys4
import Derived.Carry
import Derived.Deep.AppendLies
import Derived.Deep.RegionLaw
namespace Go.Proofs.Ytbkedgpligcicaa
open Go Go.RowKit Go.Shelf
set_option linter.unusedVariables false
attribute [local go_sem] Oper.semAt_some

/-- What an iterator has captured stays, and what lay ahead of all. -/
def KpB (n0 Bs : Nat) (W W' : World) : Prop := W'.heap[Bs]? = W.heap[Bs]? ∧ Below n0 W W'
theorem KpB.refl (n0 Bs : Nat) (W : World) : KpB n0 Bs W W := ⟨rfl, Below.refl _ _⟩
theorem KpB.trans {n0 Bs : Nat} {A B C : World} (h : KpB n0 Bs A B) (k : KpB n0 Bs B C) : KpB n0 Bs A C := ⟨k.1.trans h.1, h.2.trans k.2⟩
theorem cellH {W W' : World} {g : Nat} (h : W'.heap[g]? = W.heap[g]?) (k : Nat) : W'.cell? ⟨g, k, none⟩ = W.cell? ⟨g, k, none⟩ := by simp [World.cell?, h]
def arcOf (l : List Ar) (x : Nat) : Array Value := #[.int .i64 (x : Int), .agg #[.int .i64 (l.getD x ar0).1, .int .i64 (l.getD x ar0).2.1, .int .i64 (l.getD x ar0).2.2]]
theorem rev_step (c : Nat) : (List.range (c + 1)).reverse = c :: (List.range c).reverse := by rw [List.range_succ, List.reverse_append]; rfl

set_option maxRecDepth 100000 in
set_option maxHeartbeats 2000000 in
theorem back1_any (F : Fence) (n : Nat) (hF : F.fn 106) (hro : F.round = none) (hn : 1 ≤ n) (l Bs n0 : Nat) (a : Option Addr) (arcs : List Ar) (cap : Nat) (hlen : arcs.length ≤ 1048576) (J Jx : List Nat → World → Prop) (Bb : Nat) (hJa : AbidesFrom Bb J)
    (hY : ∀ pre x W, J pre W → pre.length < arcs.length → YieldAt F (n - 1) Try.prog l (arcOf arcs x) W fun e W' =>
      (e = .returned (.bool true) ∧ J (pre ++ [x]) W' ∧ KpB n0 Bs W W') ∨ (e = .returned (.bool false) ∧ Jx (pre ++ [x]) W'))
    (W : World) (hBs : W.cell? ⟨Bs, 0, none⟩ = some (.slice a arcs.length cap)) (hold : ∀ W', Below n0 W W' → HoldA W' a arcs) (h0 : J [] W) :
    CallsIn F n Try.prog 106 #[.func (.yield l) #[] #[], .pointer (some ⟨Bs, 0, none⟩)] W fun e W' => (∃ v, e = .returned v) ∧
      ((∃ ys, ys = (List.range arcs.length).reverse ∧ J ys W') ∨ (∃ pre : List Nat, True ∧ Jx pre W')) := by
  refine callsIn_of_wp Try.func106 rfl hF ?_ hro
  simp only [Try.ntmps106, List.size_toArray, List.length_cons, List.length_nil, Nat.reduceAdd, Nat.reduceSub, Array.replicate_succ, Array.replicate_zero, List.push_toArray, List.append_toArray, List.nil_append, List.cons_append]
  have HH := hidd hold
  clear hold
  gi_wp2
  gi_loopw [3] (fun i wr => ∃ (c : Nat) (pre : List Nat), i = .int .i64 ((c : Int) - 1) ∧ c ≤ arcs.length ∧ pre ++ (List.range c).reverse = (List.range arcs.length).reverse ∧ J pre wr ∧ KpB n0 Bs W wr) (fun i _ => (intOf i + 1).toNat)
  case atStart => exact ⟨arcs.length, [], by go_num, Nat.le_refl _, rfl, h0, KpB.refl _ _ _⟩
  case round =>
    obtain ⟨c, pre, rfl, hat, hpre, hJs, hkp⟩ := hrel
    have c1 := (cellH hkp.1 0).trans hBs
    have Hkp := hidd hkp
    have Hpre := hidd hpre
    have HJ := hidd hJs
    clear hkp hpre hJs
    by_cases hc : c = 0
    · subst hc
      have HE : Hid (pre = (List.range arcs.length).reverse) := by
        show _ = _
        have := Hpre.out
        simpa using this
      gi_wp2
      go_end0
      refine ⟨⟨_, rfl⟩, .inl ?_⟩
      have hj := HJ.out
      rw [HE.out] at hj
      first | exact hj | exact ⟨_, rfl, hj⟩
    · obtain ⟨x, rfl⟩ : ∃ x, c = x + 1 := ⟨c - 1, by omega⟩
      have Hst := hidd (rev_step x)
      have hpl : pre.length < arcs.length := by have := congrArg List.length Hpre.out; simp at this; omega
      have hxl : x < arcs.length := by omega
      have hxz : ((x + 1 : Nat) : Int) - 1 = (x : Int) := by omega
      rw [hxz]
      clear hxz hat hc
      have hxlz : (x : Int) < (arcs.length : Int) := by omega
      obtain ⟨b, off, rfl, hb, hcell⟩ := (HH.out wr Hkp.out.2).resolve_left (fun h => by rw [h] at hxl; simp at hxl)
      obtain ⟨x0, x1, x2⟩ := hcell x hxl
      clear hcell
      have hJd : J pre wr.drew := hJa pre wr wr.drew none HJ.out ⟨rfl, rfl, rfl, Nat.le_refl _, fun _ _ _ => rfl⟩ (fun r e => by cases e)
      obtain ⟨fn, tmps, assign, body, hy, hR⟩ := hY pre x wr HJ.out hpl
      rw [arcOf] at hy
      generalize arcs.getD x ar0 = p at *
      clear hJd
      gi_wp2
      refine hR.mono ?_
      rintro e W3 (⟨rfl, hJ3, hk3⟩ | ⟨rfl, hJx3⟩)
      · gi_wp2
        go_roundw
        · exact ⟨x, pre ++ [x], by go_num, by omega, by rw [List.append_assoc, ← Hpre.out, Hst.out]; rfl, hJ3, Hkp.out.trans hk3⟩
        · simp [intOf]
      · gi_wp2
        refine bodyPost_ret (results_none rfl _ _ _) rfl ?_
        exact ⟨⟨_, rfl⟩, .inr ⟨_, trivial, hJx3⟩⟩
theorem back_any (F : Fence) (n : Nat) (hF : F.fn 98) (hro : F.round = none) (a : Option Addr) (len cap : Nat) (w : World) :
    CallsIn F n Try.prog 98 #[.slice a len cap] w fun e w' => e = .returned (.func (.func 106) #[] #[.pointer (some ⟨w.heap.size, 0, none⟩)]) ∧ w' = w.alloc (.cells #[.slice a len cap] 80) := by
  refine callsIn_of_wp Try.func98 rfl hF ?_ hro
  simp only [Try.ntmps98, List.size_toArray, List.length_cons, List.length_nil, Nat.reduceAdd, Nat.reduceSub, Array.replicate_succ, Array.replicate_zero, List.push_toArray, List.append_toArray, List.nil_append, List.cons_append]
  gi_wp2
  go_ret
  exact ⟨rfl, rfl⟩
theorem back_stops (F : Fence) (n : Nat) (hF : F.fn 106) (hro : F.round = none) (hn : 1 ≤ n) (Bs n0 : Nat) (a : Option Addr) (arcs : List Ar) (cap : Nat) (hlen : arcs.length ≤ 1048576) (w : World)
    (hBs : Bs < w.heap.size) (hn0 : n0 ≤ w.heap.size) (hc1 : w.cell? ⟨Bs, 0, none⟩ = some (.slice a arcs.length cap)) (hold : ∀ W', Below n0 w W' → HoldA W' a arcs) :
    SeqStopsK F n Try.prog 106 #[.pointer (some ⟨Bs, 0, none⟩)] (fun x : Nat => arcOf arcs x) (KpB n0 Bs) (fun ys => ys = (List.range arcs.length).reverse) (fun _ => True) arcs.length w := fun l J Jx W hW hJ _ hY h0 => by
  have k1 := (hW.cell (p := ⟨Bs, 0, none⟩) hBs).trans hc1
  exact back1_any F n hF hro hn l Bs n0 a arcs cap hlen J Jx _ hJ hY W k1 (fun W' h => hold W' ((hW.mono hn0).trans h)) h0
end Go.Proofs.Ytbkedgpligcicaa

namespace Go.Proofs.Ytbkedgpligcicaa
open Go
set_option linter.unusedVariables false

/-! Chains of links. -/
abbrev Lk := Int × Int
def lkOf (a : Ar) : Lk := (a.1, a.2.1)
def ChainIs (L : List Ar) : List Lk → Nat → Prop
  | [], n => n = 0
  | p :: t, n => ∃ m r, n = m + 1 ∧ ChainIs L t r ∧ L[m]? = some (p.1, p.2, (r : Int))
theorem ChainIs.mono {L L' : List Ar} (h : L <+: L') : ∀ {l : List Lk} {n : Nat}, ChainIs L l n → ChainIs L' l n
  | [], n, hc => hc
  | p :: t, n, ⟨m, r, h1, h2, h3⟩ => by
    refine ⟨m, r, h1, ChainIs.mono h h2, ?_⟩
    obtain ⟨q, rfl⟩ := h
    rw [List.getElem?_append_left (List.getElem?_eq_some_iff.1 h3).1]
    exact h3
theorem ChainIs.le {L : List Ar} : ∀ {l : List Lk} {n : Nat}, ChainIs L l n → n ≤ L.length
  | [], n, hc => by cases hc; exact Nat.zero_le _
  | p :: t, n, ⟨m, r, h1, h2, h3⟩ => by
    have := (List.getElem?_eq_some_iff.1 h3).1
    omega
theorem ChainIs.fn {L : List Ar} (hn : L.Nodup) : ∀ {l : List Lk} {n n' : Nat}, ChainIs L l n → ChainIs L l n' → n = n'
  | [], n, n', h, h' => by cases h; cases h'; rfl
  | p :: t, n, n', ⟨m, r, h1, h2, h3⟩, ⟨m', r', h1', h2', h3'⟩ => by
    have hr := ChainIs.fn hn h2 h2'
    subst hr
    have := (List.getElem?_inj (List.getElem?_eq_some_iff.1 h3).1 hn).1 (h3.trans h3'.symm)
    omega
theorem ChainIs.inj {L : List Ar} : ∀ {l l' : List Lk} {n : Nat}, ChainIs L l n → ChainIs L l' n → l = l'
  | [], [], n, _, _ => rfl
  | [], p :: t, n, h, ⟨m, r, h1, _⟩ => by cases h; omega
  | p :: t, [], n, ⟨m, r, h1, _⟩, h => by cases h; omega
  | p :: t, p' :: t', n, ⟨m, r, h1, h2, h3⟩, ⟨m', r', h1', h2', h3'⟩ => by
    have e : m = m' := by omega
    subst e
    rw [h3] at h3'
    simp only [Option.some.injEq, Prod.mk.injEq] at h3'
    obtain ⟨e1, e2, e3⟩ := h3'
    have er : r = r' := by omega
    subst er
    rw [ChainIs.inj h2 h2']
    congr 1
    exact Prod.ext e1 e2
/-- What allDiffer tells. -/
def lks (S : List St) (i : Nat) : List Lk := (arcsAt S i).map lkOf
def DiffP (S : List St) (n : Nat) : Prop := ∀ i j, i < n → j < n → finAt S i = finAt S j → lks S i = lks S j → i = j
theorem DiffP.snoc {S : List St} {n : Nat} (h : DiffP S n) (h2 : ∀ i, i < n → ¬ (finAt S i = finAt S n ∧ lks S i = lks S n)) : DiffP S (n + 1) := by
  intro i j hi hj h3 h4
  by_cases h5 : i = n
  · by_cases h6 : j = n
    · omega
    · subst h5; exact absurd ⟨h3.symm, h4.symm⟩ (h2 j (by omega))
  · by_cases h6 : j = n
    · subst h6; exact absurd ⟨h3, h4⟩ (h2 i (by omega))
    · exact h i j (by omega) (by omega) h3 h4
/-- The marks of what was seen. -/
def frz (n : Nat) (f : Bool) : Nat := 2 * n + (if f then 1 else 0)
theorem frz_inj {n m : Nat} {f g : Bool} (h : frz n f = frz m g) : n = m ∧ f = g := by
  cases f <;> cases g <;> simp [frz] at h ⊢ <;> omega
def SeenOK (S : List St) (L : List Ar) (k : Nat) (Z : List Bool) : Prop := ∀ x, Z.getD x false = true ↔ ∃ i n, i < k ∧ ChainIs L (lks S i) n ∧ x = frz n (finAt S i)
def AllIn (S : List St) (L : List Ar) (k : Nat) : Prop := ∀ i, i < k → ∃ n, ChainIs L (lks S i) n
theorem SeenOK.mono {S : List St} {L L' : List Ar} {k : Nat} {Z : List Bool} (h : SeenOK S L k Z) (ha : AllIn S L k) (hp : L <+: L') (hn : L'.Nodup) : SeenOK S L' k Z := by
  intro x
  rw [h x]
  constructor
  · rintro ⟨i, n, h1, h2, h3⟩; exact ⟨i, n, h1, h2.mono hp, h3⟩
  · rintro ⟨i, n, h1, h2, h3⟩
    obtain ⟨m, hm⟩ := ha i h1
    have := ChainIs.fn hn (hm.mono hp) h2
    subst this
    exact ⟨i, m, h1, hm, h3⟩
theorem SeenOK.hit {S : List St} {L : List Ar} {k n : Nat} {Z : List Bool} (h : SeenOK S L k Z) (hc : ChainIs L (lks S k) n) (hz : Z.getD (frz n (finAt S k)) false = true) : ∃ i, i < k ∧ finAt S i = finAt S k ∧ lks S i = lks S k := by
  obtain ⟨i, m, h1, h2, h3⟩ := (h _).1 hz
  obtain ⟨rfl, e⟩ := frz_inj h3
  exact ⟨i, h1, e.symm, h2.inj hc⟩
theorem SeenOK.miss {S : List St} {L : List Ar} {k n : Nat} {Z : List Bool} (h : SeenOK S L k Z) (hL : L.Nodup) (ha : AllIn S L k) (hc : ChainIs L (lks S k) n) (hz : ¬ Z.getD (frz n (finAt S k)) false = true) : ∀ i, i < k → ¬ (finAt S i = finAt S k ∧ lks S i = lks S k) := by
  rintro i hi ⟨h1, h2⟩
  obtain ⟨m, hm⟩ := ha i hi
  rw [h2] at hm
  have := ChainIs.fn hL hm hc
  subst this
  exact hz ((h _).2 ⟨i, m, hi, by rw [h2]; exact hm, by rw [h1]⟩)
theorem SeenOK.set {S : List St} {L : List Ar} {k n : Nat} {Z : List Bool} (h : SeenOK S L k Z) (hL : L.Nodup) (hc : ChainIs L (lks S k) n) (hl : frz n (finAt S k) < Z.length) : SeenOK S L (k + 1) (Z.set (frz n (finAt S k)) true) := by
  intro x
  have e : (Z.set (frz n (finAt S k)) true).getD x false = if x = frz n (finAt S k) then true else Z.getD x false := by
    by_cases hx : x = frz n (finAt S k)
    · subst hx; simp [hl]
    · rw [if_neg hx]
      rw [List.getD_eq_getElem?_getD, List.getD_eq_getElem?_getD, List.getElem?_set, if_neg (fun e : frz n (finAt S k) = x => hx e.symm)]
  rw [e]
  by_cases hx : x = frz n (finAt S k)
  · rw [if_pos hx]
    exact ⟨fun _ => ⟨k, n, by omega, hc, hx⟩, fun _ => rfl⟩
  · rw [if_neg hx, h x]
    constructor
    · rintro ⟨i, m, h1, h2, h3⟩; exact ⟨i, m, by omega, h2, h3⟩
    · rintro ⟨i, m, h1, h2, h3⟩
      by_cases hi : i = k
      · subst hi
        have := ChainIs.fn hL h2 hc
        subst this
        exact absurd h3 hx
      · exact ⟨i, m, by omega, h2, h3⟩
theorem AllIn.snoc {S : List St} {L L' : List Ar} {k n : Nat} (h : AllIn S L k) (hp : L <+: L') (hc : ChainIs L' (lks S k) n) : AllIn S L' (k + 1) := by
  intro i hi
  by_cases hk : i = k
  · subst hk; exact ⟨n, hc⟩
  · obtain ⟨m, hm⟩ := h i (by omega)
    exact ⟨m, hm.mono hp⟩
theorem seen_new (S : List St) (m : Nat) : SeenOK S [] 0 (List.replicate m false) := by
  intro x
  constructor
  · intro h
    rw [List.getD_eq_getElem?_getD, List.getElem?_replicate] at h
    by_cases hx : x < m
    · simp [hx] at h
    · simp [hx] at h
  · rintro ⟨i, n, h, _⟩; omega
end Go.Proofs.Ytbkedgpligcicaa

namespace Go.Proofs.Ytbkedgpligcicaa
open Go
set_option linter.unusedVariables false

/-- What an arc's Ahead must be. -/
def ahN (fin : Bool) (E : List Nat) (arcs : List Ar) (x : Nat) : Nat := (if fin then 1 else 0) + sumE (valE E) (arcs.take x)
/-- What endingsOf tells of states that it takes. -/
structure EndOK (S : List St) (E : List Nat) : Prop where
  len : E.length = S.length
  met : metOK S = true
  fin0 : finAt S 0 = false
  ends : (S.length = 1 ∧ arcsAt S 0 = [] ∧ E = [0]) ∨ ∃ G, TalOK S E G ∧ 0 < valE E 0 ∧ DiffP S S.length ∧ ∀ e g, Sane S e g → Agree S E G e g
theorem EndOK.range {S : List St} {E : List Nat} (h : EndOK S E) : 1 ≤ S.length ∧ S.length ≤ 16384 := ((metOK_iff S).1 h.met).1
theorem EndOK.arcs {S : List St} {E : List Nat} (h : EndOK S E) : ∀ j, j < S.length → ArcsOK S j := ((metOK_iff S).1 h.met).2.1
theorem EndOK.bfs {S : List St} {E : List Nat} (h : EndOK S E) : IsBfs (toAt S) 0 (List.range S.length) := ((metOK_iff S).1 h.met).2.2
theorem S_one {S : List St} (h1 : S.length = 1) (h2 : finAt S 0 = false) (h3 : arcsAt S 0 = []) : S = [(false, [])] := by
  match S, h1 with
  | [(f, l)], _ =>
    have e1 : f = false := h2
    have e2 : l = [] := h3
    rw [e1, e2]
def AheadsOK (S : List St) (E : List Nat) : Prop := ∀ i, i < S.length → ∀ k a, (arcsAt S i)[k]? = some a → a.2.2 = ((ahN (finAt S i) E (arcsAt S i) k : Nat) : Int)
theorem sumE_le_of {E : List Nat} {l : List Ar} {k : Nat} : sumE (valE E) (l.take k) ≤ sumE (valE E) l := by
  induction l generalizing k with
  | nil => simp
  | cons a t ih =>
    cases k with
    | zero => simp [sumE]
    | succ k =>
      have := ih (k := k)
      simp only [sumE, List.take_succ_cons, List.map_cons, List.sum_cons] at this ⊢
      omega
theorem EndOK.bound {S : List St} {E : List Nat} (h : EndOK S E) {i : Nat} (hi : i < S.length) (x : Nat) : ahN (finAt S i) E (arcsAt S i) x ≤ 4097 := by
  rcases h.ends with ⟨h1, h2, h3⟩ | ⟨G, hT, h0, _, _⟩
  · have : i = 0 := by omega
    subst this
    rw [ahN, h2]
    simp [sumE]
    split <;> omega
  · have hp := hT.ends_all h0 (by have := h.range; omega) (fun j hj a ha => ((h.arcs j hj).2 a ha).2.2.2) h.bfs i hi
    have h1 := hT.ends i hi hp
    have h2 := (hT.most i hi hp).1
    have h3 := sumE_le_of (E := E) (l := arcsAt S i) (k := x)
    rw [ahN]
    omega
theorem okD_iff {c : Int} {S : List St} {E : List Nat} (h : EndOK S E) : (∃ ts, IsDict (c, S) ts) ↔ c = ((valE E 0 : Nat) : Int) ∧ AheadsOK S E := by
  have hr := h.range
  rcases h.ends with ⟨h1, h2, h3⟩ | ⟨G, hT, h0, hD, hA⟩
  · have hS := S_one h1 h.fin0 h2
    subst h3
    constructor
    · rintro ⟨ts, hts⟩
      by_cases hn : ts = []
      · subst hn
        have := IsDict.none.1 hts
        simp only [Prod.mk.injEq] at this
        refine ⟨this.1, ?_⟩
        intro i hi k a ha
        have : i = 0 := by omega
        subst this
        rw [h2] at ha
        simp at ha
      · have hc := hts.checks hn
        have h4 := hc.least 0 (by omega)
        have h5 := hc.ends 0 (by omega)
        rw [h.fin0, h2] at h5
        simp [sumE] at h5
        simp [h5] at h4
    · rintro ⟨h4, _⟩
      refine ⟨[], IsDict.none.2 ?_⟩
      rw [h4, hS]
      rfl
  · have hpos := hT.ends_all h0 (by omega) (fun j hj a ha => ((h.arcs j hj).2 a ha).2.2.2) h.bfs
    constructor
    · rintro ⟨ts, hts⟩
      have hn : ts ≠ [] := by
        rintro rfl
        have := IsDict.none.1 hts
        simp only [Prod.mk.injEq] at this
        have h4 := hT.ends 0 (by omega) h0
        rw [this.2] at h4
        simp [finAt, arcsAt, sumE] at h4
        omega
      have hc := hts.checks hn
      have hag := hA _ _ (hts.sane hn)
      have heq : ∀ i, i < S.length → valE E i = (lang S i).length := fun i hi => (hag i hi (hpos i hi)).1
      refine ⟨?_, ?_⟩
      · rw [hc.count, heq 0 (by omega)]
      · intro i hi k a ha
        rw [hc.ahead i hi k a ha, ahN]
        congr 2
        refine (sumE_congr fun b hb => ?_).symm
        exact heq _ ((h.arcs i hi).2 b (List.mem_of_mem_take hb)).2.2.2
    · rintro ⟨h4, h5⟩
      refine ⟨lang S 0, Checks.dict (e := valE E) (g := valE G) ?_⟩
      refine ⟨hr.2, hr.1, fun i hi => (h.arcs i hi).1, fun i hi a ha => ⟨((h.arcs i hi).2 a ha).1, ((h.arcs i hi).2 a ha).2.1⟩, fun i hi a ha => ((h.arcs i hi).2 a ha).2.2, h.bfs, ?_, fun i hi => hpos i hi, ?_, ?_, ?_, ?_, ?_, h4, h.fin0⟩
      · exact fun i hi => hT.ends i hi (hpos i hi)
      · exact (hT.most 0 (by omega) h0).1
      · exact fun i hi a ha => (hT.next i hi (hpos i hi) a ha).2
      · exact fun i hi => (hT.most i hi (hpos i hi)).2
      · intro i j hi hj h6 h7
        exact hD i j hi hj h6 h7
      · exact h5
end Go.Proofs.Ytbkedgpligcicaa

namespace Go.Proofs.Ytbkedgpligcicaa
open Go Go.RowKit Go.Shelf
set_option linter.unusedVariables false
attribute [local go_sem] Oper.semAt_some

/-- A slice of arcs, of which the Aheads are told by nobody. -/
def HoldTo (w : World) (a : Option Addr) (l : List Ar) : Prop :=
  l = [] ∨ ∃ b off, a = some ⟨b, off, none⟩ ∧ ∀ k, k < l.length → w.cell? ⟨b, off + k * 3, none⟩ = some (.int .i64 (l.getD k ar0).1) ∧ w.cell? ⟨b, off + k * 3 + 1, none⟩ = some (.int .i64 (l.getD k ar0).2.1) ∧ ∃ v, w.cell? ⟨b, off + k * 3 + 2, none⟩ = some (.int .i64 v)
theorem HoldA.to {w : World} {a : Option Addr} {l : List Ar} (h : HoldA w a l) : HoldTo w a l := by
  rcases h with h | ⟨b, off, ha, _, h⟩
  · exact Or.inl h
  · exact Or.inr ⟨b, off, ha, fun k hk => ⟨(h k hk).1, (h k hk).2.1, _, (h k hk).2.2⟩⟩
/-- What aheads wants kept by whoever ranges over it: all cells but those of the arcs, of which the Aheads may turn. -/
def KpA (a : Option Addr) (l : List Ar) (W W' : World) : Prop := (∀ (k : Nat) (o : Obj), (∀ off, a ≠ some ⟨k, off, none⟩) → W.heap[k]? = some o → o.isCells = true → W'.heap[k]? = some o) ∧ (HoldTo W a l → HoldTo W' a l)
theorem KpA.refl (a : Option Addr) (l : List Ar) (W : World) : KpA a l W W := ⟨fun _ _ _ h _ => h, id⟩
theorem KpA.trans {a : Option Addr} {l : List Ar} {A B C : World} (h : KpA a l A B) (k : KpA a l B C) : KpA a l A C := ⟨fun i o h1 h2 h3 => k.1 i o h1 (h.1 i o h1 h2 h3) h3, fun x => k.2 (h.2 x)⟩
theorem HoldTo.keep {w w' : World} {a : Option Addr} {l : List Ar} (h : HoldTo w a l) (hk : ∀ (k : Nat) (o : Obj), w.heap[k]? = some o → o.isCells = true → w'.heap[k]? = some o) : HoldTo w' a l := by
  rcases h with h | ⟨b, off, ha, h⟩
  · exact Or.inl h
  · refine Or.inr ⟨b, off, ha, fun k hkl => ?_⟩
    obtain ⟨h1, h2, v, h3⟩ := h k hkl
    have hb : w'.heap[b]? = w.heap[b]? := by
      cases hx : w.heap[b]? with
      | none => simp [World.cell?, hx] at h1
      | some o =>
        refine hk b o hx ?_
        cases o <;> simp_all [World.cell?, Obj.isCells]
    have e : ∀ j, w'.cell? ⟨b, j, none⟩ = w.cell? ⟨b, j, none⟩ := fun j => by simp [World.cell?, hb]
    exact ⟨(e _).trans h1, (e _).trans h2, v, (e _).trans h3⟩
theorem KpA.of {a : Option Addr} {l : List Ar} {W W' : World} (hk : ∀ (k : Nat) (o : Obj), W.heap[k]? = some o → o.isCells = true → W'.heap[k]? = some o) : KpA a l W W' := ⟨fun k o _ => hk k o, fun h => h.keep hk⟩
def ahOf (fin : Bool) (E : List Nat) (arcs : List Ar) (x : Nat) : Array Value := #[.int .i64 (x : Int), .int .i64 ((ahN fin E arcs x : Nat) : Int)]
theorem ahN_step (fin : Bool) (E : List Nat) (arcs : List Ar) {x : Nat} (h : x < arcs.length) : ahN fin E arcs (x + 1) = ahN fin E arcs x + valE E (arcs.getD x ar0).2.1.toNat := by
  have h1 : arcs[x]? = some (arcs.getD x ar0) := by simp [h]
  rw [ahN, ahN, sumE_take h1]
  omega
set_option maxRecDepth 100000 in
set_option maxHeartbeats 4000000 in
theorem ahead1_any (F : Fence) (n : Nat) (hF : F.fn 84) (hro : F.round = none) (hn : 1 ≤ n) (l B1 B2 be ce : Nat) (fin : Bool) (a : Option Addr) (arcs : List Ar) (cap : Nat) (E : List Nat) (hlen : arcs.length ≤ 1048576)
    (hto : ∀ p ∈ arcs, 0 ≤ p.2.1 ∧ p.2.1.toNat < E.length) (hE : E.length ≤ 1048576) (hbd : ∀ x, x ≤ arcs.length → ahN fin E arcs x ≤ 4611686018427387904)
    (J Jx : List (Fin arcs.length) → World → Prop) (Bb : Nat) (hJa : AbidesFrom Bb J)
    (hY : ∀ pre x W, J pre W → pre.length < arcs.length → YieldAt F (n - 1) Try.prog l (ahOf fin E arcs x.val) W fun e W' =>
      (e = .returned (.bool true) ∧ J (pre ++ [x]) W' ∧ KpA a arcs W W') ∨ (e = .returned (.bool false) ∧ Jx (pre ++ [x]) W'))
    (W : World) (hB1 : W.heap[B1]? = some (.cells #[.bool fin, .slice a arcs.length cap] 82)) (hB2 : W.heap[B2]? = some (.cells #[.slice (some ⟨be, 0, none⟩) E.length ce] 66)) (hrow : W.heap[be]? = some (.cells (nCellsE E).toArray 3))
    (hne : arcs ≠ [] → ∀ off, a ≠ some ⟨B1, off, none⟩ ∧ a ≠ some ⟨B2, off, none⟩ ∧ a ≠ some ⟨be, off, none⟩) (hne2 : arcs ≠ [] → ∀ b off, a = some ⟨b, off, none⟩ → b < W.heap.size) (hold : HoldTo W a arcs) (h0 : J [] W) :
    CallsIn F n Try.prog 84 #[.func (.yield l) #[] #[], .pointer (some ⟨B1, 0, none⟩), .pointer (some ⟨B2, 0, none⟩)] W fun e W' => (∃ v, e = .returned v) ∧
      ((∃ ys : List (Fin arcs.length), ys.map Fin.val = List.range arcs.length ∧ J ys W') ∨ (∃ pre : List (Fin arcs.length), True ∧ Jx pre W')) := by
  refine callsIn_of_wp Try.func84 rfl hF ?_ hro
  simp only [Try.ntmps84, List.size_toArray, List.length_cons, List.length_nil, Nat.reduceAdd, Nat.reduceSub, Array.replicate_succ, Array.replicate_zero, List.push_toArray, List.append_toArray, List.nil_append, List.cons_append]
  have HH := hidd hold
  have HB1 := hidd hB1
  have HB2 := hidd hB2
  have HRow := hidd hrow
  have HTo := hidd hto
  have Hbd := hidd hbd
  have Hne := hidd hne
  have Hne2 := hidd hne2
  have d0 : W.cell? ⟨B1, 0, none⟩ = some (.bool fin) := blkc hB1 0
  have d1 : W.cell? ⟨B1, 1, none⟩ = some (.slice a arcs.length cap) := blkc hB1 1
  clear hold hB1 hB2 hrow hto hbd hne hne2
  cases fin with
  | true =>
    gi_wp2
    gi_loopw [4, 12] (fun av iv wr => ∃ (k : Nat) (pre : List (Fin arcs.length)), k ≤ arcs.length ∧ iv = .int .i64 (k : Int) ∧ av = .int .i64 ((ahN true E arcs k : Nat) : Int) ∧ pre.map Fin.val = List.range k ∧ J pre wr ∧ KpA a arcs W wr ∧ W.heap.size ≤ wr.heap.size) (fun _ iv _ => arcs.length - (intOf iv).toNat)
    case atStart => exact ⟨0, [], Nat.zero_le _, rfl, by simp [ahN, sumE], rfl, h0, KpA.refl _ _ _, Nat.le_refl _⟩
    case round =>
      obtain ⟨k, pre, hk, rfl, rfl, hpre, hJs, hkp, hsz⟩ := hrel
      have Hpre := hidd hpre
      have Hkp := hidd hkp
      have HJ := hidd hJs
      clear hkp hJs hpre
      by_cases hlt : k < arcs.length
      · have hltz : (k : Int) < (arcs.length : Int) := by omega
        have hnn : arcs ≠ [] := fun h => by rw [h] at hlt; simp at hlt
        have Hne' := hidd (Hne.out hnn)
        have hplen : pre.length = k := by have := congrArg List.length Hpre.out; simpa using this
        have Hst := hidd (ahN_step true E arcs hlt)
        have hb1 := Hbd.out (k + 1) (by omega)
        obtain ⟨t0, t1⟩ := HTo.out (arcs.getD k ar0) (by rw [List.getD_eq_getElem?_getD, List.getElem?_eq_getElem hlt]; exact List.getElem_mem _)
        obtain ⟨b, off, rfl, hcell⟩ := (Hkp.out.2 HH.out).resolve_left (fun h => by rw [h] at hlt; simp at hlt)
        have hbl : b < W.heap.size := Hne2.out (fun h => by rw [h] at hlt; simp at hlt) b off rfl
        obtain ⟨x0, x1, v2, x2⟩ := hcell k hlt
        clear hcell
        generalize hp : arcs.getD k ar0 = p at *
        obtain ⟨p0, p1, p2⟩ := p
        dsimp only at x0 x1 t0 t1
        obtain ⟨T, rfl⟩ : ∃ T : Nat, p1 = (T : Int) := ⟨p1.toNat, by omega⟩
        simp only [Int.toNat_natCast] at t1 Hst
        have hTz : (T : Int) < (E.length : Int) := by omega
        generalize hA1 : ahN true E arcs (k + 1) = A1 at *
        have HA1 := hidd hA1
        clear hA1 hp
        have HJw : Hid (J pre (wr.alloc (.cells #[.int .i64 p0, .int .i64 (T : Int), .int .i64 v2] 85))) := hJa _ wr _ none HJ.out (World.grownBy_alloc wr _ none) (fun r e => by cases e)
        obtain ⟨fn, tmps, assign, body, hy, hR⟩ := hY pre ⟨k, hlt⟩ _ HJw.out (by omega)
        rw [ahOf] at hy
        have HA0 : Hid (ahN true E arcs k + valE E T = A1) := Hst.out.symm
        generalize ahN true E arcs k = A0 at *
        gi_wp2
        refine hR.mono ?_
        have HRc := hidd (Hkp.out.1 be _ (fun o e => (Hne'.out o).2.2 e) HRow.out rfl)
        have HBc := hidd (Hkp.out.1 B2 _ (fun o e => (Hne'.out o).2.1 e) HB2.out rfl)
        rintro e W3 (⟨rfl, hJ3, hk3⟩ | ⟨rfl, hJx3⟩)
        · have hsz3 : True := trivial
          have hkall : KpA (some ⟨b, off, none⟩) arcs wr W3 := by
            refine KpA.trans (KpA.of fun i o h1 h2 => ?_) hk3
            rw [Below.heap_alloc _ _ _ (Array.getElem?_eq_some_iff.1 h1).1]
            exact h1
          have hbx : W3.heap[wr.heap.size]? = some (.cells #[.int .i64 p0, .int .i64 (T : Int), .int .i64 v2] 85) := hk3.1 _ _ (fun o e => by cases e; omega) (heap_alloc_new wr _) rfl
          have q1 : W3.cell? ⟨wr.heap.size, 1, none⟩ = some (.int .i64 (T : Int)) := blkc hbx 1
          have q2 : W3.cell? ⟨B2, 0, none⟩ = some (.slice (some ⟨be, 0, none⟩) E.length ce) := blkc (hkall.1 B2 _ (fun o e => (Hne'.out o).2.1 e) HBc.out rfl) 0
          have q3 : W3.cell? ⟨be, T, none⟩ = some (.int .i64 ((valE E T : Nat) : Int)) := by rw [blkc (hkall.1 be _ (fun o e => (Hne'.out o).2.2 e) HRc.out rfl) T]; simp [nCellsE, valE, t1]
          have hz3 : wr.heap.size < W3.heap.size := (Array.getElem?_eq_some_iff.1 hbx).1
          generalize valE E T = V at *
          have hAz : (A0 : Int) + (V : Int) = (A1 : Int) := by have := HA0.out; omega
          have hA1b : (A1 : Int) ≤ 4611686018427387904 := by omega
          gi_wp2
          go_roundw
          · exact ⟨k + 1, pre ++ [⟨k, hlt⟩], by omega, by go_num, by rw [HA1.out], by rw [List.map_append, Hpre.out, List.range_succ]; rfl, hJ3, Hkp.out.trans hkall, by omega⟩
          · simp [intOf]; omega
        · gi_wp2
          refine bodyPost_ret (results_none rfl _ _ _) rfl ?_
          exact ⟨⟨_, rfl⟩, .inr ⟨_, trivial, hJx3⟩⟩
      · have hltz : ¬ (k : Int) < (arcs.length : Int) := by omega
        obtain rfl : k = arcs.length := by omega
        gi_wp2
        go_end0
        refine ⟨⟨_, rfl⟩, .inl ?_⟩
        exact ⟨_, Hpre.out, HJ.out⟩
  | false =>
    gi_wp2
    gi_loopw [4, 12] (fun av iv wr => ∃ (k : Nat) (pre : List (Fin arcs.length)), k ≤ arcs.length ∧ iv = .int .i64 (k : Int) ∧ av = .int .i64 ((ahN false E arcs k : Nat) : Int) ∧ pre.map Fin.val = List.range k ∧ J pre wr ∧ KpA a arcs W wr ∧ W.heap.size ≤ wr.heap.size) (fun _ iv _ => arcs.length - (intOf iv).toNat)
    case atStart => exact ⟨0, [], Nat.zero_le _, rfl, by simp [ahN, sumE], rfl, h0, KpA.refl _ _ _, Nat.le_refl _⟩
    case round =>
      obtain ⟨k, pre, hk, rfl, rfl, hpre, hJs, hkp, hsz⟩ := hrel
      have Hpre := hidd hpre
      have Hkp := hidd hkp
      have HJ := hidd hJs
      clear hkp hJs hpre
      by_cases hlt : k < arcs.length
      · have hltz : (k : Int) < (arcs.length : Int) := by omega
        have hnn : arcs ≠ [] := fun h => by rw [h] at hlt; simp at hlt
        have Hne' := hidd (Hne.out hnn)
        have hplen : pre.length = k := by have := congrArg List.length Hpre.out; simpa using this
        have Hst := hidd (ahN_step false E arcs hlt)
        have hb1 := Hbd.out (k + 1) (by omega)
        obtain ⟨t0, t1⟩ := HTo.out (arcs.getD k ar0) (by rw [List.getD_eq_getElem?_getD, List.getElem?_eq_getElem hlt]; exact List.getElem_mem _)
        obtain ⟨b, off, rfl, hcell⟩ := (Hkp.out.2 HH.out).resolve_left (fun h => by rw [h] at hlt; simp at hlt)
        have hbl : b < W.heap.size := Hne2.out (fun h => by rw [h] at hlt; simp at hlt) b off rfl
        obtain ⟨x0, x1, v2, x2⟩ := hcell k hlt
        clear hcell
        generalize hp : arcs.getD k ar0 = p at *
        obtain ⟨p0, p1, p2⟩ := p
        dsimp only at x0 x1 t0 t1
        obtain ⟨T, rfl⟩ : ∃ T : Nat, p1 = (T : Int) := ⟨p1.toNat, by omega⟩
        simp only [Int.toNat_natCast] at t1 Hst
        have hTz : (T : Int) < (E.length : Int) := by omega
        generalize hA1 : ahN false E arcs (k + 1) = A1 at *
        have HA1 := hidd hA1
        clear hA1 hp
        have HJw : Hid (J pre (wr.alloc (.cells #[.int .i64 p0, .int .i64 (T : Int), .int .i64 v2] 85))) := hJa _ wr _ none HJ.out (World.grownBy_alloc wr _ none) (fun r e => by cases e)
        obtain ⟨fn, tmps, assign, body, hy, hR⟩ := hY pre ⟨k, hlt⟩ _ HJw.out (by omega)
        rw [ahOf] at hy
        have HA0 : Hid (ahN false E arcs k + valE E T = A1) := Hst.out.symm
        generalize ahN false E arcs k = A0 at *
        gi_wp2
        refine hR.mono ?_
        have HRc := hidd (Hkp.out.1 be _ (fun o e => (Hne'.out o).2.2 e) HRow.out rfl)
        have HBc := hidd (Hkp.out.1 B2 _ (fun o e => (Hne'.out o).2.1 e) HB2.out rfl)
        rintro e W3 (⟨rfl, hJ3, hk3⟩ | ⟨rfl, hJx3⟩)
        · have hsz3 : True := trivial
          have hkall : KpA (some ⟨b, off, none⟩) arcs wr W3 := by
            refine KpA.trans (KpA.of fun i o h1 h2 => ?_) hk3
            rw [Below.heap_alloc _ _ _ (Array.getElem?_eq_some_iff.1 h1).1]
            exact h1
          have hbx : W3.heap[wr.heap.size]? = some (.cells #[.int .i64 p0, .int .i64 (T : Int), .int .i64 v2] 85) := hk3.1 _ _ (fun o e => by cases e; omega) (heap_alloc_new wr _) rfl
          have q1 : W3.cell? ⟨wr.heap.size, 1, none⟩ = some (.int .i64 (T : Int)) := blkc hbx 1
          have q2 : W3.cell? ⟨B2, 0, none⟩ = some (.slice (some ⟨be, 0, none⟩) E.length ce) := blkc (hkall.1 B2 _ (fun o e => (Hne'.out o).2.1 e) HBc.out rfl) 0
          have q3 : W3.cell? ⟨be, T, none⟩ = some (.int .i64 ((valE E T : Nat) : Int)) := by rw [blkc (hkall.1 be _ (fun o e => (Hne'.out o).2.2 e) HRc.out rfl) T]; simp [nCellsE, valE, t1]
          have hz3 : wr.heap.size < W3.heap.size := (Array.getElem?_eq_some_iff.1 hbx).1
          generalize valE E T = V at *
          have hAz : (A0 : Int) + (V : Int) = (A1 : Int) := by have := HA0.out; omega
          have hA1b : (A1 : Int) ≤ 4611686018427387904 := by omega
          gi_wp2
          go_roundw
          · exact ⟨k + 1, pre ++ [⟨k, hlt⟩], by omega, by go_num, by rw [HA1.out], by rw [List.map_append, Hpre.out, List.range_succ]; rfl, hJ3, Hkp.out.trans hkall, by omega⟩
          · simp [intOf]; omega
        · gi_wp2
          refine bodyPost_ret (results_none rfl _ _ _) rfl ?_
          exact ⟨⟨_, rfl⟩, .inr ⟨_, trivial, hJx3⟩⟩
      · have hltz : ¬ (k : Int) < (arcs.length : Int) := by omega
        obtain rfl : k = arcs.length := by omega
        gi_wp2
        go_end0
        refine ⟨⟨_, rfl⟩, .inl ?_⟩
        exact ⟨_, Hpre.out, HJ.out⟩
theorem aheads_any (F : Fence) (n : Nat) (hF : F.fn 52) (hro : F.round = none) (fin : Bool) (a : Option Addr) (len cap : Nat) (ae : Option Addr) (le ce : Nat) (w : World) :
    CallsIn F n Try.prog 52 #[.agg #[.bool fin, .slice a len cap], .slice ae le ce] w fun r w' => r = .returned (.func (.func 84) #[] #[.pointer (some ⟨w.heap.size, 0, none⟩), .pointer (some ⟨w.heap.size + 1, 0, none⟩)]) ∧ w' = (w.alloc (.cells #[.bool fin, .slice a len cap] 82)).alloc (.cells #[.slice ae le ce] 66) := by
  refine callsIn_of_wp Try.func52 rfl hF ?_ hro
  simp only [Try.ntmps52, List.size_toArray, List.length_cons, List.length_nil, Nat.reduceAdd, Nat.reduceSub, Array.replicate_succ, Array.replicate_zero, List.push_toArray, List.append_toArray, List.nil_append, List.cons_append]
  gi_wp2
  go_ret
  exact ⟨rfl, rfl⟩
theorem ahead_stops (F : Fence) (n : Nat) (hF : F.fn 84) (hro : F.round = none) (hn : 1 ≤ n) (B1 B2 be ce : Nat) (fin : Bool) (a : Option Addr) (arcs : List Ar) (cap : Nat) (E : List Nat) (hlen : arcs.length ≤ 1048576)
    (hto : ∀ p ∈ arcs, 0 ≤ p.2.1 ∧ p.2.1.toNat < E.length) (hE : E.length ≤ 1048576) (hbd : ∀ x, x ≤ arcs.length → ahN fin E arcs x ≤ 4611686018427387904) (w : World)
    (hB1 : w.heap[B1]? = some (.cells #[.bool fin, .slice a arcs.length cap] 82)) (hB2 : w.heap[B2]? = some (.cells #[.slice (some ⟨be, 0, none⟩) E.length ce] 66)) (hrow : w.heap[be]? = some (.cells (nCellsE E).toArray 3))
    (hne : arcs ≠ [] → ∀ off, a ≠ some ⟨B1, off, none⟩ ∧ a ≠ some ⟨B2, off, none⟩ ∧ a ≠ some ⟨be, off, none⟩) (hold : HoldA w a arcs) :
    SeqStopsK F n Try.prog 84 #[.pointer (some ⟨B1, 0, none⟩), .pointer (some ⟨B2, 0, none⟩)] (fun x : Fin arcs.length => ahOf fin E arcs x.val) (KpA a arcs) (fun ys => ys.map Fin.val = List.range arcs.length) (fun _ => True) arcs.length w := fun l J Jx W hW hJ _ hY h0 => by
  refine ahead1_any F n hF hro hn l B1 B2 be ce fin a arcs cap E hlen hto hE hbd J Jx _ hJ hY W (blko hB1 hW) (blko hB2 hW) (blko hrow hW) hne ?_ (hold.below hW).to h0
  intro hnn b off e
  obtain ⟨b', off', h1, h2, _⟩ := hold.resolve_left hnn
  rw [h1] at e
  cases e
  exact Nat.lt_of_lt_of_le h2 hW.size
end Go.Proofs.Ytbkedgpligcicaa

namespace Go.Proofs.Ytbkedgpligcicaa
open Go Go.RowKit
set_option linter.unusedVariables false

/-- Marks among the deferred calls of an activation: of each loop over an iterator that was left. -/
def mark (D : Nat) : Deferred := { target := .collected D, args := #[] }
structure Marks (w : World) (B : Nat) (Ds : List Nat) : Prop where
  nodup : Ds.Nodup
  at_ : ∀ D ∈ Ds, B ≤ D ∧ w.heap[D]? = some (.deferred (some []))
/-- Cells that stay, but for those that a call has laid. -/
def KeepD (w w' : World) : Prop := ∀ D : Nat, w.heap[D]? = some (.deferred (some [])) → w'.heap[D]? = some (.deferred (some []))
theorem Marks.keep {w w' : World} {B : Nat} {Ds : List Nat} (h : Marks w B Ds) (hk : KeepD w w') : Marks w' B Ds := ⟨h.nodup, fun D hD => ⟨(h.at_ D hD).1, hk D (h.at_ D hD).2⟩⟩
theorem Marks.push {w : World} {B D : Nat} {Ds : List Nat} (h : Marks w B Ds) (hB : B ≤ D) (hD : w.heap[D]? = some (.deferred (some []))) (hn : D ∉ Ds) : Marks w B (D :: Ds) :=
  ⟨List.nodup_cons.2 ⟨hn, h.nodup⟩, fun x hx => by
    rcases List.mem_cons.1 hx with rfl | hx
    · exact ⟨hB, hD⟩
    · exact h.at_ x hx⟩
theorem Marks.lt {w : World} {B : Nat} {Ds : List Nat} (h : Marks w B Ds) {D : Nat} (hD : D ∈ Ds) : D < w.heap.size := (Array.getElem?_eq_some_iff.1 (h.at_ D hD).2).1
/-- All but marks stays. -/
structure AllBut (w w' : World) : Prop where
  os : w'.os = w.os
  tape : w'.tape = w.tape
  output : w'.output = w.output
  size : w'.heap.size = w.heap.size
  block : ∀ b : Nat, w.heap[b]? ≠ some (.deferred (some [])) → w'.heap[b]? = w.heap[b]?
theorem AllBut.refl (w : World) : AllBut w w := ⟨rfl, rfl, rfl, rfl, fun _ _ => rfl⟩
theorem leaves_marks {F : Fence} {n : Nat} {P : Program} {fn : Func} {tmps : Array Value} {R : Ending → World → Prop} {B : Nat} : ∀ (Ds : List Nat) (w0 w : World), Marks w B Ds → AllBut w0 w → Below B w0 w →
    (∀ w', AllBut w0 w' → Below B w0 w' → LeavesIn F n P fn tmps R [] .returning w') → LeavesInM F n P fn tmps R (Ds.map mark) .returning w
  | [], w0, w, _, ha, hb, h => h w ha hb
  | D :: Ds, w0, w, hm, ha, hb, h => by
    have hD := (hm.at_ D (by simp)).2
    have hB := (hm.at_ D (by simp)).1
    have hnd := List.nodup_cons.1 hm.nodup
    refine ⟨by simp, .inl ⟨D, _, rfl, run_takeDeferred hD, ?_⟩⟩
    refine leaves_marks Ds w0 (w.putObj D (.deferred none)) ⟨hnd.2, fun x hx => ⟨(hm.at_ x (by simp [hx])).1, ?_⟩⟩ ?_ ?_ h
    · rw [World.putObj_heap_other (fun e => by subst e; exact hnd.1 hx)]
      exact (hm.at_ x (by simp [hx])).2
    · refine ⟨ha.os, ha.tape, ha.output, by rw [← ha.size]; simp [World.putObj], fun b hb' => ?_⟩
      have hne : b ≠ D := by
        rintro rfl
        by_cases hq : w0.heap[b]? = some (.deferred (some []))
        · exact hb' hq
        · exact hq ((ha.block b hb').symm.trans hD)
      rw [World.putObj_heap_other hne]
      exact ha.block b hb'
    · refine ⟨hb.os, hb.tape, hb.output, by have := hb.size; simpa [World.putObj] using this, fun b hb' => ?_⟩
      rw [World.putObj_heap_other (by omega)]
      exact hb.block b hb'
end Go.Proofs.Ytbkedgpligcicaa

namespace Go.Proofs.Ytbkedgpligcicaa
open Go Go.RowKit
set_option linter.unusedVariables false

/-! Links as keys of a map. -/
def In64 (l : Ar) : Prop := (-9223372036854775808 ≤ l.1 ∧ l.1 ≤ 9223372036854775807) ∧ (-9223372036854775808 ≤ l.2.1 ∧ l.2.1 ≤ 9223372036854775807) ∧ (-9223372036854775808 ≤ l.2.2 ∧ l.2.2 ≤ 9223372036854775807)
theorem laidOutX : laidOutB Try.prog = true := by kernel_rfl
theorem linkLaw : WideMaps.KeyLaw Try.prog 120 := deep_law_laid laidOutX (m := 2) (by omega) (of_decide_eq_true (by kernel_rfl)) (by kernel_rfl) (by kernel_rfl)
theorem linkKeyed : Maps.Keyed Try.prog 120 := Maps.Keyed.of_law linkLaw
theorem linkCells : Try.prog.cellsOf 120 = 3 := by kernel_rfl
theorem intCells : Try.prog.cellsOf 3 = 1 := by kernel_rfl
theorem linkType : Try.prog.keyType 120 = true := by kernel_rfl
theorem linkKey (l : Ar) (h : In64 l) : ∃ kl, keyOf Try.prog 120 (arV l) = some kl := by
  obtain ⟨a, b, c⟩ := l
  obtain ⟨⟨h1, h2⟩, ⟨h3, h4⟩, ⟨h5, h6⟩⟩ := h
  have w1 : (Lit.int .i64 a).wf = true := WalkArith.wf_i64 (by dsimp only at *; omega)
  have w2 : (Lit.int .i64 b).wf = true := WalkArith.wf_i64 (by dsimp only at *; omega)
  have w3 : (Lit.int .i64 c).wf = true := WalkArith.wf_i64 (by dsimp only at *; omega)
  obtain ⟨m, hm⟩ : ∃ m, Try.prog.types.size = m + 1 := ⟨Try.prog.types.size - 1, by kernel_rfl⟩
  have hf : (arV (a, b, c)).formed Try.prog 120 = true := by simp [arV, Value.formed, Try.underlying120, linkCells]
  have hk : Try.prog.keyLits (Try.prog.types.size + 1) 120 (arV (a, b, c)).cells.toList = some [.int .i64 a, .int .i64 b, .int .i64 c] := by
    rw [hm]
    simp [Program.keyLits, Try.underlying120, Try.underlying3, linkCells, intCells, arV, Value.cells, List.range, List.range.loop, w1, w2, w3]
  refine ⟨.string (keyBytes [.int .i64 a, .int .i64 b, .int .i64 c]), ?_⟩
  unfold keyOf
  rw [Try.underlying120]
  simp only [linkType, hf, Bool.and_self, if_true, hk, Option.map_some]
theorem arV_inj {l m : Ar} (h : arV l = arV m) : l = m := by
  obtain ⟨a, b, c⟩ := l
  obtain ⟨x, y, z⟩ := m
  simpa [arV] using h

/-- A map of links, in the order in which they came. -/
def MapAt (w : World) (mb : Nat) (L : List Ar) : Prop := ∃ es clock, w.heap[mb]? = some (.map es clock) ∧ es.toList.map (fun e => (e.key, e.val)) = L.mapIdx fun (j : Nat) l => (arV l, Value.int .i64 ((j + 1 : Nat) : Int))
theorem MapAt.keep {w w' : World} {mb : Nat} {L : List Ar} (h : MapAt w mb L) (hb : w'.heap[mb]? = w.heap[mb]?) : MapAt w' mb L := by
  obtain ⟨es, clock, h1, h2⟩ := h
  exact ⟨es, clock, hb.trans h1, h2⟩
theorem mapAt_new (w : World) : MapAt (w.alloc (.map #[] 0)) w.heap.size [] := ⟨#[], 0, heap_alloc_new w _, rfl⟩
theorem MapAt.find {w : World} {mb : Nat} {L : List Ar} (h : MapAt w mb L) (hL : ∀ l ∈ L, In64 l) (l : Ar) (hl : In64 l) :
    ∃ es clock, w.heap[mb]? = some (.map es clock) ∧ es.toList.map (fun e => (e.key, e.val)) = L.mapIdx (fun (j : Nat) l => (arV l, Value.int .i64 ((j + 1 : Nat) : Int))) ∧
      ((l ∉ L ∧ (Instr.findKey 120 (arV l) es.toList).run Try.prog w = .ok none w) ∨ ∃ j : Nat, L[j]? = some l ∧ (Instr.findKey 120 (arV l) es.toList).run Try.prog w = .ok (some (j, .int .i64 ((j + 1 : Nat) : Int))) w) := by
  obtain ⟨es, clock, h1, h2⟩ := h
  refine ⟨es, clock, h1, h2, ?_⟩
  obtain ⟨kl, hkl⟩ := linkKey l hl
  have at_ : ∀ (j : Nat) (e : MapEntry), es.toList[j]? = some e → ∃ l', L[j]? = some l' ∧ e.key = arV l' ∧ e.val = .int .i64 ((j + 1 : Nat) : Int) := by
    intro j e he
    have h3 : (es.toList.map (fun e => (e.key, e.val)))[j]? = some (e.key, e.val) := by rw [List.getElem?_map, he]; rfl
    rw [h2, List.getElem?_mapIdx] at h3
    cases hx : L[j]? with
    | none => rw [hx] at h3; cases h3
    | some l' =>
      rw [hx] at h3
      simp only [Option.map_some, Option.some.injEq, Prod.mk.injEq] at h3
      exact ⟨l', rfl, h3.1.symm, h3.2.symm⟩
  have hkeys : ∀ e ∈ es.toList, ∃ q, keyOf Try.prog 120 e.key = some q := by
    intro e he
    obtain ⟨j, hj⟩ := List.mem_iff_getElem?.1 he
    obtain ⟨l', h4, h5, _⟩ := at_ j e hj
    rw [h5]
    exact linkKey l' (hL l' (List.mem_of_getElem? h4))
  rcases linkKeyed.find w hkl es.toList hkeys with ⟨h3, h4⟩ | ⟨j, e, h3, h4, h5⟩
  · refine Or.inl ⟨?_, h3⟩
    intro hm
    obtain ⟨j, hj⟩ := List.mem_iff_getElem?.1 hm
    have h6 : (es.toList.map (fun e => (e.key, e.val)))[j]? = some (arV l, .int .i64 ((j + 1 : Nat) : Int)) := by rw [h2, List.getElem?_mapIdx, hj]; rfl
    rw [List.getElem?_map] at h6
    cases hx : es.toList[j]? with
    | none => rw [hx] at h6; cases h6
    | some e =>
      rw [hx] at h6
      simp only [Option.map_some, Option.some.injEq, Prod.mk.injEq] at h6
      exact h4 e (List.mem_of_getElem? hx) h6.1
  · obtain ⟨l', h6, h7, h8⟩ := at_ j e h4
    have : l' = l := arV_inj (h7.symm.trans h5)
    subst this
    exact Or.inr ⟨j, h6, by rw [h3, h8]⟩
theorem MapAt.look {w : World} {mb : Nat} {L : List Ar} (h : MapAt w mb L) (hL : ∀ l ∈ L, In64 l) (l : Ar) (hl : In64 l) :
    (l ∉ L ∧ (Instr.lookup 114 (.map (some mb)) (arV l) true).run Try.prog w = .ok (.tuple #[.int .i64 0, .bool false]) w) ∨
    ∃ j : Nat, L[j]? = some l ∧ (Instr.lookup 114 (.map (some mb)) (arV l) true).run Try.prog w = .ok (.tuple #[.int .i64 ((j + 1 : Nat) : Int), .bool true]) w := by
  obtain ⟨kl, hkl⟩ := linkKey l hl
  obtain ⟨es, clock, h1, _, h3⟩ := h.find hL l hl
  rcases h3 with ⟨h4, h5⟩ | ⟨j, h4, h5⟩
  · exact Or.inl ⟨h4, by simp [Instr.lookup, run_underlying Try.underlying114, MapKept.run_getObj_map h1, linkKeyed.check w _ hkl, h5, Result.andThen]⟩
  · exact Or.inr ⟨j, h4, by simp [Instr.lookup, run_underlying Try.underlying114, MapKept.run_getObj_map h1, linkKeyed.check w _ hkl, h5, Result.andThen]⟩
theorem MapAt.put {w : World} {mb : Nat} {L : List Ar} (h : MapAt w mb L) (hL : ∀ l ∈ L, In64 l) (l : Ar) (hl : In64 l) (hn : l ∉ L) :
    ∃ w', (Instr.mapUpdate 114 (.map (some mb)) (arV l) (.int .i64 ((L.length + 1 : Nat) : Int))).run Try.prog w = .ok () w' ∧ MapAt w' mb (L ++ [l]) ∧ w.grownBy w' (some mb) := by
  obtain ⟨kl, hkl⟩ := linkKey l hl
  obtain ⟨es, clock, h1, h2, h3⟩ := h.find hL l hl
  rcases h3 with ⟨h4, h5⟩ | ⟨j, h4, h5⟩
  · refine ⟨ChangeMaps.setBlock w mb (.map (es.push ⟨arV l, .int .i64 ((L.length + 1 : Nat) : Int), clock⟩) (clock + 1)), ?_, ⟨_, _, ChangeMaps.heap_setBlock_same h1 _, ?_⟩, ⟨rfl, rfl, rfl, by simp [ChangeMaps.setBlock], fun i _ hi => ChangeMaps.heap_setBlock_other h1 _ (fun e => hi (by rw [e]))⟩⟩
    · simp [Instr.mapUpdate, run_underlying Try.underlying114, MapKept.run_getObj_map h1, linkKeyed.check w false hkl, h5, MapKept.run_setObj_map _ h1, Result.andThen, ChangeMaps.setBlock]
    · rw [Array.toList_push, List.map_append, h2, List.mapIdx_append]
      simp
  · exact absurd (List.mem_of_getElem? h4) hn
end Go.Proofs.Ytbkedgpligcicaa

namespace Go.Proofs.Ytbkedgpligcicaa
open Go Go.RowKit
set_option linter.unusedVariables false

def lCells (L : List Ar) : List Value := L.flatMap fun l => [.int .i64 l.1, .int .i64 l.2.1, .int .i64 l.2.2]
theorem lCells_length (L : List Ar) : (lCells L).length = L.length * 3 := by
  induction L with
  | nil => rfl
  | cons a t ih => simp only [lCells, List.flatMap_cons, List.length_append, List.length_cons, List.length_nil] at ih ⊢; omega
theorem lCells_snoc (L : List Ar) (l : Ar) : lCells (L ++ [l]) = lCells L ++ [.int .i64 l.1, .int .i64 l.2.1, .int .i64 l.2.2] := by simp [lCells]
/-- A register as it lies: at rb, its map at mb, its links in a row at g, all from base on. -/
structure RegAt (base : Nat) (w : World) (rb mb g cap : Nat) (L : List Ar) : Prop where
  reg : w.heap[rb]? = some (.cells #[.map (some mb), .slice (some ⟨g, 0, none⟩) L.length cap] 117)
  row : w.ownsRow base 120 3 (.slice (some ⟨g, 0, none⟩) L.length cap) L.length (lCells L)
  map : MapAt w mb L
  apart : rb ≠ mb ∧ g ≠ mb ∧ g ≠ rb
  from_ : base ≤ rb ∧ base ≤ mb
  nodup : L.Nodup
  in64 : ∀ l ∈ L, In64 l
theorem RegAt.glt {base : Nat} {w : World} {rb mb g cap : Nat} {L : List Ar} (h : RegAt base w rb mb g cap L) : base ≤ g ∧ g < w.heap.size := h.row.lt g rfl
theorem RegAt.rlt {base : Nat} {w : World} {rb mb g cap : Nat} {L : List Ar} (h : RegAt base w rb mb g cap L) : rb < w.heap.size := (Array.getElem?_eq_some_iff.1 h.reg).1
theorem RegAt.mlt {base : Nat} {w : World} {rb mb g cap : Nat} {L : List Ar} (h : RegAt base w rb mb g cap L) : mb < w.heap.size := by
  obtain ⟨es, c, h1, _⟩ := h.map
  exact (Array.getElem?_eq_some_iff.1 h1).1
theorem RegAt.keep {base : Nat} {w w' : World} {rb mb g cap : Nat} {L : List Ar} (h : RegAt base w rb mb g cap L) (hz : w.heap.size ≤ w'.heap.size) (hr : w'.heap[rb]? = w.heap[rb]?) (hm : w'.heap[mb]? = w.heap[mb]?) (hg : w'.heap[g]? = w.heap[g]?) : RegAt base w' rb mb g cap L :=
  ⟨hr.trans h.reg, by
    refine ⟨h.row.1, ?_⟩
    rcases h.row.2 with h' | ⟨g', c', cur, h1, h2, h3, h4⟩
    · exact Or.inl h'
    · refine Or.inr ⟨g', c', cur, h1, h2, ?_, h4⟩
      simp only [Value.slice.injEq, Option.some.injEq, Addr.mk.injEq, and_true, true_and] at h1
      obtain ⟨rfl, _⟩ := h1
      exact hg.trans h3, h.map.keep hm, h.apart, h.from_, h.nodup, h.in64⟩
theorem RegAt.below {base : Nat} {w w' : World} {rb mb g cap : Nat} {L : List Ar} (h : RegAt base w rb mb g cap L) (hb : Below w.heap.size w w') : RegAt base w' rb mb g cap L :=
  h.keep hb.size (hb.block _ h.rlt) (hb.block _ h.mlt) (hb.block _ h.glt.2)
/-- All but three blocks stays. -/
structure Fr3 (x y z : Nat) (w w' : World) : Prop where
  size : w.heap.size ≤ w'.heap.size
  os : w'.os = w.os
  tape : w'.tape = w.tape
  output : w'.output = w.output
  block : ∀ b, b < w.heap.size → b ≠ x → b ≠ y → b ≠ z → w'.heap[b]? = w.heap[b]?
/-- What chain does. -/
structure Chained (base : Nat) (w w' : World) (rb mb g : Nat) (L : List Ar) (l : Ar) (n : Nat) (L' : List Ar) (g' cap' : Nat) : Prop where
  reg : RegAt base w' rb mb g' cap' L'
  fr : Fr3 rb mb g w w'
  at_ : L'[n]? = some l
  pre : L <+: L'
  few : L'.length ≤ L.length + 1
  new : g' = g ∨ w.heap.size ≤ g'
theorem Try.infoLink : (Try.prog.info? 120).map (fun i => (i.zero, i.size, i.bytes)) = some (some (.agg #[.int .i64 0, .int .i64 0, .int .i64 0]), 3, 24) := by kernel_rfl
theorem chain_step {base : Nat} {wb w6 : World} {o : Obj} {rb mb g cap g6 cp6 N : Nat} {L : List Ar} {l0 l1 l2 : Int} (h : RegAt base wb rb mb g cap L) (hgrow : (wb.drew.alloc o).grownBy w6 (some g))
    (hown : w6.ownsRow base 120 3 (.slice (some ⟨g6, 0, none⟩) N cp6) N (lCells L ++ [.int .i64 l0, .int .i64 l1, .int .i64 l2])) (hat : some g = some g6 ∨ g6 = wb.heap.size + 1) :
    w6.heap[rb]? = some (.cells #[.map (some mb), .slice (some ⟨g, 0, none⟩) L.length cap] 117) ∧ ∀ w7, w6.setCell ⟨rb, 1, none⟩ (.slice (some ⟨g6, 0, none⟩) N cp6) = w7 →
      w7.heap[rb]? = some (.cells #[.map (some mb), .slice (some ⟨g6, 0, none⟩) N cp6] 117) ∧
      w7.ownsRow base 120 3 (.slice (some ⟨g6, 0, none⟩) N cp6) N (lCells L ++ [.int .i64 l0, .int .i64 l1, .int .i64 l2]) ∧ MapAt w7 mb L ∧ Fr3 rb mb g wb w7 ∧ (g6 ≠ mb ∧ g6 ≠ rb) ∧ (g6 = g ∨ wb.heap.size ≤ g6) := by
  have hrl := h.rlt
  have hml := h.mlt
  have hgl := h.glt
  have hap := h.apart
  have hold : ∀ b, b < wb.heap.size → b ≠ g → w6.heap[b]? = wb.heap[b]? := fun b hb hne => by
    rw [hgrow.block b (by simp; omega) (by simpa using hne), Below.heap_alloc _ _ _ (by simpa using hb)]
    rfl
  have k6 : w6.heap[rb]? = some (.cells #[.map (some mb), .slice (some ⟨g, 0, none⟩) L.length cap] 117) := (hold rb hrl (fun e => hap.2.2 e.symm)).trans h.reg
  have hg6 : (g6 ≠ mb ∧ g6 ≠ rb) ∧ (g6 = g ∨ wb.heap.size ≤ g6) := by
    rcases hat with hat | hat
    · cases hat; exact ⟨⟨hap.2.1, hap.2.2⟩, Or.inl rfl⟩
    · exact ⟨⟨by omega, by omega⟩, Or.inr (by omega)⟩
  have hsz : wb.heap.size ≤ w6.heap.size := by have := hgrow.size; simp at this; omega
  refine ⟨k6, ?_⟩
  rintro w7 rfl
  refine ⟨?_, ?_, ?_, ?_, hg6⟩
  · have := heap_setCell_same w6 rb 1 _ _ (.slice (some ⟨g6, 0, none⟩) N cp6) k6
    rw [this]
    rfl
  · refine ⟨hown.1, ?_⟩
    rcases hown.2 with h' | ⟨g', c', cur, h1, h2, h3, h4⟩
    · exact Or.inl h'
    · refine Or.inr ⟨g', c', cur, h1, h2, ?_, h4⟩
      simp only [Value.slice.injEq, Option.some.injEq, Addr.mk.injEq, and_true, true_and] at h1
      obtain ⟨rfl, _⟩ := h1
      exact (heap_setCell_other w6 ⟨rb, 1, none⟩ g6 _ hg6.1.2).trans h3
  · exact h.map.keep ((heap_setCell_other w6 ⟨rb, 1, none⟩ mb _ (fun e => hap.1 e.symm)).trans (hold mb hml (fun e => hap.2.1 e.symm)))
  · refine ⟨by simpa using hsz, hgrow.os, hgrow.tape, hgrow.output, fun b hb h1 h2 h3 => ?_⟩
    exact (heap_setCell_other w6 ⟨rb, 1, none⟩ b _ h1).trans (hold b hb h3)
set_option maxHeartbeats 4000000 in
set_option maxRecDepth 100000 in
theorem chain_any (base : Nat) (w : World) (rb mb g cap : Nat) (L : List Ar) (l0 l1 l2 : Int) (hL : L.length ≤ 1099511627776) (h : RegAt base w rb mb g cap L) (hl : In64 (l0, l1, l2)) :
    Calls Try.prog 68 #[.pointer (some ⟨rb, 0, none⟩), .agg #[.int .i64 l0, .int .i64 l1, .int .i64 l2]] w fun e w' => ∃ n L' g' cap', e = .returned (.int .i64 ((n + 1 : Nat) : Int)) ∧ Chained base w w' rb mb g L (l0, l1, l2) n L' g' cap' := by
  obtain ⟨i0, hi, hz0, hz1, hz2⟩ := info_parts Try.infoLink
  have HBa : Hid (Below w.heap.size w (w.alloc (.cells #[.int .i64 l0, .int .i64 l1, .int .i64 l2] 120))) := (Below.refl _ _).alloc (Nat.le_refl _) _
  have Hbx := hidd (heap_alloc_new w (.cells #[.int .i64 l0, .int .i64 l1, .int .i64 l2] 120))
  have HH := hidd h
  clear h
  go_enter Try.func68, Try.ntmps68
  go_upto_region 1 with fail
  obtain ⟨wa, hwa⟩ : ∃ wa, w.alloc (.cells #[.int .i64 l0, .int .i64 l1, .int .i64 l2] 120) = wa := ⟨_, rfl⟩
  rw [hwa] at HBa Hbx
  try rw [hwa]
  clear hwa
  have HR := hidd (HH.out.below HBa.out)
  have c0 : wa.cell? ⟨w.heap.size, 0, none⟩ = some (.int .i64 l0) := blkc Hbx.out 0
  have c1 : wa.cell? ⟨w.heap.size, 1, none⟩ = some (.int .i64 l1) := blkc Hbx.out 1
  have c2 : wa.cell? ⟨w.heap.size, 2, none⟩ = some (.int .i64 l2) := blkc Hbx.out 2
  have r0 : wa.cell? ⟨rb, 0, none⟩ = some (.map (some mb)) := blkc HR.out.reg 0
  have r1 : wa.cell? ⟨rb, 1, none⟩ = some (.slice (some ⟨g, 0, none⟩) L.length cap) := blkc HR.out.reg 1
  have hlk : (((l0, l1, l2) : Ar) ∉ L ∧ ∀ q, (Instr.lookup 114 (.map (some mb)) (.agg #[.int .i64 l0, .int .i64 l1, .int .i64 l2]) true).run Try.prog (wa.drewN q) = .ok (.tuple #[.int .i64 0, .bool false]) (wa.drewN q)) ∨
      ∃ j : Nat, L[j]? = some (l0, l1, l2) ∧ ∀ q, (Instr.lookup 114 (.map (some mb)) (.agg #[.int .i64 l0, .int .i64 l1, .int .i64 l2]) true).run Try.prog (wa.drewN q) = .ok (.tuple #[.int .i64 ((j + 1 : Nat) : Int), .bool true]) (wa.drewN q) := by
    have hq : ∀ q, MapAt (wa.drewN q) mb L := fun q => HR.out.map.keep (by simp)
    by_cases hm : ((l0, l1, l2) : Ar) ∈ L
    · obtain ⟨j, hj⟩ := List.mem_iff_getElem?.1 hm
      refine Or.inr ⟨j, hj, fun q => ?_⟩
      rcases (hq q).look HR.out.in64 (l0, l1, l2) hl with ⟨h1, _⟩ | ⟨j', hj', h1⟩
      · exact absurd hm h1
      · have : j' = j := by
          have hjl := (List.getElem?_eq_some_iff.1 hj').1
          exact (List.getElem?_inj hjl HR.out.nodup).1 (hj'.trans hj.symm)
        rw [this] at h1
        exact h1
    · refine Or.inl ⟨hm, fun q => ?_⟩
      rcases (hq q).look HR.out.in64 (l0, l1, l2) hl with ⟨_, h1⟩ | ⟨j', hj', h1⟩
      · exact h1
      · exact absurd (List.mem_of_getElem? hj') hm
  rcases hlk with ⟨hnm, hlook⟩ | ⟨j, hj, hlook⟩
  · go_quiet (fail)
    go_upto_region 3 with fail
    have HB0 : Hid (Below w.heap.size w (wa.drewN nq)) := below_drewN HBa.out nq
    have HR0 : Hid (RegAt base (wa.drewN nq) rb mb g cap L) := HR.out.keep (by simp) (by simp) (by simp) (by simp)
    have Hbx0 : Hid ((wa.drewN nq).heap[w.heap.size]? = some (.cells #[.int .i64 l0, .int .i64 l1, .int .i64 l2] 120)) := by show _ = _; rw [← Hbx.out]; simp
    clear hlook c0 c1 c2 r0 r1 HBa HR Hbx
    generalize wa.drewN nq = wb at *
    have c0 : wb.cell? ⟨w.heap.size, 0, none⟩ = some (.int .i64 l0) := blkc Hbx0.out 0
    have c1 : wb.cell? ⟨w.heap.size, 1, none⟩ = some (.int .i64 l1) := blkc Hbx0.out 1
    have c2 : wb.cell? ⟨w.heap.size, 2, none⟩ = some (.int .i64 l2) := blkc Hbx0.out 2
    have r0 : wb.cell? ⟨rb, 0, none⟩ = some (.map (some mb)) := blkc HR0.out.reg 0
    have r1 : wb.cell? ⟨rb, 1, none⟩ = some (.slice (some ⟨g, 0, none⟩) L.length cap) := blkc HR0.out.reg 1
    have hrl := HR0.out.rlt
    have hml := HR0.out.mlt
    have hgl := HR0.out.glt
    have hap := HR0.out.apart
    have Hrow := hidd HR0.out.row
    have hbase : base ≤ wb.heap.size := by omega
    go_region_law (refine step_append_lies _ rfl (.tmp 22) (.tmp 24) 115 rfl base 120 i0 (.agg #[.int .i64 0, .int .i64 0, .int .i64 0]) 3 24 Try.underlying115 hi hz0 hz1 hz2 rfl (by decide) (.slice (some ⟨g, 0, none⟩) L.length cap) L.length (lCells L) (by simp [Act.eval]) (Hrow.out.drew.alloc _) ⟨wb.heap.size, 0, none⟩ 1 1 [.int .i64 l0, .int .i64 l1, .int .i64 l2] (by simp [Act.eval]) rfl (by intro j' u' hj'; match j', hj' with | 0, hj' => simp at hj'; subst hj'; simp [Addr.add] | 1, hj' => simp at hj'; subst hj'; simp [Addr.add] | 2, hj' => simp at hj'; subst hj'; simp [Addr.add]) (by intro u' hu'; simp at hu'; rcases hu' with rfl | rfl | rfl <;> rfl) (by omega) (by unfold maxLen; omega) (by omega) (by simp; omega) _ rfl ?_; intro g6 cp6 w6 hown6 hgrow6 hat6 hlt6; have S6 := hidd (chain_step (l0 := l0) (l1 := l1) (l2 := l2) HR0.out hgrow6 hown6 (by simpa [Value.ownBlock] using hat6)); have k6 := S6.out.1; have s1 : w6.cell? ⟨rb, 1, none⟩ = some (.slice (some ⟨g, 0, none⟩) L.length cap) := blkc k6 1; have f1 : w6.frozen? ⟨rb, 1, none⟩ = false := frozen_of_row w6 _ 1 _ _ k6)
    all_goals
      have S7 := hidd (S6.out.2 _ rfl)
      clear S6 s1 f1 k6 hown6 hgrow6 hat6 hlt6 c0 c1 c2 r0 r1
      obtain ⟨w7, hw7⟩ : ∃ w7, w6.setCell ⟨rb, 1, none⟩ (.slice (some ⟨g6, 0, none⟩) (L.length + 1) cp6) = w7 := ⟨_, rfl⟩
      rw [hw7] at S7
      try rw [hw7]
      clear hw7
      obtain ⟨N, hN⟩ : ∃ N, L.length + 1 = N := ⟨_, rfl⟩
      simp only [hN] at S7 ⊢
      have HN := hidd hN
      clear hN
      have hbx7 : w7.heap[w.heap.size]? = some (.cells #[.int .i64 l0, .int .i64 l1, .int .i64 l2] 120) := by
        have hl0 := (Array.getElem?_eq_some_iff.1 Hbx0.out).1
        have h1 := HH.out.rlt
        have h2 := HH.out.mlt
        have h3 := HH.out.glt
        exact (S7.out.2.2.2.1.block _ hl0 (by omega) (by omega) (by omega)).trans Hbx0.out
      obtain ⟨w8, hput, hmap8, hgrow8⟩ := (show MapAt w7.drew mb L from S7.out.2.2.1.keep rfl).put HR0.out.in64 (l0, l1, l2) hl hnm
      rw [HN.out] at hput
      simp only [arV] at hput
      have c0 : w7.cell? ⟨w.heap.size, 0, none⟩ = some (.int .i64 l0) := blkc hbx7 0
      have c1 : w7.cell? ⟨w.heap.size, 1, none⟩ = some (.int .i64 l1) := blkc hbx7 1
      have c2 : w7.cell? ⟨w.heap.size, 2, none⟩ = some (.int .i64 l2) := blkc hbx7 2
      have r0 : w7.cell? ⟨rb, 0, none⟩ = some (.map (some mb)) := blkc S7.out.1 0
      have r1 : w7.cell? ⟨rb, 1, none⟩ = some (.slice (some ⟨g6, 0, none⟩) N cp6) := blkc S7.out.1 1
      have R8 : Hid (Chained base w w8 rb mb g L (l0, l1, l2) L.length (L ++ [(l0, l1, l2)]) g6 cp6) := by
        obtain ⟨u1, u2, u3, u4, u5, u6⟩ := S7.out
        have hl7 : ∀ b, b < wb.heap.size → b < w7.drew.heap.size := fun b hb => Nat.lt_of_lt_of_le hb u4.size
        have hlen : (L ++ [((l0, l1, l2) : Ar)]).length = N := by rw [List.length_append]; exact HN.out
        refine ⟨⟨?_, ?_, hmap8, ⟨hap.1, u5.1, u5.2⟩, HR0.out.from_, ?_, ?_⟩, ⟨?_, ?_, ?_, ?_, ?_⟩, ?_, List.prefix_append _ _, ?_, ?_⟩
        · rw [hlen]
          exact (hgrow8.block rb (hl7 _ hrl) (by simpa using hap.1)).trans u1
        · rw [hlen, lCells_snoc]
          exact (show w7.drew.ownsRow _ _ _ _ _ _ from u2.drew).kept hgrow8 (Or.inr (by simpa [Value.ownBlock] using u5.1))
        · rw [List.nodup_append]
          refine ⟨HR0.out.nodup, by simp, ?_⟩
          intro a ha b hb e
          have e1 : b = (l0, l1, l2) := by simpa using hb
          rw [e, e1] at ha
          exact hnm ha
        · intro l hl'
          rcases List.mem_append.1 hl' with h' | h'
          · exact HR0.out.in64 l h'
          · have e1 : l = (l0, l1, l2) := by simpa using h'
            rw [e1]; exact hl
        · exact Nat.le_trans HB0.out.size (Nat.le_trans u4.size hgrow8.size)
        · exact hgrow8.os.trans (u4.os.trans HB0.out.os)
        · exact hgrow8.tape.trans (u4.tape.trans HB0.out.tape)
        · exact hgrow8.output.trans (u4.output.trans HB0.out.output)
        · intro b hb h1 h2 h3
          have hbb : b < wb.heap.size := Nat.lt_of_lt_of_le hb HB0.out.size
          exact (hgrow8.block b (hl7 b hbb) (by simpa using h2)).trans ((u4.block b hbb h1 h2 h3).trans (HB0.out.block b hb))
        · simp
        · rw [hlen]; exact Nat.le_of_eq HN.out.symm
        · rcases u6 with u6 | u6
          · exact Or.inl u6
          · exact Or.inr (Nat.le_trans HB0.out.size u6)
      clear hmap8 hgrow8 hbx7 S7 Hrow
      go_wp2_with fail
      go_region_law (fail)
      all_goals
        go_wp2_with fail
        go_ret
        exact ⟨L.length, _, _, _, by rw [HN.out]; rfl, R8.out⟩
  · obtain ⟨J, hJ⟩ : ∃ J, j + 1 = J := ⟨_, rfl⟩
    rw [hJ] at hlook
    have HJ := hidd hJ
    have Hj := hidd hj
    clear hJ hj
    go_quiet (fail)
    go_wp2_with fail
    go_ret
    refine ⟨j, L, g, cap, by rw [HJ.out]; rfl, ?_⟩
    have hB := below_drewN HBa.out nq
    exact ⟨HR.out.keep (by simp) (by simp) (by simp) (by simp), ⟨hB.size, hB.os, hB.tape, hB.output, fun b hb _ _ _ => hB.block b hb⟩, Hj.out, List.prefix_refl _, by omega, Or.inl rfl⟩
end Go.Proofs.Ytbkedgpligcicaa
