import Derived.Test.YtcnjmjcbhelkhaaMergeHitsJ08
import Derived.RangeFuncLeaves
import Derived.RangeFuncNested
import Derived.Test.YtcnjmjcbhelkhaaMergeHitsJ00
import Derived.RangeFuncBound
import Derived.RangeFuncCalls
import Derived.RangeFuncFrom
import Derived.Shelf.Abstract
import Derived.Shelf.RegionOpen
import Derived.WalkKit
import Derived.OwnWalkIn
import Derived.TacticsInMore
import Derived.LoopNIn
import Derived.LoopIn
import Derived.OrdersHeld
import Derived.OrdersIn
namespace Go.Proofs.Ytcnjmjcbhelkhaa
open Go Go.RowKit
set_option linter.unusedVariables false
set_option maxRecDepth 100000
set_option linter.unusedSimpArgs false

/-! What the merging has, a hit later. -/
theorem hitM_same {L : List (List Fd)} {b : Nat} (r : List Fd) (hb : b < L.length) : hitM (L.set b r) b = r.headD fd0 := by simp [hitM, hb]
theorem hitM_other {L : List (List Fd)} {b j : Nat} (r : List Fd) (h : j ≠ b) : hitM (L.set b r) j = hitM L j := by
  unfold hitM
  rw [List.getD_eq_getElem?_getD, List.getElem?_set_ne (fun e => h e.symm), ← List.getD_eq_getElem?_getD]
theorem setD_same {L : List (List Fd)} {b : Nat} (r : List Fd) (hb : b < L.length) : (L.set b r).getD b [] = r := by simp [hb]
theorem setD_other {L : List (List Fd)} {b j : Nat} (r : List Fd) (h : j ≠ b) : (L.set b r).getD j [] = L.getD j [] := by
  rw [List.getD_eq_getElem?_getD, List.getElem?_set_ne (fun e => h e.symm), ← List.getD_eq_getElem?_getD]
theorem gtM_congr {ds : List Bool} {h h' : Nat → Fd} {a b : Nat} (ha : h' a = h a) (hb : h' b = h b) : gtM ds h' a b = gtM ds h a b := by unfold gtM bkM; rw [ha, hb]
theorem HpAt.env {E : MEnv} {w : World} {p : Nat} {v : Value} {H : List Nat} (h : HpAt E w p v H) (ht : Nat → Fd) (d : Nat) (hs : ∀ i, i ∈ H → i ≠ d → i ≠ E.dead ∧ ht i = E.hit i) : HpAt { E with hit := ht, dead := d } w p v H := by
  refine ⟨⟨h.ok.few, h.ok.srt⟩, h.bel, h.pge, h.box, h.row, fun i hi hd => ?_⟩
  obtain ⟨h1, h2⟩ := hs i hi hd
  obtain ⟨fa, fc, nx, q1, q2, q3⟩ := h.src i hi h1
  refine ⟨fa, fc, nx, ?_, ?_, ?_⟩
  · show w.heap[E.sb i]? = some (.cells #[.string (bs (ht i).1), .int .i64 (ht i).2.1, .slice fa (ht i).2.2.length fc, .int .i64 (i : Int), nx] _)
    rw [h2]; exact q1
  · show HoldZ E.w0 fa (ht i).2.2
    rw [h2]; exact q2
  · show (ht i).2.2.length = E.ks.length
    rw [h2]; exact q3
/-- The head of the heap is the next one. -/
theorem MgS.best {w0 w : World} {ks : List (Tx × Bool)} {sa : Option Addr} {sc : Nat} {sb lb : Nat → Nat} {L : List (List Fd)} {p : Nat} {v : Value} {H : List Nat} (h : MgS (envM w0 ks sa sc sb L) lb L L.length w p v H) (h0 : 0 < H.length) : BestM (dsOf ks) L L.length (H.getD 0 0) ∧ H.getD 0 0 ∈ H := by
  have hm := getD_mem (H := H) h0
  have h1 := (h.mem _).1 hm
  refine ⟨⟨h1.1, h1.2, fun i hi hne => ?_⟩, hm⟩
  exact h.heap.top_mem (MEnv.ord _) i ((h.mem i).2 ⟨hi, hne⟩)
theorem MgS.none {w0 w : World} {ks : List (Tx × Bool)} {sa : Option Addr} {sc : Nat} {sb lb : Nat → Nat} {L : List (List Fd)} {p : Nat} {v : Value} (h : MgS (envM w0 ks sa sc sb L) lb L L.length w p v []) : ∀ i, i < L.length → L.getD i [] = [] := fun i hi => by
  apply Classical.byContradiction
  intro hne
  exact absurd ((h.mem i).2 ⟨hi, hne⟩) (by simp)
theorem HpAt.but2 {E : MEnv} {w w' : World} {p s l : Nat} {v : Value} {H : List Nat} {cs cl : Array Value} (h : HpAt E w p v H) (hb : But (fun b => b = s ∨ b = l) w w') (hs : w.heap[s]? = some (.cells cs 82)) (hl : w.heap[l]? = some (.cells cl 99))
    (hs0 : E.w0.heap.size ≤ s) (hl0 : E.w0.heap.size ≤ l) (hH : ∀ i, i ∈ H → i ≠ E.dead → E.sb i ≠ s) : HpAt E w' p v H := by
  refine h.but hb ?_ ?_ ?_ ?_
  · rintro (e | e)
    · exact blk_ne h.box hs (by decide) e
    · exact blk_ne h.box hl (by decide) e
  · rintro b e (e1 | e1)
    · obtain ⟨_, cur, hc⟩ := own_blk h.row e; exact blk_ne hc hs (by decide) e1
    · obtain ⟨_, cur, hc⟩ := own_blk h.row e; exact blk_ne hc hl (by decide) e1
  · rintro i hi hd (e | e)
    · exact hH i hi hd e
    · exact (h.src i hi hd).neP hl (by decide) e
  · rintro b hb2 (e | e)
    · omega
    · omega
theorem MgS.next {w0 w w' : World} {ks : List (Tx × Bool)} {sa : Option Addr} {sc : Nat} {sb lb : Nat → Nat} {L : List (List Fd)} {p b : Nat} {v : Value} {H : List Nat} {f g : Fd} {rest : List Fd} {fa ra : Option Addr} {fc rc : Nat}
    (h : MgS (envM w0 ks sa sc sb L) lb L L.length w p v H) (h0 : 0 < H.length) (hbe : b = H.getD 0 0) (hL : L.getD b [] = f :: g :: rest)
    (hz : HoldZ w0 fa g.2.2) (hgl : g.2.2.length = ks.length) (hs : w'.heap[sb b]? = some (.cells #[.string (bs g.1), .int .i64 g.2.1, .slice fa g.2.2.length fc, .int .i64 (b : Int), nxV (lb b)] 82))
    (hl : w'.heap[lb b]? = some (.cells #[.slice ra rest.length rc] 99)) (hfd : HoldFd w0 ra rest) (hle : rest.length ≤ rc) (hb : But (fun x => x = sb b ∨ x = lb b) w w') :
    HpAt (envM w0 ks sa sc sb (L.set b (g :: rest))) w' p v H ∧ DownInv (envM w0 ks sa sc sb (L.set b (g :: rest))).gt 0 H 0 H.length ∧
    ∀ H2 v2 w2, H2.Perm H → Heap (envM w0 ks sa sc sb (L.set b (g :: rest))).gt 0 H2 H2.length → HpAt (envM w0 ks sa sc sb (L.set b (g :: rest))) w2 p v2 H2 → Mv p w' v w2 v2 → MgS (envM w0 ks sa sc sb (L.set b (g :: rest))) lb (L.set b (g :: rest)) (L.set b (g :: rest)).length w2 p v2 H2 := by
  have hbm : b ∈ H := by rw [hbe]; exact getD_mem h0
  have hbl := ((h.mem b).1 hbm).1
  obtain ⟨qa, qc, ra0, rc0, q1, q2, q3, q4, q5, q6⟩ := h.src b hbm
  have hnew := h.new b hbm
  have hhb : hitM (L.set b (g :: rest)) b = g := by rw [hitM_same _ hbl]; rfl
  -- the others, with b left out
  have hd : HpAt { envM w0 ks sa sc sb L with hit := hitM L, dead := b } w p v H := h.hp.env (hitM L) b fun i hi _ => ⟨h.dead i hi, rfl⟩
  have hd2 : HpAt { envM w0 ks sa sc sb L with hit := hitM L, dead := b } w' p v H := hd.but2 hb q1 q4 hnew.1 hnew.2 fun i hi hne => (h.inj i b hi hbm hne).1
  have hsrc : ∀ j, j ∈ H → SrcAt (envM w0 ks sa sc sb (L.set b (g :: rest))) lb w' j ((L.set b (g :: rest)).getD j []).tail := fun j hj => by
    by_cases e : j = b
    · subst e
      rw [setD_same _ hbl]
      refine ⟨fa, fc, ra, rc, ?_, ?_, ?_, hl, hfd, hle⟩
      · show w'.heap[sb j]? = some (.cells #[.string (bs (hitM (L.set j (g :: rest)) j).1), .int .i64 (hitM (L.set j (g :: rest)) j).2.1, .slice fa (hitM (L.set j (g :: rest)) j).2.2.length fc, .int .i64 (j : Int), nxV (lb j)] _)
        rw [hhb]; exact hs
      · show HoldZ w0 fa (hitM (L.set j (g :: rest)) j).2.2
        rw [hhb]; exact hz
      · show (hitM (L.set j (g :: rest)) j).2.2.length = ks.length
        rw [hhb]; exact hgl
    · rw [setD_other _ e]
      have hi := h.inj j b hj hbm e
      obtain ⟨xa, xc, xr, xrc, x1, x2, x3, x4, x5⟩ := h.src j hj
      have hlt := (h.src j hj).lt
      have k1 : w'.heap[sb j]? = w.heap[sb j]? := hb.block _ hlt.1 (by
        rintro (e1 | e1)
        · exact hi.1 e1
        · exact blk_ne x1 q4 (by decide) e1)
      have k2 : w'.heap[lb j]? = w.heap[lb j]? := hb.block _ hlt.2 (by
        rintro (e1 | e1)
        · exact blk_ne x4 q1 (by decide) e1
        · exact hi.2 e1)
      refine ⟨xa, xc, xr, xrc, ?_, ?_, ?_, k2.trans x4, x5⟩
      · show w'.heap[sb j]? = some (.cells #[.string (bs (hitM (L.set b (g :: rest)) j).1), .int .i64 (hitM (L.set b (g :: rest)) j).2.1, .slice xa (hitM (L.set b (g :: rest)) j).2.2.length xc, .int .i64 (j : Int), nxV (lb j)] _)
        rw [hitM_other _ e]; exact k1.trans x1
      · show HoldZ w0 xa (hitM (L.set b (g :: rest)) j).2.2
        rw [hitM_other _ e]; exact x2
      · show (hitM (L.set b (g :: rest)) j).2.2.length = ks.length
        rw [hitM_other _ e]; exact x3
  have hp' : HpAt (envM w0 ks sa sc sb (L.set b (g :: rest))) w' p v H := by
    refine ⟨⟨h.hp.ok.few, h.hp.ok.srt⟩, hd2.bel, hd2.pge, hd2.box, hd2.row, fun i hi _ => (hsrc i hi).hit⟩
  refine ⟨hp', ⟨fun k k0 kl hpar => ?_, fun h1 => absurd h1 (by omega), Nat.le_refl _⟩, fun H2 v2 w2 hperm hheap hH2 hm => ?_⟩
  · have hk := h.heap k k0 kl
    have inj0 : ∀ t, t < H.length → t ≠ 0 → H.getD t 0 ≠ b := fun t ht ht0 e => by
      rw [hbe, List.getD_eq_getElem?_getD, List.getD_eq_getElem?_getD, List.getElem?_eq_getElem ht, List.getElem?_eq_getElem h0] at e
      exact ht0 ((List.getElem_inj h.nd).1 (by simpa using e))
    rw [← hk]
    exact gtM_congr (hitM_other _ (inj0 k kl (by omega))) (hitM_other _ (inj0 _ (by omega) hpar))
  · have hmem : ∀ j, j ∈ H2 ↔ j ∈ H := fun j => hperm.mem_iff
    refine ⟨hH2, hheap, rfl, hperm.nodup_iff.2 h.nd, fun j => ?_, fun j hj => h.dead j ((hmem j).1 hj), by rw [List.length_set]; exact h.few, Nat.le_refl _, fun j hj => (hsrc j ((hmem j).1 hj)).mv hp' hm, fun j hj => h.new j ((hmem j).1 hj), fun i j hi hj => h.inj i j ((hmem i).1 hi) ((hmem j).1 hj)⟩
    rw [hmem, h.mem, List.length_set]
    by_cases e : j = b
    · subst e
      rw [setD_same _ hbl, hL]
      simp
    · rw [setD_other _ e]
theorem MgS.drop {w0 w w' w2 : World} {ks : List (Tx × Bool)} {sa : Option Addr} {sc : Nat} {sb lb : Nat → Nat} {L : List (List Fd)} {p b : Nat} {v v2 : Value} {H H2 : List Nat} {f : Fd}
    (h : MgS (envM w0 ks sa sc sb L) lb L L.length w p v H) (h0 : 0 < H.length) (hbe : b = H.getD 0 0) (hL : L.getD b [] = [f]) (hb : But (fun x => x = sb b) w w') :
    HpAt { envM w0 ks sa sc sb L with hit := hitM L, dead := b } w' p v H ∧ (∀ k, 0 < k → k < H.length → H.getD k 0 ≠ b) ∧
    ((H2 ++ [b]).Perm H → Heap (envM w0 ks sa sc sb L).gt 0 H2 H2.length → HpAt { envM w0 ks sa sc sb L with hit := hitM L, dead := b } w2 p v2 H2 → Mv p w' v w2 v2 → MgS (envM w0 ks sa sc sb (L.set b [])) lb (L.set b []) (L.set b []).length w2 p v2 H2) := by
  have hbm : b ∈ H := by rw [hbe]; exact getD_mem h0
  have hbl := ((h.mem b).1 hbm).1
  obtain ⟨qa, qc, ra0, rc0, q1, q2, q3, q4, q5, q6⟩ := h.src b hbm
  have hnew := h.new b hbm
  have hd : HpAt { envM w0 ks sa sc sb L with hit := hitM L, dead := b } w p v H := h.hp.env (hitM L) b fun i hi _ => ⟨h.dead i hi, rfl⟩
  have hd2 : HpAt { envM w0 ks sa sc sb L with hit := hitM L, dead := b } w' p v H := hd.but2 (hb.mono fun x _ e => Or.inl e) q1 q4 hnew.1 hnew.2 fun i hi hne => (h.inj i b hi hbm hne).1
  refine ⟨hd2, fun t ht0 ht e => ?_, fun hperm hheap hH2 hm => ?_⟩
  · rw [hbe, List.getD_eq_getElem?_getD, List.getD_eq_getElem?_getD, List.getElem?_eq_getElem ht, List.getElem?_eq_getElem h0] at e
    have := (List.getElem_inj h.nd).1 (by simpa using e)
    omega
  · have hndp : (H2 ++ [b]).Nodup := hperm.nodup_iff.2 h.nd
    have hnb : b ∉ H2 := fun e => (List.nodup_append.1 hndp).2.2 b e b (by simp) rfl
    have hmem : ∀ j, j ∈ H2 ↔ j ∈ H ∧ j ≠ b := fun j => by
      rw [← hperm.mem_iff]
      simp only [List.mem_append, List.mem_singleton]
      constructor
      · intro hj; exact ⟨.inl hj, fun e => hnb (e ▸ hj)⟩
      · rintro ⟨h1 | h1, h2⟩
        · exact h1
        · exact absurd h1 h2
    have hsrc : ∀ j, j ∈ H2 → SrcAt { envM w0 ks sa sc sb L with hit := hitM L, dead := b } lb w' j (L.getD j []).tail := fun j hj => by
      obtain ⟨hjH, e⟩ := (hmem j).1 hj
      have hi := h.inj j b hjH hbm e
      obtain ⟨xa, xc, xr, xrc, x1, x2, x3, x4, x5⟩ := h.src j hjH
      have hlt := (h.src j hjH).lt
      exact ⟨xa, xc, xr, xrc, (hb.block _ hlt.1 (fun e1 => hi.1 e1)).trans x1, x2, x3, (hb.block _ hlt.2 (fun e1 => blk_ne x4 q1 (by decide) e1)).trans x4, x5⟩
    have hH3 : HpAt (envM w0 ks sa sc sb (L.set b [])) w2 p v2 H2 := hH2.env (hitM (L.set b [])) 1000 fun i hi _ => ⟨((hmem i).1 hi).2, hitM_other _ ((hmem i).1 hi).2⟩
    refine ⟨hH3, ?_, rfl, (List.nodup_append.1 hndp).1, fun j => ?_, fun j hj => h.dead j ((hmem j).1 hj).1, by rw [List.length_set]; exact h.few, Nat.le_refl _, fun j hj => ?_, fun j hj => h.new j ((hmem j).1 hj).1, fun i j hi hj => h.inj i j ((hmem i).1 hi).1 ((hmem j).1 hj).1⟩
    · intro k k0 kl
      rw [← hheap k k0 kl]
      exact gtM_congr (hitM_other _ ((hmem _).1 (getD_mem kl)).2) (hitM_other _ ((hmem _).1 (getD_mem (by omega))).2)
    · rw [hmem, h.mem, List.length_set]
      by_cases e : j = b
      · subst e
        rw [setD_same _ hbl]
        simp
      · rw [setD_other _ e]; simp [e]
    · have hne := ((hmem j).1 hj).2
      rw [setD_other _ hne]
      obtain ⟨xa, xc, xr, xrc, x1, x2, x3, x4, x5⟩ := (hsrc j hj).mv hd2 hm
      refine ⟨xa, xc, xr, xrc, ?_, ?_, ?_, x4, x5⟩
      · show w2.heap[sb j]? = some (.cells #[.string (bs (hitM (L.set b []) j).1), .int .i64 (hitM (L.set b []) j).2.1, .slice xa (hitM (L.set b []) j).2.2.length xc, .int .i64 (j : Int), nxV (lb j)] _)
        rw [hitM_other _ hne]; exact x1
      · show HoldZ w0 xa (hitM (L.set b []) j).2.2
        rw [hitM_other _ hne]; exact x2
      · show (hitM (L.set b []) j).2.2.length = ks.length
        rw [hitM_other _ hne]; exact x3
end Go.Proofs.Ytcnjmjcbhelkhaa

namespace Go.Proofs.Ytcnjmjcbhelkhaa
open Go Go.RowKit
set_option linter.unusedVariables false

/-- Marks among the deferred calls of an activation: of each loop over an iterator that was left. -/
def mark (D : Nat) : Deferred := { target := .collected D, args := #[] }
structure Marks (w : World) (B : Nat) (Ds : List Nat) : Prop where
  nodup : Ds.Nodup
  at_ : ∀ D ∈ Ds, B ≤ D ∧ w.heap[D]? = some (.deferred (some []))
/-- Cells that stay, but for those that a call has laid. -/
def KeepD (w w' : World) : Prop := ∀ D : Nat, w.heap[D]? = some (.deferred (some [])) → w'.heap[D]? = some (.deferred (some []))
theorem Marks.keep {w w' : World} {B : Nat} {Ds : List Nat} (h : Marks w B Ds) (hk : KeepD w w') : Marks w' B Ds := ⟨h.nodup, fun D hD => ⟨(h.at_ D hD).1, hk D (h.at_ D hD).2⟩⟩
theorem Marks.push {w : World} {B D : Nat} {Ds : List Nat} (h : Marks w B Ds) (hB : B ≤ D) (hD : w.heap[D]? = some (.deferred (some []))) (hn : D ∉ Ds) : Marks w B (D :: Ds) :=
  ⟨List.nodup_cons.2 ⟨hn, h.nodup⟩, fun x hx => by
    rcases List.mem_cons.1 hx with rfl | hx
    · exact ⟨hB, hD⟩
    · exact h.at_ x hx⟩
theorem Marks.lt {w : World} {B : Nat} {Ds : List Nat} (h : Marks w B Ds) {D : Nat} (hD : D ∈ Ds) : D < w.heap.size := (Array.getElem?_eq_some_iff.1 (h.at_ D hD).2).1
/-- All but marks stays. -/
structure AllBut (w w' : World) : Prop where
  os : w'.os = w.os
  tape : w'.tape = w.tape
  output : w'.output = w.output
  size : w'.heap.size = w.heap.size
  block : ∀ b : Nat, w.heap[b]? ≠ some (.deferred (some [])) → w'.heap[b]? = w.heap[b]?
theorem AllBut.refl (w : World) : AllBut w w := ⟨rfl, rfl, rfl, rfl, fun _ _ => rfl⟩
theorem leaves_marks {F : Fence} {n : Nat} {P : Program} {fn : Func} {tmps : Array Value} {R : Ending → World → Prop} {B : Nat} : ∀ (Ds : List Nat) (w0 w : World), Marks w B Ds → AllBut w0 w → Below B w0 w →
    (∀ w', AllBut w0 w' → Below B w0 w' → LeavesIn F n P fn tmps R [] .returning w') → LeavesInM F n P fn tmps R (Ds.map mark) .returning w
  | [], w0, w, _, ha, hb, h => h w ha hb
  | D :: Ds, w0, w, hm, ha, hb, h => by
    have hD := (hm.at_ D (by simp)).2
    have hB := (hm.at_ D (by simp)).1
    have hnd := List.nodup_cons.1 hm.nodup
    refine ⟨by simp, .inl ⟨D, _, rfl, run_takeDeferred hD, ?_⟩⟩
    refine leaves_marks Ds w0 (w.putObj D (.deferred none)) ⟨hnd.2, fun x hx => ⟨(hm.at_ x (by simp [hx])).1, ?_⟩⟩ ?_ ?_ h
    · rw [World.putObj_heap_other (fun e => by subst e; exact hnd.1 hx)]
      exact (hm.at_ x (by simp [hx])).2
    · refine ⟨ha.os, ha.tape, ha.output, by rw [← ha.size]; simp [World.putObj], fun b hb' => ?_⟩
      have hne : b ≠ D := by
        rintro rfl
        by_cases hq : w0.heap[b]? = some (.deferred (some []))
        · exact hb' hq
        · exact hq ((ha.block b hb').symm.trans hD)
      rw [World.putObj_heap_other hne]
      exact ha.block b hb'
    · refine ⟨hb.os, hb.tape, hb.output, by have := hb.size; simpa [World.putObj] using this, fun b hb' => ?_⟩
      rw [World.putObj_heap_other (by omega)]
      exact hb.block b hb'
end Go.Proofs.Ytcnjmjcbhelkhaa

namespace Go.Proofs.Ytcnjmjcbhelkhaa
open Go Go.RowKit Go.Shelf
set_option linter.unusedVariables false
set_option maxRecDepth 100000

/-- The two blocks of a range over a function: its record and the place of its deferred calls. -/
structure RecAt (h : Nat) (r : Loop) (W : World) : Prop where
  rc : W.heap[h + 1]? = some (.loop r)
  df : W.heap[h]? = some (.deferred (some []))
end Go.Proofs.Ytcnjmjcbhelkhaa

namespace Go.Proofs.Ytcnjmjcbhelkhaa
open Go Go.RowKit
set_option linter.unusedVariables false

/-! A region that draws, in a round: as everywhere, if it defers nothing. -/
def noDefer (ops : Array Oper) : Bool := ops.toList.all fun o => match o.op with
  | .defer _ => false
  | _ => true
theorem noDefer_at {ops : Array Oper} (h : noDefer ops = true) {i : Nat} {o : Oper} (ho : ops[i]? = some o) : ∀ c, o.op ≠ .defer c := by
  intro c e
  have hm : o ∈ ops.toList := by
    have := List.mem_of_getElem? (by rw [Array.getElem?_toList]; exact ho : ops.toList[i]? = some o)
    exact this
  have := List.all_eq_true.1 h o hm
  rw [e] at this
  cases this
theorem wpOpIn_round {l m : Nat} {P : Program} {ops : Array Oper} {Q : Exit → Act → World → Prop} (hd : noDefer ops = true) (hno : ¬ LetsOut Q) {i : Nat} {K K' : Act → World → Prop} (hk : ∀ a w, K a w → K' a w) {a : Act} {w : World}
    (h : wpOp P ops Q i K a w) : wpOpIn (Fence.wide.inRound l) m P ops Q i K' a w := by
  unfold wpOp at h
  unfold wpOpIn
  cases ho : ops[i]? with
  | none => simp only [ho] at h ⊢; exact hk _ _ h
  | some o =>
    simp only [ho] at h ⊢
    split
    · rename_i hw
      simp only [hw, if_true] at h
      have h' := h.resolve_right (fun h2 => hno h2.2)
      unfold Oper.wp at h'
      unfold Oper.wpIn
      refine ⟨fun f _ => trivial, ?_⟩
      show o.uponIn (Fence.wide.inRound l) m P a K' Q ((o.semAt (some l) a.eval).run P w)
      rw [Oper.semAt_some l a.eval o (noDefer_at hd ho)]
      generalize (execOp a.eval o).run P w = r at h'
      cases r with
      | ok x w' =>
        cases x with
        | value v => exact hk _ _ h'
        | skip => exact hk _ _ h'
        | defer d => exact hk _ _ h'
        | enter f args =>
          refine ⟨(fun h => by cases h), CallsIn.inRound l (callsIn_wide.2 ?_)⟩
          refine Calls.mono h' ?_
          intro e w2 he
          cases e <;> first | exact hk _ _ he | exact he
        | row r args =>
          refine ⟨(fun h => by cases h), fun c cs _ => ?_⟩
          obtain ⟨v, w2, hq, hst⟩ := h' c cs
          exact ⟨v, w2, hk _ _ hq, stepsIn_wide.2 hst⟩
        | _ => exact h'.elim
      | halt x w' => cases x <;> first | exact h' | exact h'.elim
    · rename_i hw
      simp only [hw] at h
      exact ⟨fun f _ => trivial, hk _ _ h⟩
theorem wpAnyIn_round {l m : Nat} {P : Program} {md : Region.Mode} {ops : Array Oper} {Q : Exit → Act → World → Prop} (hd : noDefer ops = true) (hno : ¬ LetsOut Q) : ∀ (fuel : Nat) (listed : Array Bool) (a : Act) (w : World), wpAny P md ops Q fuel listed a w → wpAnyIn (Fence.wide.inRound l) m P md ops Q fuel listed a w
  | 0, _, _, _, h => h
  | fuel + 1, _, _, _, h => ⟨h.1, fun i hi => wpOpIn_round hd hno (fun a' w' h' => wpAnyIn_round hd hno fuel _ a' w' h') (h.2 i hi)⟩
end Go.Proofs.Ytcnjmjcbhelkhaa
