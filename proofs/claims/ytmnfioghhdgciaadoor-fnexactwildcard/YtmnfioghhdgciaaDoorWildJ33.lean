import Derived.RangeFuncNested
import Derived.RangeFuncBound
import Derived.RangeFuncCalls
import Derived.RangeFuncLeaves
import Derived.RangeFuncFrom
import Derived.Shelf.Abstract
import Derived.Shelf.RegionOpen
import Derived.WalkKit
import Derived.OwnWalkIn
import Derived.TacticsInMore
import Derived.LoopNIn
import Derived.LoopIn
import Derived.Test.YtmnfioghhdgciaaDoorWildJ32
import Derived.Test.YtmnfioghhdgciaaDoorWildJ00
import Derived.WalkMore
import Derived.Test.YtmnfioghhdgciaaDoorWildJ02
import Derived.Lib.SlicesCompact
import Derived.Ground.NamesProg
import Derived.Shelf.Sort.Plain
import Derived.Shelf.Slices.CompactI
import Derived.Test.YtmnfioghhdgciaaDoorProg
namespace Go.Proofs.YtmnfioghhdgciaaDoor
open Go Go.RowKit Go.Shelf
set_option linter.unusedVariables false
set_option maxRecDepth 100000

/-- The two blocks of a range over a function: its record and the place of its deferred calls. -/
structure RecAt (h : Nat) (r : Loop) (W : World) : Prop where
  rc : W.heap[h + 1]? = some (.loop r)
  df : W.heap[h]? = some (.deferred (some []))
/-- A range over a function with a statement of one's own for every state: what the iterator wants of a round. -/
def YieldI {α : Type} (P : Program) (h : Nat) (r : Loop) (I : α → World → Prop) (live : α → Prop) (args : α → Array Value) (next : α → α) : Prop := ∀ (m : Nat) (x : α) (W : World), live x → I x W → RecAt h r W →
  YieldAt Fence.wide m P (h + 1) (args x) W fun e W' => e = .returned (.bool true) ∧ I (next x) W' ∧ RecAt h r W'
theorem range_inv {α : Type} {n : Nat} {P : Program} {g : Operand} {ps : Array Tmp} {assign body : Go.Code} {Q : Exit → Act → World → Prop} {a : Act} {w : World} {gf : Nat} {lb : Array Value}
    (hg : a.eval g = .func (.func gf) #[] lb) (eg : ∀ args w, (callFunc gf args).run P w = .ok (.enter gf args) w)
    (I : α → World → Prop) (live : α → Prop) (args : α → Array Value) (next : α → α) (x0 xN : α) (hps : ∀ x, (args x).size = ps.size)
    (hput : ∀ x W o, I x W → I x (W.putObj (w.heap.size + 1) o))
    (h0 : ∀ W1, Below w.heap.size w W1 → W1.heap.size = w.heap.size + 2 → I x0 W1)
    (hit : ∀ (r : Loop) (W1 : World), Below w.heap.size w W1 → YieldI P w.heap.size r I live args next → I x0 W1 → RecAt w.heap.size r W1 →
      CallsIn Fence.wide (n - 1) P gf (#[.func (.yield (w.heap.size + 1)) #[] #[]] ++ lb) W1 fun e W' => (∃ v, e = .returned v) ∧ I xN W' ∧ RecAt w.heap.size r W')
    (a₁ : α → Act)
    (hassign : ∀ (l m : Nat) (x : α) (W : World) (K : Act → World → Prop), K (a₁ x) W → assign.wpIn (Fence.wide.inRound l) m P (Exit.then K (fun _ _ _ => False)) { tmps := (ps.zip (args x)).foldl (fun t (p, v) => t.setIfInBounds p v) a.tmps, defers := [] } W)
    (hbody : ∀ (m : Nat) (x : α) (W : World), live x → I x W → w.heap.size + 1 < W.heap.size → (∃ r, W.heap[w.heap.size + 1]? = some (.loop r)) → W.heap[w.heap.size]? = some (.deferred (some [])) →
      body.wpIn (Fence.wide.inRound (w.heap.size + 1)) m P (fun e _ W' => e = .normal ∧ I (next x) W' ∧ W'.heap[w.heap.size]? = W.heap[w.heap.size]? ∧ W'.heap[w.heap.size + 1]? = W.heap[w.heap.size + 1]?) (a₁ x) W)
    (hdone : ∀ W' : World, I xN W' → W'.heap[w.heap.size]? = some (.deferred (some [])) → Q .normal { a with defers := { target := .collected w.heap.size, args := #[] } :: a.defers } W') :
    (Code.rangeFunc g ps assign body).wpIn Fence.wide n P Q a w := by
  refine wpIn_rangeFunc fun fn hfn => ?_
  obtain ⟨r0, hr0⟩ : ∃ r0 : Loop, r0 = { state := .ready, pending := none, fn, tmps := a.tmps, params := ps, assign, body, defers := w.heap.size } := ⟨_, rfl⟩
  obtain ⟨W1, hW1⟩ : ∃ W1, (w.alloc (.deferred (some []))).alloc (.loop r0) = W1 := ⟨_, rfl⟩
  have hB1 : Below w.heap.size w W1 := by rw [← hW1]; exact ((Below.refl _ w).alloc (Nat.le_refl _) _).alloc (by simp) _
  have hz1 : W1.heap.size = w.heap.size + 2 := by rw [← hW1]; simp
  have hC1 : RecAt w.heap.size r0 W1 := by
    refine ⟨?_, ?_⟩
    · rw [← hW1]; have := World.alloc_heap_new (w.alloc (.deferred (some []))) (.loop r0); rwa [World.size_alloc] at this
    · rw [← hW1]; exact (Below.heap_alloc _ _ _ (by simp)).trans (World.alloc_heap_new w _)
  refine ⟨w.heap.size + 1, [{ target := .collected w.heap.size, args := #[] }], W1, { target := .fn (.func gf) lb, args := #[.func (.yield (w.heap.size + 1)) #[] #[]] }, W1, gf,
    #[.func (.yield (w.heap.size + 1)) #[] #[]] ++ lb, W1, ?_, ?_, fun _ _ => trivial, ?_, fun h => (by cases h), ?_⟩
  · rw [← hW1, hr0]; exact run_enterLoop_outer _ _ _ _ _
  · simp only [resolve, hg]
    simp [go_sem]
  · simp [invoke, go_sem, eg]
  · refine (hit r0 W1 hB1 ?_ (h0 W1 hB1 hz1) hC1).mono ?_
    · intro m x W hk hI hc
      have hl := hc.rc
      have hlt : w.heap.size + 1 < W.heap.size := (Array.getElem?_eq_some_iff.1 hl).1
      have hy := run_yield (P := P) (args := args x) hl (by rw [hr0]; exact hps x)
      rw [hr0] at hy
      refine ⟨fn, _, assign, body, hy, roundIn_of_wpIn hfn (hassign _ m x W _ ⟨_, run_beginRound hl (by rw [hr0]), ?_⟩)⟩
      obtain ⟨W2, hW2⟩ : ∃ W2, W.putObj (w.heap.size + 1) (.loop { r0 with state := .busy }) = W2 := ⟨_, rfl⟩
      rw [hW2]
      have hI2 : I x W2 := by rw [← hW2]; exact hput x W _ hI
      have hl2 : W2.heap[w.heap.size + 1]? = some (.loop { r0 with state := .busy }) := by rw [← hW2]; exact World.putObj_heap_same hlt
      have hd2 : W2.heap[w.heap.size]? = some (.deferred (some [])) := by rw [← hW2]; exact (World.putObj_heap_other (by omega)).trans hc.df
      have hs2 : w.heap.size + 1 < W2.heap.size := (Array.getElem?_eq_some_iff.1 hl2).1
      refine wpIn_mono (hbody m x W2 hk hI2 hs2 ⟨_, hl2⟩ hd2) ?_
      rintro e a3 W3 ⟨rfl, hI3, hd3, hr3⟩
      have hl3 : W3.heap[w.heap.size + 1]? = some (.loop { r0 with state := .busy }) := hr3.trans hl2
      have hlt3 := (Array.getElem?_eq_some_iff.1 hl3).1
      have hend := run_endRound (P := P) none hl3
      have hrec : ({ { r0 with state := .busy } with state := if (none : Option Go.Code).isNone then .ready else .done, pending := none } : Loop) = r0 := by rw [hr0]; rfl
      rw [hrec] at hend
      refine ⟨_, _, hend, rfl, hput _ _ _ hI3, World.putObj_heap_same hlt3, (World.putObj_heap_other (by omega)).trans (hd3.trans hd2)⟩
    · rintro e W2 ⟨⟨v, rfl⟩, hI2, hc⟩
      have hend := run_endLoop (P := P) hc.rc (by rw [hr0]; simp)
      have hpn : r0.pending = none := by rw [hr0]
      rw [hpn] at hend
      exact ⟨none, _, hend, hdone _ (hput _ _ _ hI2) ((World.putObj_heap_other (by omega)).trans hc.df)⟩
end Go.Proofs.YtmnfioghhdgciaaDoor

namespace Go.Proofs.YtmnfioghhdgciaaDoor
open Go Go.RowKit Go.Shelf
set_option linter.unusedVariables false
set_option maxRecDepth 100000
set_option linter.unusedSimpArgs false

/-! The numbers of a slice, gathered one by one. -/
def atZ (zs : List Int) (i : Nat) : Int := zs.getD i 0
attribute [local go_sem] Oper.semAt_some
set_option maxHeartbeats 4000000 in
theorem valsN_any (n : Nat) (hn : 1 ≤ n) (l Bs cap : Nat) (ad : Option Addr) (zs : List Int) (hN : zs.length ≤ 1048576) (J : Nat → World → Prop)
    (hJ : ∀ c W, J c W → W.cell? ⟨Bs, 0, none⟩ = some (.slice ad zs.length cap) ∧ ∀ i, i < zs.length → ∃ g off, ad = some ⟨g, off, none⟩ ∧ W.cell? ⟨g, off + i, none⟩ = some (.int .i64 (atZ zs i)))
    (hY : ∀ c W, c < zs.length → J c W → YieldAt Fence.wide (n - 1) Tryd.prog l #[.int .i64 (atZ zs c)] W fun e W' => e = .returned (.bool true) ∧ J (c + 1) W')
    (W : World) (h0 : J 0 W) :
    CallsIn Fence.wide n Tryd.prog 65 #[.func (.yield l) #[] #[], .pointer (some ⟨Bs, 0, none⟩)] W fun e W' => (∃ v, e = .returned v) ∧ J zs.length W' := by
  refine callsIn_of_wp Tryd.func65 rfl trivial ?_ rfl
  simp only [Tryd.ntmps65, List.size_toArray, List.length_cons, List.length_nil, Nat.reduceAdd, Nat.reduceSub, Array.replicate_succ, Array.replicate_zero, List.push_toArray, List.append_toArray, List.nil_append, List.cons_append]
  have k0 := (hJ 0 W h0).1
  gi_wp2
  gi_loopw [7] (fun i wr => ∃ c : Nat, i = .int .i64 (c : Int) ∧ c ≤ zs.length ∧ J c wr) (fun i _ => zs.length - (intOf i).toNat)
  case atStart => exact ⟨0, by go_num, Nat.zero_le _, h0⟩
  case round =>
    obtain ⟨c, rfl, hc, hJc⟩ := hrel
    have HJ := hidd hJc
    have HJJ := hidd hJ
    have HYY := hidd hY
    clear hJc k0 h0 hJ hY
    by_cases hcl : c < zs.length
    · have hxl : (c : Int) < (zs.length : Int) := by omega
      obtain ⟨g, off, rfl, x0⟩ := (HJJ.out _ _ HJ.out).2 c hcl
      obtain ⟨fn, tmps, assign, body, hy, hR⟩ := HYY.out c wr hcl HJ.out
      gi_wp2
      refine hR.mono ?_
      rintro e W3 ⟨rfl, hJ3⟩
      gi_wp2
      go_roundw
      · exact ⟨c + 1, by go_num, by omega, hJ3⟩
      · simp [intOf]; omega
    · have hxl : ¬ (c : Int) < (zs.length : Int) := by omega
      obtain rfl : c = zs.length := by omega
      gi_wp2
      go_end0
      exact ⟨⟨_, rfl⟩, HJ.out⟩
theorem valsF_any (s : Option Addr) (n cap : Nat) (w : World) : Calls Tryd.prog 40 #[.slice s n cap] w fun e w' => e = .returned (.func (.func 65) #[] #[.pointer (some ⟨w.heap.size, 0, none⟩)]) ∧ w' = w.alloc (.cells #[.slice s n cap] 30) := by
  go_enter Tryd.func40, Tryd.ntmps40
  go_wp2
  go_ret
  exact ⟨rfl, rfl⟩
theorem own_sl1 {W : World} {base e n : Nat} {v : Value} {xs : List Value} (h : W.ownsRow base e 1 v n xs) : ∃ ad cap, v = .slice ad n cap := by
  rcases h.2 with ⟨h1, h2⟩ | ⟨g, cap, _, h1, _⟩
  · exact ⟨none, 0, by rw [h1, h2]⟩
  · exact ⟨_, cap, h1⟩
/-- What AppendSeq has after k rounds. -/
structure ApI (w : World) (zs : List Int) (k : Nat) (W : World) : Prop where
  below : Below w.heap.size w W
  sz : w.heap.size + 2 < W.heap.size
  row : ∃ v, W.heap[w.heap.size]? = some (.cells #[v] 30) ∧ W.ownsRow (w.heap.size + 3) 3 1 v k (zI (zs.take k))
set_option maxHeartbeats 4000000 in
theorem appendSeq_any (Bs cap : Nat) (ad : Option Addr) (zs : List Int) (w : World) (hN : zs.length ≤ 1048576) (hb : w.cell? ⟨Bs, 0, none⟩ = some (.slice ad zs.length cap)) (hz : ∀ i, i < zs.length → ∃ g off, ad = some ⟨g, off, none⟩ ∧ w.cell? ⟨g, off + i, none⟩ = some (.int .i64 (atZ zs i))) :
    Calls Tryd.prog 73 #[.slice none 0 0, .func (.func 65) #[] #[.pointer (some ⟨Bs, 0, none⟩)]] w fun e w' => ∃ v, e = .returned v ∧ w'.ownsRow w.heap.size 3 1 v zs.length (zI zs) ∧ Below w.heap.size w w' := by
  obtain ⟨i0, hi, hz0, hz1, hz2⟩ := info_parts Tryd.infoIntL
  have HB := hidd hb
  have HZ := hidd hz
  have hsz1 : (w.alloc (.cells #[.slice none 0 0] 30)).heap.size = w.heap.size + 1 := by simp
  have hb1 : Below w.heap.size w (w.alloc (.cells #[.slice none 0 0] 30)) := (Below.refl _ _).alloc (Nat.le_refl _) _
  have hn1 : (w.alloc (.cells #[.slice none 0 0] 30)).heap[w.heap.size]? = some (.cells #[.slice none 0 0] 30) := heap_alloc_new _ _
  clear hb hz
  refine (callsIn_wide (n := 4)).1 ?_
  refine callsIn_of_wp_marks Tryd.func73 rfl trivial ?_ rfl
  simp only [Tryd.ntmps73, List.size_toArray, List.length_cons, List.length_nil, Nat.reduceAdd, Nat.reduceSub, Array.replicate_succ, Array.replicate_zero, List.push_toArray, List.append_toArray, List.nil_append, List.cons_append]
  refine wpIn_wide.2 ?_
  go_wp2_with fail
  refine (wpIn_wide (n := 4)).1 ?_
  apply range_inv (gf := 65) (lb := #[.pointer (some ⟨Bs, 0, none⟩)]) (I := ApI w zs) (live := fun c => c < zs.length) (args := fun c => #[.int .i64 (atZ zs c)]) (next := fun c => c + 1) (x0 := 0) (xN := zs.length)
  case hassign =>
    intro l m x Wx K hK
    gi_wp2
    exact hK
  case hg => rfl
  case eg => exact enters_of Tryd.func65 (by kernel_rfl) rfl
  case hps => intro x; rfl
  case hput =>
    intro x Wx o hI
    obtain ⟨v, h1, h2⟩ := hI.row
    rw [hsz1]
    refine ⟨⟨hI.below.os, hI.below.tape, hI.below.output, by simpa using hI.below.size, fun b hb => (World.putObj_heap_other (by omega)).trans (hI.below.block b hb)⟩, by simpa using hI.sz, v, (World.putObj_heap_other (by omega)).trans h1, own_congr h2 (fun b hk => World.putObj_heap_other (by have := (own_blk h2 hk).1; omega))⟩
  case h0 =>
    intro Wx hbx hszx
    exact ⟨hb1.trans (hbx.mono hb1.size), by omega, _, blko hn1 hbx, World.ownsRow_nil _ _ _ _⟩
  case hit =>
    intro r Wx hbx hy hI hrec
    refine (valsN_any 3 (by omega) _ Bs cap ad zs hN (fun c Wy => ApI w zs c Wy ∧ RecAt (w.alloc (.cells #[.slice none 0 0] 30)).heap.size r Wy) ?_ ?_ Wx ⟨hI, hrec⟩).mono ?_
    · rintro c Wy ⟨h1, h2⟩
      refine ⟨(h1.below.cell (p := ⟨Bs, 0, none⟩) (cell_lt HB.out)).trans HB.out, fun i hi => ?_⟩
      obtain ⟨g, off, e1, e2⟩ := HZ.out i hi
      exact ⟨g, off, e1, (h1.below.cell (p := ⟨g, off + i, none⟩) (cell_lt e2)).trans e2⟩
    · rintro c Wy hc ⟨h1, h2⟩
      exact hy 2 c Wy hc h1 h2
    · rintro e Wy ⟨h1, h2, h3⟩
      exact ⟨h1, h2, h3⟩
  case hbody =>
    rintro m c Wx hc hI hszx hrec hdf
    obtain ⟨v, h1, h2⟩ := hI.row
    have k1 : Wx.cell? ⟨w.heap.size, 0, none⟩ = some v := blkc h1 0
    have HI := hidd hI
    have HR := hidd h2
    have hsx := hI.sz
    have h1b := h1
    have Htk : Hid (zs.take (c + 1) = zs.take c ++ [atZ zs c]) := by
      show _ = _
      unfold atZ
      rw [List.take_succ_eq_append_getElem hc, List.getD_eq_getElem?_getD, List.getElem?_eq_getElem hc]; rfl
    have HH1 := hidd h1
    generalize atZ zs c = x at *
    clear hI h1 h2 h1b hrec hdf
    gi_wp2_with (gi_at_builtin; refine wpListIn_append_own _ rfl _ _ 30 rfl (w.heap.size + 3) 3 i0 (.int .i64 0) 1 8 Tryd.underlying30 hi hz0 hz1 hz2 rfl (by decide) v c (zI (zs.take c)) rfl (HR.out.alloc _) ⟨Wx.heap.size, 0, none⟩ 1 1 [.int .i64 x] rfl rfl (cell_one_new _ _ _) (by simp [Value.oneCell']) (by unfold maxLen; omega) (by omega) (by simp; omega) ?_)
    intro v' W3 hown3 hgrow3 hnil3
    have hsz3 : Wx.heap.size + 1 ≤ W3.heap.size := by have := hgrow3.size; simpa using this
    have hk3 : ∀ b : Nat, b < w.heap.size + 3 → W3.heap[b]? = Wx.heap[b]? := fun b hb => by
      rw [hgrow3.block b (by simp; omega) (fun e => by have := (own_blk HR.out e.symm).1; omega), Below.heap_alloc _ _ _ (by omega)]
    have hbx3 := (hk3 w.heap.size (by omega)).trans HH1.out
    have k3 : W3.cell? ⟨w.heap.size, 0, none⟩ = some v := blkc hbx3 0
    have f3 := blkf hbx3 0
    obtain ⟨ad3, cp3, rfl⟩ := own_sl1 hown3
    have HFin : Hid (ApI w zs (c + 1) (W3.setCell ⟨w.heap.size, 0, none⟩ (.slice ad3 (c + 1) cp3)) ∧ (W3.setCell ⟨w.heap.size, 0, none⟩ (.slice ad3 (c + 1) cp3)).heap[w.heap.size + 1]? = Wx.heap[w.heap.size + 1]? ∧ (W3.setCell ⟨w.heap.size, 0, none⟩ (.slice ad3 (c + 1) cp3)).heap[w.heap.size + 1 + 1]? = Wx.heap[w.heap.size + 1 + 1]?) := by
      refine ⟨⟨?_, ?_, .slice ad3 (c + 1) cp3, ?_, ?_⟩, ?_, ?_⟩
      · refine ⟨hgrow3.os.trans HI.out.below.os, hgrow3.tape.trans HI.out.below.tape, hgrow3.output.trans HI.out.below.output, by have := HI.out.below.size; simp [World.setCell]; omega, fun b hb => ?_⟩
        rw [heap_set_other _ _ _ _ _ (by omega), hk3 b (by omega)]
        exact HI.out.below.block b hb
      · simp [World.setCell]; omega
      · have := blk_setk hbx3 0 (.slice ad3 (c + 1) cp3)
        simpa using this
      · rw [Htk.out]
        refine own_congr ?_ (fun b hk => heap_set_other _ _ _ _ _ (by have := (own_blk hown3 hk).1; omega))
        have e : zI (zs.take c ++ [x]) = zI (zs.take c) ++ [.int .i64 x] := by simp [zI]
        rw [e]
        exact hown3
      · rw [heap_set_other _ _ _ _ _ (by omega), hk3 _ (by omega)]
      · rw [heap_set_other _ _ _ _ _ (by omega), hk3 _ (by omega)]
    clear hown3 hgrow3 hnil3 hk3 hbx3 HI HR HH1 k1
    gi_wp2
    exact ⟨HFin.out.1, HFin.out.2.1, HFin.out.2.2.trans (Array.getElem?_eq_getElem _)⟩
  case hdone =>
    intro Wx hI hdf
    obtain ⟨v, h1, h2⟩ := hI.row
    have k1 : Wx.cell? ⟨w.heap.size, 0, none⟩ = some v := blkc h1 0
    have hsx := hI.sz
    have HZ2 : Hid (∀ w', AllBut Wx w' → Below w.heap.size Wx w' → w'.ownsRow w.heap.size 3 1 v zs.length (zI zs) ∧ Below w.heap.size w w') := by
      intro w' hab hbw
      have h3 : Wx.ownsRow w.heap.size 3 1 v zs.length (zI zs) := by
        have := own_mono h2 (show w.heap.size ≤ w.heap.size + 3 by omega)
        rw [List.take_length] at this
        exact this
      refine ⟨own_congr h3 fun b e => ?_, hI.below.trans hbw⟩
      obtain ⟨_, cur, hc⟩ := own_blk h3 e
      exact hab.block b (by rw [hc]; intro e; cases e)
    have Hdf := hidd hdf
    obtain ⟨ad9, cp9, rfl⟩ := own_sl1 h2
    clear h1 h2 hI hdf
    go_wp2_with fail
    rw [hsz1]
    refine leaves_marks (B := w.heap.size) [w.heap.size + 1] _ _ ⟨by simp, fun D hD => ?_⟩ (AllBut.refl _) (Below.refl _ _) (fun w' hab hbw => ⟨.slice ad9 zs.length cp9, (by simp [results, Tryd.results73, go_sem]), ⟨_, rfl, HZ2.out w' hab hbw⟩⟩)
    have : D = w.heap.size + 1 := by simpa using hD
    subst this
    refine ⟨by omega, ?_⟩
    have := Hdf.out
    rw [hsz1] at this
    exact this
end Go.Proofs.YtmnfioghhdgciaaDoor

namespace Go.Proofs.YtmnfioghhdgciaaDoor
open Go
set_option linter.unusedVariables false

/-! The letters of a word, rising, each once. -/
theorem compact_riseZ (S : List Int) (hS : S.Pairwise fun x y => x ≤ y) : RiseZ (Lib.compact S) ∧ ∀ t, t ∈ Lib.compact S ↔ t ∈ S := by
  have hget : ∀ j, j < S.length → S.toArray[j]! = S.getD j default := fun j hj => by simp [hj]
  have hle : ∀ i j, i ≤ j → j < S.length → S.getD i default ≤ S.getD j default := fun i j hij hj => by
    rcases Nat.lt_or_eq_of_le hij with h | h
    · have := List.pairwise_iff_getElem.1 hS i j (by omega) hj h
      rw [List.getD_eq_getElem?_getD, List.getD_eq_getElem?_getD, List.getElem?_eq_getElem hj, List.getElem?_eq_getElem (by omega)]
      exact this
    · subst h; exact Int.le_refl _
  have key : ∀ m, m ≤ S.length → RiseZ (Lib.compactUpTo S.toArray m) ∧ ∀ t, t ∈ Lib.compactUpTo S.toArray m ↔ ∃ j, j < m ∧ t = S.getD j default := by
    intro m
    induction m with
    | zero => intro _; exact ⟨List.Pairwise.nil, fun t => by simp [Lib.compactUpTo]⟩
    | succ m ih =>
      intro hm
      obtain ⟨ih1, ih2⟩ := ih (by omega)
      rw [Lib.compactUpTo_succ]
      cases hk : Lib.keeps S.toArray m with
      | true =>
        rw [if_pos rfl, hget m (by omega)]
        refine ⟨?_, fun t => ?_⟩
        · rw [RiseZ, List.pairwise_append]
          refine ⟨ih1, by simp, fun x hx y hy => ?_⟩
          have hy' : y = S.getD m default := by simpa using hy
          subst hy'
          obtain ⟨j, hj, rfl⟩ := (ih2 x).1 hx
          unfold Lib.keeps at hk
          rw [decide_eq_true_eq] at hk
          rcases hk with hk | hk
          · omega
          · rw [hget m (by omega), hget (m - 1) (by omega)] at hk
            have h1 := hle j (m - 1) (by omega) (by omega)
            have h2 := hle (m - 1) m (by omega) (by omega)
            omega
        · rw [List.mem_append, ih2]
          constructor
          · rintro (⟨j, hj, rfl⟩ | h)
            · exact ⟨j, by omega, rfl⟩
            · exact ⟨m, by omega, by simpa using h⟩
          · rintro ⟨j, hj, rfl⟩
            by_cases e : j = m
            · subst e; exact .inr (by simp)
            · exact .inl ⟨j, by omega, rfl⟩
      | false =>
        rw [if_neg (by simp), List.append_nil]
        refine ⟨ih1, fun t => ?_⟩
        rw [ih2]
        constructor
        · rintro ⟨j, hj, rfl⟩; exact ⟨j, by omega, rfl⟩
        · rintro ⟨j, hj, rfl⟩
          by_cases e : j = m
          · subst e
            unfold Lib.keeps at hk
            rw [decide_eq_false_iff_not] at hk
            have h0 : ¬ j = 0 := fun e => hk (.inl e)
            have h1 : S.toArray[j]! = S.toArray[j - 1]! := Classical.byContradiction fun e => hk (.inr e)
            rw [hget j (by omega), hget (j - 1) (by omega)] at h1
            exact ⟨j - 1, by omega, h1⟩
          · exact ⟨j, by omega, rfl⟩
  obtain ⟨k1, k2⟩ := key S.length (Nat.le_refl _)
  refine ⟨k1, fun t => ?_⟩
  rw [Lib.compact, k2]
  constructor
  · rintro ⟨j, hj, rfl⟩
    rw [List.getD_eq_getElem?_getD, List.getElem?_eq_getElem hj]
    exact List.getElem_mem hj
  · intro h
    obtain ⟨j, hj, rfl⟩ := List.getElem_of_mem h
    exact ⟨j, hj, by rw [List.getD_eq_getElem?_getD, List.getElem?_eq_getElem hj]; rfl⟩
theorem sortedZ (zs : List Int) : (zs.mergeSort fun x y => decide (x ≤ y)).Pairwise fun x y => x ≤ y := by
  have h := List.pairwise_mergeSort (le := fun (x y : Int) => decide (x ≤ y)) (fun a b c h1 h2 => by simp only [decide_eq_true_eq] at *; omega) (fun a b => by simp only [Bool.or_eq_true, decide_eq_true_eq]; omega) zs
  exact h.imp (fun h => by simpa using h)
theorem compact_lenZ (S : List Int) : (Lib.compact S).length ≤ S.length := by
  unfold Lib.compact Lib.compactUpTo
  rw [List.length_map]
  exact Nat.le_trans (List.length_filter_le _ _) (by simp)
end Go.Proofs.YtmnfioghhdgciaaDoor

namespace Go.Proofs
open Go.Shelf
def Tryd.laysSortI_ren : Go.Shelf.Ren := ⟨fun | 189 => 64 | 125 => 75 | 257 => 74 | 128 => 87 | 129 => 33 | 294 => 78 | 295 => 79 | 296 => 80 | 297 => 81 | 298 => 82 | 299 => 83 | 216 => 84 | 300 => 85 | 301 => 86 | 328 => 88 | 329 => 89 | 330 => 90 | 331 => 91 | 332 => 92 | 215 => 93 | 343 => 94 | n => n, fun | 28 => 30 | 3 => 3 | 46 => 65 | 0 => 0 | 51 => 150 | 53 => 43 | 4 => 4 | 183 => 144 | 182 => 143 | 131 => 130 | 5 => 5 | 9 => 9 | 218 => 151 | 222 => 155 | 228 => 157 | 229 => 88 | n => n, fun | n => n⟩
theorem Tryd.laysSortI : Go.Proofs.Lays.n189 Tryd.prog Tryd.laysSortI_ren := {
  mixed := by kernel_rfl
  f125 := Tryd.func75.trans (congrArg some (by kernel_rfl))
  f128 := Tryd.func87.trans (congrArg some (by kernel_rfl))
  f129 := Tryd.func33.trans (congrArg some (by kernel_rfl))
  f189 := Tryd.func64.trans (congrArg some (by kernel_rfl))
  f215 := Tryd.func93.trans (congrArg some (by kernel_rfl))
  f216 := Tryd.func84.trans (congrArg some (by kernel_rfl))
  f257 := Tryd.func74.trans (congrArg some (by kernel_rfl))
  f294 := Tryd.func78.trans (congrArg some (by kernel_rfl))
  f295 := Tryd.func79.trans (congrArg some (by kernel_rfl))
  f296 := Tryd.func80.trans (congrArg some (by kernel_rfl))
  f297 := Tryd.func81.trans (congrArg some (by kernel_rfl))
  f298 := Tryd.func82.trans (congrArg some (by kernel_rfl))
  f299 := Tryd.func83.trans (congrArg some (by kernel_rfl))
  f300 := Tryd.func85.trans (congrArg some (by kernel_rfl))
  f301 := Tryd.func86.trans (congrArg some (by kernel_rfl))
  f328 := Tryd.func88.trans (congrArg some (by kernel_rfl))
  f329 := Tryd.func89.trans (congrArg some (by kernel_rfl))
  f330 := Tryd.func90.trans (congrArg some (by kernel_rfl))
  f331 := Tryd.func91.trans (congrArg some (by kernel_rfl))
  f332 := Tryd.func92.trans (congrArg some (by kernel_rfl))
  f343 := Tryd.func94.trans (congrArg some (by kernel_rfl))
  t0 := Tryd.underlying0
  a0 := Tryd.isAgg0
  z0 := Tryd.sizeOf0
  v0 := Tryd.zeroValue0
  t3 := Tryd.underlying3
  a3 := Tryd.isAgg3
  z3 := Tryd.sizeOf3
  v3 := Tryd.zeroValue3
  t4 := Tryd.underlying4
  a4 := Tryd.isAgg4
  z4 := Tryd.sizeOf4
  v4 := Tryd.zeroValue4
  t5 := Tryd.underlying5
  a5 := Tryd.isAgg5
  z5 := Tryd.sizeOf5
  v5 := Tryd.zeroValue5
  t9 := Tryd.underlying9
  a9 := Tryd.isAgg9
  z9 := Tryd.sizeOf9
  v9 := Tryd.zeroValue9
  t28 := Tryd.underlying30
  a28 := Tryd.isAgg30
  z28 := Tryd.sizeOf30
  v28 := Tryd.zeroValue30
  t46 := Tryd.underlying65
  a46 := Tryd.isAgg65
  z46 := Tryd.sizeOf65
  v46 := Tryd.zeroValue65
  t51 := Tryd.underlying150
  a51 := Tryd.isAgg150
  z51 := Tryd.sizeOf150
  v51 := Tryd.zeroValue150
  t53 := Tryd.underlying43
  a53 := Tryd.isAgg43
  z53 := Tryd.sizeOf43
  v53 := Tryd.zeroValue43
  t131 := Tryd.underlying130
  a131 := Tryd.isAgg130
  z131 := Tryd.sizeOf130
  v131 := Tryd.zeroValue130
  t182 := Tryd.underlying143
  a182 := Tryd.isAgg143
  z182 := Tryd.sizeOf143
  v182 := Tryd.zeroValue143
  t183 := Tryd.underlying144
  a183 := Tryd.isAgg144
  z183 := Tryd.sizeOf144
  v183 := Tryd.zeroValue144
  t218 := Tryd.underlying151
  a218 := Tryd.isAgg151
  z218 := Tryd.sizeOf151
  v218 := Tryd.zeroValue151
  t222 := Tryd.underlying155
  a222 := Tryd.isAgg155
  z222 := Tryd.sizeOf155
  v222 := Tryd.zeroValue155
  t228 := Tryd.underlying157
  a228 := Tryd.isAgg157
  z228 := Tryd.sizeOf157
  v228 := Tryd.zeroValue157
  t229 := Tryd.underlying88
  a229 := Tryd.isAgg88
  z229 := Tryd.sizeOf88
  v229 := Tryd.zeroValue88 }
def Tryd.laysCompI_ren : Go.Shelf.Ren := ⟨fun | 20 => 42 | n => n, fun | 22 => 30 | 3 => 3 | 4 => 4 | 0 => 0 | n => n, fun | n => n⟩
theorem Tryd.laysCompI : Go.Proofs.Lays2.n20 Tryd.prog Tryd.laysCompI_ren := {
  mixed := by kernel_rfl
  f20 := Tryd.func42.trans (congrArg some (by kernel_rfl))
  t0 := Tryd.underlying0
  a0 := Tryd.isAgg0
  z0 := Tryd.sizeOf0
  v0 := Tryd.zeroValue0
  t3 := Tryd.underlying3
  a3 := Tryd.isAgg3
  z3 := Tryd.sizeOf3
  v3 := Tryd.zeroValue3
  t4 := Tryd.underlying4
  a4 := Tryd.isAgg4
  z4 := Tryd.sizeOf4
  v4 := Tryd.zeroValue4
  t22 := Tryd.underlying30
  a22 := Tryd.isAgg30
  z22 := Tryd.sizeOf30
  v22 := Tryd.zeroValue30
  i3 := by kernel_rfl }
end Go.Proofs
