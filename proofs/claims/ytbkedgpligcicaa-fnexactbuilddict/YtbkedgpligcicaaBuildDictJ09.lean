import Derived.Sort.QuietIn
import Derived.Test.YtbkedgpligcicaaBuildDictJ01
import Derived.Test.YtbkedgpligcicaaBuildDictJ02
import Derived.Test.YtbkedgpligcicaaBuildDictJ08
import Derived.Test.YtbkedgpligcicaaBuildDictJ07
import Derived.Deep.AppendLies
import Derived.Deep.RegionLaw
import Derived.Test.YtbkedgpligcicaaBuildDictJ03
import Derived.Deep.QuietTactic
import Derived.Deep.CutBlock
import Derived.Deep.DeepCutAuto
namespace Go.Proofs.Ytbkedgpligcicaa
open Go Go.RowKit Go.Shelf
set_option linter.unusedVariables false
set_option maxRecDepth 100000
attribute [local go_sem] Oper.semAt_some

def dropT (p : Nat) (ts : List Tx) : List Tx := ts.map (List.drop p)
theorem dropT_length (p : Nat) (ts : List Tx) : (dropT p ts).length = ts.length := by simp [dropT]
theorem lbl_drop {p : Nat} {ts : List Tx} {j : Nat} (hj : j < ts.length) (hp : p < (ts.getD j []).length) : lblT (dropT p ts) j = ((ts.getD j []).getD p 0).toNat := by
  unfold lblT dropT
  have e : (ts.map (List.drop p)).getD j [] = (ts.getD j []).drop p := by
    rw [List.getD_eq_getElem?_getD, List.getD_eq_getElem?_getD, List.getElem?_map, List.getElem?_eq_getElem hj]
    rfl
  rw [e]
  generalize ts.getD j [] = t at *
  congr 1
  rw [List.headD_eq_head?_getD, List.head?_drop, List.getD_eq_getElem?_getD]
def partV (a : Option Addr) (s e cap : Nat) : Value := match a with
  | some ⟨g, off, none⟩ => .slice (some ⟨g, off + s, none⟩) (e - s) (cap - s)
  | _ => .slice none 0 0
def brArgs (a : Option Addr) (cap : Nat) (T : List Tx) (e : Nat) : Array Value := #[.int .i64 (lblT T (e - 1) : Nat), partV a (gsT T (lblT T (e - 1)) e) e cap]
set_option maxHeartbeats 4000000 in
theorem branches1_any (n l Bt Bp p : Nat) (a : Option Addr) (cap : Nat) (ts : List Tx) (hn : 1 ≤ n) (hl : ts.length ≤ 1048576) (hcap : ts.length ≤ cap) (hcm : cap ≤ 281474976710656) (hp : p ≤ 1048576) (hlong : ∀ j, j < ts.length → p < (ts.getD j []).length)
    (J : Nat → World → Prop) (hJ : ∀ e W, J e W → W.cell? ⟨Bt, 0, none⟩ = some (.slice a ts.length cap) ∧ W.cell? ⟨Bp, 0, none⟩ = some (.int .i64 (p : Int)) ∧ TmAt W a ts) (hD : ∀ e W q, J e W → J e (W.drewN q))
    (hY : ∀ e W, 0 < e → e ≤ ts.length → J e W → YieldAt Fence.wide (n - 1) Try.prog l (brArgs a cap (dropT p ts) e) W fun r W' => r = .returned (.bool true) ∧ J (gsT (dropT p ts) (lblT (dropT p ts) (e - 1)) e) W')
    (W : World) (h0 : J ts.length W) :
    CallsIn Fence.wide n Try.prog 97 #[.func (.yield l) #[] #[], .pointer (some ⟨Bt, 0, none⟩), .pointer (some ⟨Bp, 0, none⟩)] W fun r W' => (∃ v, r = .returned v) ∧ J 0 W' := by
  refine callsIn_of_wp Try.func97 rfl trivial ?_ rfl
  simp only [Try.ntmps97, List.size_toArray, List.length_cons, List.length_nil, Nat.reduceAdd, Nat.reduceSub, Array.replicate_succ, Array.replicate_zero, List.push_toArray, List.append_toArray, List.nil_append, List.cons_append]
  have HJ := hidd hJ
  have HD := hidd hD
  have HY := hidd hY
  have HLo := hidd hlong
  obtain ⟨c0, c1, ct⟩ := hJ _ W h0
  have Ht := hidd ct
  have H0 := hidd h0
  clear hJ hD hY hlong ct h0
  gi_wp2
  gi_loopw [4] (fun ev wr => ∃ e : Nat, ev = .int .i64 (e : Int) ∧ e ≤ ts.length ∧ J e wr) (fun ev _ => (intOf ev).toNat)
  case atStart => exact ⟨ts.length, rfl, Nat.le_refl _, H0.out⟩
  case round =>
    clear c0 c1 Ht H0
    obtain ⟨e, rfl, he, hJe⟩ := hrel
    have HJe := hidd hJe
    clear hJe
    by_cases h0 : 0 < e
    · have h0z : (0 : Int) < (e : Int) := by omega
      obtain ⟨E, hE⟩ : ∃ E, e = E + 1 := ⟨e - 1, by omega⟩
      have hEl : E < ts.length := by omega
      have hEz : (e : Int) - 1 = (E : Int) := by omega
      have hEn : e - 1 = E := by omega
      have HE := hidd hE
      have HEn := hidd hEn
      clear hE hEn
      obtain ⟨c0, c1, ct⟩ := HJ.out _ _ HJe.out
      obtain ⟨g, off, rfl, hg, hcell⟩ := ct.resolve_left (fun h => by rw [h] at hEl; simp at hEl)
      have c2 := hcell E hEl
      clear hcell ct hg
      have HYe := hidd (HY.out e)
      obtain ⟨x, hx⟩ : ∃ x, lblT (dropT p ts) E = x := ⟨_, rfl⟩
      obtain ⟨c, hc⟩ : ∃ c : UInt8, (ts.getD E []).getD p 0 = c := ⟨_, rfl⟩
      have HXc : Hid (c.toNat = x) := by show _ = _; rw [← hx, lbl_drop hEl (HLo.out E hEl), hc]
      have xi : ∀ W, (Instr.index 9 (.string ⟨(ts.getD E []).toArray⟩) (.int .i64 (p : Int))).run Try.prog W = .ok (.int .u8 (c.toNat : Int)) W := fun W => by rw [idx_run _ _ W (HLo.out E hEl), hc]
      have hEz2 : (E : Int) < (ts.length : Int) := by omega
      have hpz : (p : Int) < ((ts.getD E []).length : Int) := by have := HLo.out E hEl; omega
      have Hx := hidd hx
      clear hx hc
      obtain ⟨tE, htE⟩ : ∃ t, ts.getD E [] = t := ⟨_, rfl⟩
      rw [htE] at c2 xi hpz
      clear htE
      gi_wp2
      gi_quiet (fail)
      gi_wp2
      gi_loopw [6] (fun sv wy => ∃ s : Nat, sv = .int .i64 (s : Int) ∧ s ≤ e ∧ J e wy ∧ gsT (dropT p ts) x s = gsT (dropT p ts) x e) (fun sv _ => (intOf sv).toNat)
      case atStart => exact ⟨e, rfl, Nat.le_refl _, HD.out _ _ _ HJe.out, rfl⟩
      case round =>
        clear c0 c1 c2 xi
        obtain ⟨s, rfl, hs, hJs, hgs⟩ := hrel
        have HJs := hidd hJs
        have Hgs := hidd hgs
        clear hJs hgs
        obtain ⟨c0, c1, ct⟩ := HJ.out _ _ HJs.out
        obtain ⟨g', off', hgo, hg, hcell⟩ := ct.resolve_left (fun h => by rw [h] at hEl; simp at hEl)
        cases hgo
        clear ct hg
        by_cases hs0 : 0 < s
        · have hs0z : 0 < (s : Int) := by omega
          obtain ⟨s', hs'⟩ : ∃ s', s = s' + 1 := ⟨s - 1, by omega⟩
          have hsl : s' < ts.length := by omega
          have hsz : (s : Int) - 1 = (s' : Int) := by omega
          have hszl : (s' : Int) < (ts.length : Int) := by omega
          have c2 := hcell s' hsl
          clear hcell
          obtain ⟨c', hc'⟩ : ∃ c : UInt8, (ts.getD s' []).getD p 0 = c := ⟨_, rfl⟩
          have HXs : Hid (lblT (dropT p ts) s' = c'.toNat) := by show _ = _; rw [lbl_drop hsl (HLo.out s' hsl), hc']
          have xi : ∀ W, (Instr.index 9 (.string ⟨(ts.getD s' []).toArray⟩) (.int .i64 (p : Int))).run Try.prog W = .ok (.int .u8 (c'.toNat : Int)) W := fun W => by rw [idx_run _ _ W (HLo.out s' hsl), hc']
          have hpz' : (p : Int) < ((ts.getD s' []).length : Int) := by have := HLo.out s' hsl; omega
          clear hc'
          obtain ⟨t', ht'⟩ : ∃ t, ts.getD s' [] = t := ⟨_, rfl⟩
          rw [ht'] at c2 xi hpz'
          clear ht'
          have HS' := hidd hs'
          clear hs'
          by_cases hcc : c'.toNat = c.toNat
          · have hccz : ((c'.toNat : Int) == (c.toNat : Int)) = true := by simp [hcc]
            have HG2 : Hid (gsT (dropT p ts) x s' = gsT (dropT p ts) x e) := by
              show _ = _
              rw [← Hgs.out, HS'.out]
              conv => rhs; unfold gsT
              rw [if_pos (by rw [HXs.out, hcc, HXc.out])]
            clear hcc
            gi_wp2
            gi_quiet (fail)
            gi_wp2
            go_roundw
            · exact ⟨s', by go_num, by omega, HD.out _ _ _ HJs.out, HG2.out⟩
            · simp [intOf]; omega
          · have hccz : ((c'.toNat : Int) == (c.toNat : Int)) = false := by simp; omega
            have HG : Hid (gsT (dropT p ts) x e = s) := by
              show _ = _
              rw [← Hgs.out, HS'.out]
              unfold gsT
              rw [if_neg (by rw [HXs.out, ← HXc.out]; exact hcc)]
            clear hcc
            gi_wp2
            gi_quiet (fail)
            have HJq := hidd (HD.out _ _ nq HJs.out)
            clear c0 c1
            obtain ⟨k0, k1, _⟩ := HJ.out _ _ HJq.out
            have hse : s < e := by have := gsT_lt (dropT p ts) (e := e) h0; rw [HEn.out, Hx.out, HG.out] at this; exact this
            obtain ⟨fn, tmps, assign, body, hy, hR⟩ := HYe.out _ h0 he HJq.out
            rw [brArgs, HEn.out, Hx.out, HG.out] at hy
            rw [HEn.out, Hx.out, HG.out] at hR
            simp only [partV] at hy
            have hcx : (c.toNat : Int) = (x : Int) := by rw [HXc.out]
            have hx255 : x ≤ 255 := by have := UInt8.toNat_lt c; have := HXc.out; omega
            have hsz : (s : Int) ≤ (e : Int) := by omega
            have hez : (e : Int) ≤ (ts.length : Int) := by omega
            have hec : (e : Int) ≤ (cap : Int) := by omega
            simp only [hcx]
            clear hcx
            gi_wp2
            refine hR.mono ?_
            rintro r W3 ⟨rfl, hJ3⟩
            gi_wp2
            go_roundw
            · exact ⟨s, rfl, by omega, hJ3⟩
            · simp [intOf]; omega
        · have hs0z : ¬ 0 < (s : Int) := by omega
          clear hcell
          have HG : Hid (gsT (dropT p ts) x e = s) := by
            show _ = _
            obtain rfl : s = 0 := by omega
            rw [← Hgs.out]
            rfl
          gi_wp2
          gi_quiet (fail)
          have HJq := hidd (HD.out _ _ nq HJs.out)
          clear c0 c1
          obtain ⟨k0, k1, _⟩ := HJ.out _ _ HJq.out
          have hse : s < e := by have := gsT_lt (dropT p ts) (e := e) h0; rw [HEn.out, Hx.out, HG.out] at this; exact this
          obtain ⟨fn, tmps, assign, body, hy, hR⟩ := HYe.out _ h0 he HJq.out
          rw [brArgs, HEn.out, Hx.out, HG.out] at hy
          rw [HEn.out, Hx.out, HG.out] at hR
          simp only [partV] at hy
          have hcx : (c.toNat : Int) = (x : Int) := by rw [HXc.out]
          have hx255 : x ≤ 255 := by have := UInt8.toNat_lt c; have := HXc.out; omega
          have hsz : (s : Int) ≤ (e : Int) := by omega
          have hez : (e : Int) ≤ (ts.length : Int) := by omega
          have hec : (e : Int) ≤ (cap : Int) := by omega
          simp only [hcx]
          clear hcx
          gi_wp2
          refine hR.mono ?_
          rintro r W3 ⟨rfl, hJ3⟩
          gi_wp2
          go_roundw
          · exact ⟨s, rfl, by omega, hJ3⟩
          · simp [intOf]; omega
    · have h0z : ¬ (0 : Int) < (e : Int) := by omega
      obtain rfl : e = 0 := by omega
      gi_wp2
      go_end0
      exact ⟨⟨_, rfl⟩, HJe.out⟩
end Go.Proofs.Ytbkedgpligcicaa

namespace Go.Proofs.Ytbkedgpligcicaa
open Go Go.RowKit
set_option linter.unusedVariables false

def lCells (L : List Ar) : List Value := L.flatMap fun l => [.int .i64 l.1, .int .i64 l.2.1, .int .i64 l.2.2]
theorem lCells_length (L : List Ar) : (lCells L).length = L.length * 3 := by
  induction L with
  | nil => rfl
  | cons a t ih => simp only [lCells, List.flatMap_cons, List.length_append, List.length_cons, List.length_nil] at ih ⊢; omega
theorem lCells_snoc (L : List Ar) (l : Ar) : lCells (L ++ [l]) = lCells L ++ [.int .i64 l.1, .int .i64 l.2.1, .int .i64 l.2.2] := by simp [lCells]
/-- A register as it lies: at rb, its map at mb, its links in a row at g, all from base on. -/
structure RegAt (base : Nat) (w : World) (rb mb g cap : Nat) (L : List Ar) : Prop where
  reg : w.heap[rb]? = some (.cells #[.map (some mb), .slice (some ⟨g, 0, none⟩) L.length cap] 117)
  row : w.ownsRow base 120 3 (.slice (some ⟨g, 0, none⟩) L.length cap) L.length (lCells L)
  map : MapAt w mb L
  apart : rb ≠ mb ∧ g ≠ mb ∧ g ≠ rb
  from_ : base ≤ rb ∧ base ≤ mb
  nodup : L.Nodup
  in64 : ∀ l ∈ L, In64 l
theorem RegAt.glt {base : Nat} {w : World} {rb mb g cap : Nat} {L : List Ar} (h : RegAt base w rb mb g cap L) : base ≤ g ∧ g < w.heap.size := h.row.lt g rfl
theorem RegAt.rlt {base : Nat} {w : World} {rb mb g cap : Nat} {L : List Ar} (h : RegAt base w rb mb g cap L) : rb < w.heap.size := (Array.getElem?_eq_some_iff.1 h.reg).1
theorem RegAt.mlt {base : Nat} {w : World} {rb mb g cap : Nat} {L : List Ar} (h : RegAt base w rb mb g cap L) : mb < w.heap.size := by
  obtain ⟨es, c, h1, _⟩ := h.map
  exact (Array.getElem?_eq_some_iff.1 h1).1
theorem RegAt.keep {base : Nat} {w w' : World} {rb mb g cap : Nat} {L : List Ar} (h : RegAt base w rb mb g cap L) (hz : w.heap.size ≤ w'.heap.size) (hr : w'.heap[rb]? = w.heap[rb]?) (hm : w'.heap[mb]? = w.heap[mb]?) (hg : w'.heap[g]? = w.heap[g]?) : RegAt base w' rb mb g cap L :=
  ⟨hr.trans h.reg, by
    refine ⟨h.row.1, ?_⟩
    rcases h.row.2 with h' | ⟨g', c', cur, h1, h2, h3, h4⟩
    · exact Or.inl h'
    · refine Or.inr ⟨g', c', cur, h1, h2, ?_, h4⟩
      simp only [Value.slice.injEq, Option.some.injEq, Addr.mk.injEq, and_true, true_and] at h1
      obtain ⟨rfl, _⟩ := h1
      exact hg.trans h3, h.map.keep hm, h.apart, h.from_, h.nodup, h.in64⟩
theorem RegAt.below {base : Nat} {w w' : World} {rb mb g cap : Nat} {L : List Ar} (h : RegAt base w rb mb g cap L) (hb : Below w.heap.size w w') : RegAt base w' rb mb g cap L :=
  h.keep hb.size (hb.block _ h.rlt) (hb.block _ h.mlt) (hb.block _ h.glt.2)
/-- All but three blocks stays. -/
structure Fr3 (x y z : Nat) (w w' : World) : Prop where
  size : w.heap.size ≤ w'.heap.size
  os : w'.os = w.os
  tape : w'.tape = w.tape
  output : w'.output = w.output
  block : ∀ b, b < w.heap.size → b ≠ x → b ≠ y → b ≠ z → w'.heap[b]? = w.heap[b]?
/-- What chain does. -/
structure Chained (base : Nat) (w w' : World) (rb mb g : Nat) (L : List Ar) (l : Ar) (n : Nat) (L' : List Ar) (g' cap' : Nat) : Prop where
  reg : RegAt base w' rb mb g' cap' L'
  fr : Fr3 rb mb g w w'
  at_ : L'[n]? = some l
  pre : L <+: L'
  few : L'.length ≤ L.length + 1
  new : g' = g ∨ w.heap.size ≤ g'
theorem Try.infoLink : (Try.prog.info? 120).map (fun i => (i.zero, i.size, i.bytes)) = some (some (.agg #[.int .i64 0, .int .i64 0, .int .i64 0]), 3, 24) := by kernel_rfl
theorem chain_step {base : Nat} {wb w6 : World} {o : Obj} {rb mb g cap g6 cp6 N : Nat} {L : List Ar} {l0 l1 l2 : Int} (h : RegAt base wb rb mb g cap L) (hgrow : (wb.drew.alloc o).grownBy w6 (some g))
    (hown : w6.ownsRow base 120 3 (.slice (some ⟨g6, 0, none⟩) N cp6) N (lCells L ++ [.int .i64 l0, .int .i64 l1, .int .i64 l2])) (hat : some g = some g6 ∨ g6 = wb.heap.size + 1) :
    w6.heap[rb]? = some (.cells #[.map (some mb), .slice (some ⟨g, 0, none⟩) L.length cap] 117) ∧ ∀ w7, w6.setCell ⟨rb, 1, none⟩ (.slice (some ⟨g6, 0, none⟩) N cp6) = w7 →
      w7.heap[rb]? = some (.cells #[.map (some mb), .slice (some ⟨g6, 0, none⟩) N cp6] 117) ∧
      w7.ownsRow base 120 3 (.slice (some ⟨g6, 0, none⟩) N cp6) N (lCells L ++ [.int .i64 l0, .int .i64 l1, .int .i64 l2]) ∧ MapAt w7 mb L ∧ Fr3 rb mb g wb w7 ∧ (g6 ≠ mb ∧ g6 ≠ rb) ∧ (g6 = g ∨ wb.heap.size ≤ g6) := by
  have hrl := h.rlt
  have hml := h.mlt
  have hgl := h.glt
  have hap := h.apart
  have hold : ∀ b, b < wb.heap.size → b ≠ g → w6.heap[b]? = wb.heap[b]? := fun b hb hne => by
    rw [hgrow.block b (by simp; omega) (by simpa using hne), Below.heap_alloc _ _ _ (by simpa using hb)]
    rfl
  have k6 : w6.heap[rb]? = some (.cells #[.map (some mb), .slice (some ⟨g, 0, none⟩) L.length cap] 117) := (hold rb hrl (fun e => hap.2.2 e.symm)).trans h.reg
  have hg6 : (g6 ≠ mb ∧ g6 ≠ rb) ∧ (g6 = g ∨ wb.heap.size ≤ g6) := by
    rcases hat with hat | hat
    · cases hat; exact ⟨⟨hap.2.1, hap.2.2⟩, Or.inl rfl⟩
    · exact ⟨⟨by omega, by omega⟩, Or.inr (by omega)⟩
  have hsz : wb.heap.size ≤ w6.heap.size := by have := hgrow.size; simp at this; omega
  refine ⟨k6, ?_⟩
  rintro w7 rfl
  refine ⟨?_, ?_, ?_, ?_, hg6⟩
  · have := heap_setCell_same w6 rb 1 _ _ (.slice (some ⟨g6, 0, none⟩) N cp6) k6
    rw [this]
    rfl
  · refine ⟨hown.1, ?_⟩
    rcases hown.2 with h' | ⟨g', c', cur, h1, h2, h3, h4⟩
    · exact Or.inl h'
    · refine Or.inr ⟨g', c', cur, h1, h2, ?_, h4⟩
      simp only [Value.slice.injEq, Option.some.injEq, Addr.mk.injEq, and_true, true_and] at h1
      obtain ⟨rfl, _⟩ := h1
      exact (heap_setCell_other w6 ⟨rb, 1, none⟩ g6 _ hg6.1.2).trans h3
  · exact h.map.keep ((heap_setCell_other w6 ⟨rb, 1, none⟩ mb _ (fun e => hap.1 e.symm)).trans (hold mb hml (fun e => hap.2.1 e.symm)))
  · refine ⟨by simpa using hsz, hgrow.os, hgrow.tape, hgrow.output, fun b hb h1 h2 h3 => ?_⟩
    exact (heap_setCell_other w6 ⟨rb, 1, none⟩ b _ h1).trans (hold b hb h3)
set_option maxHeartbeats 4000000 in
set_option maxRecDepth 100000 in
theorem chain_any (base : Nat) (w : World) (rb mb g cap : Nat) (L : List Ar) (l0 l1 l2 : Int) (hL : L.length ≤ 1099511627776) (h : RegAt base w rb mb g cap L) (hl : In64 (l0, l1, l2)) :
    Calls Try.prog 68 #[.pointer (some ⟨rb, 0, none⟩), .agg #[.int .i64 l0, .int .i64 l1, .int .i64 l2]] w fun e w' => ∃ n L' g' cap', e = .returned (.int .i64 ((n + 1 : Nat) : Int)) ∧ Chained base w w' rb mb g L (l0, l1, l2) n L' g' cap' := by
  obtain ⟨i0, hi, hz0, hz1, hz2⟩ := info_parts Try.infoLink
  have HBa : Hid (Below w.heap.size w (w.alloc (.cells #[.int .i64 l0, .int .i64 l1, .int .i64 l2] 120))) := (Below.refl _ _).alloc (Nat.le_refl _) _
  have Hbx := hidd (heap_alloc_new w (.cells #[.int .i64 l0, .int .i64 l1, .int .i64 l2] 120))
  have HH := hidd h
  clear h
  go_enter Try.func68, Try.ntmps68
  go_upto_region 1 with fail
  obtain ⟨wa, hwa⟩ : ∃ wa, w.alloc (.cells #[.int .i64 l0, .int .i64 l1, .int .i64 l2] 120) = wa := ⟨_, rfl⟩
  rw [hwa] at HBa Hbx
  try rw [hwa]
  clear hwa
  have HR := hidd (HH.out.below HBa.out)
  have c0 : wa.cell? ⟨w.heap.size, 0, none⟩ = some (.int .i64 l0) := blkc Hbx.out 0
  have c1 : wa.cell? ⟨w.heap.size, 1, none⟩ = some (.int .i64 l1) := blkc Hbx.out 1
  have c2 : wa.cell? ⟨w.heap.size, 2, none⟩ = some (.int .i64 l2) := blkc Hbx.out 2
  have r0 : wa.cell? ⟨rb, 0, none⟩ = some (.map (some mb)) := blkc HR.out.reg 0
  have r1 : wa.cell? ⟨rb, 1, none⟩ = some (.slice (some ⟨g, 0, none⟩) L.length cap) := blkc HR.out.reg 1
  have hlk : (((l0, l1, l2) : Ar) ∉ L ∧ ∀ q, (Instr.lookup 114 (.map (some mb)) (.agg #[.int .i64 l0, .int .i64 l1, .int .i64 l2]) true).run Try.prog (wa.drewN q) = .ok (.tuple #[.int .i64 0, .bool false]) (wa.drewN q)) ∨
      ∃ j : Nat, L[j]? = some (l0, l1, l2) ∧ ∀ q, (Instr.lookup 114 (.map (some mb)) (.agg #[.int .i64 l0, .int .i64 l1, .int .i64 l2]) true).run Try.prog (wa.drewN q) = .ok (.tuple #[.int .i64 ((j + 1 : Nat) : Int), .bool true]) (wa.drewN q) := by
    have hq : ∀ q, MapAt (wa.drewN q) mb L := fun q => HR.out.map.keep (by simp)
    by_cases hm : ((l0, l1, l2) : Ar) ∈ L
    · obtain ⟨j, hj⟩ := List.mem_iff_getElem?.1 hm
      refine Or.inr ⟨j, hj, fun q => ?_⟩
      rcases (hq q).look HR.out.in64 (l0, l1, l2) hl with ⟨h1, _⟩ | ⟨j', hj', h1⟩
      · exact absurd hm h1
      · have : j' = j := by
          have hjl := (List.getElem?_eq_some_iff.1 hj').1
          exact (List.getElem?_inj hjl HR.out.nodup).1 (hj'.trans hj.symm)
        rw [this] at h1
        exact h1
    · refine Or.inl ⟨hm, fun q => ?_⟩
      rcases (hq q).look HR.out.in64 (l0, l1, l2) hl with ⟨_, h1⟩ | ⟨j', hj', h1⟩
      · exact h1
      · exact absurd (List.mem_of_getElem? hj') hm
  rcases hlk with ⟨hnm, hlook⟩ | ⟨j, hj, hlook⟩
  · go_quiet (fail)
    go_upto_region 3 with fail
    have HB0 : Hid (Below w.heap.size w (wa.drewN nq)) := below_drewN HBa.out nq
    have HR0 : Hid (RegAt base (wa.drewN nq) rb mb g cap L) := HR.out.keep (by simp) (by simp) (by simp) (by simp)
    have Hbx0 : Hid ((wa.drewN nq).heap[w.heap.size]? = some (.cells #[.int .i64 l0, .int .i64 l1, .int .i64 l2] 120)) := by show _ = _; rw [← Hbx.out]; simp
    clear hlook c0 c1 c2 r0 r1 HBa HR Hbx
    generalize wa.drewN nq = wb at *
    have c0 : wb.cell? ⟨w.heap.size, 0, none⟩ = some (.int .i64 l0) := blkc Hbx0.out 0
    have c1 : wb.cell? ⟨w.heap.size, 1, none⟩ = some (.int .i64 l1) := blkc Hbx0.out 1
    have c2 : wb.cell? ⟨w.heap.size, 2, none⟩ = some (.int .i64 l2) := blkc Hbx0.out 2
    have r0 : wb.cell? ⟨rb, 0, none⟩ = some (.map (some mb)) := blkc HR0.out.reg 0
    have r1 : wb.cell? ⟨rb, 1, none⟩ = some (.slice (some ⟨g, 0, none⟩) L.length cap) := blkc HR0.out.reg 1
    have hrl := HR0.out.rlt
    have hml := HR0.out.mlt
    have hgl := HR0.out.glt
    have hap := HR0.out.apart
    have Hrow := hidd HR0.out.row
    have hbase : base ≤ wb.heap.size := by omega
    go_region_law (refine step_append_lies _ rfl (.tmp 22) (.tmp 24) 115 rfl base 120 i0 (.agg #[.int .i64 0, .int .i64 0, .int .i64 0]) 3 24 Try.underlying115 hi hz0 hz1 hz2 rfl (by decide) (.slice (some ⟨g, 0, none⟩) L.length cap) L.length (lCells L) (by simp [Act.eval]) (Hrow.out.drew.alloc _) ⟨wb.heap.size, 0, none⟩ 1 1 [.int .i64 l0, .int .i64 l1, .int .i64 l2] (by simp [Act.eval]) rfl (by intro j' u' hj'; match j', hj' with | 0, hj' => simp at hj'; subst hj'; simp [Addr.add] | 1, hj' => simp at hj'; subst hj'; simp [Addr.add] | 2, hj' => simp at hj'; subst hj'; simp [Addr.add]) (by intro u' hu'; simp at hu'; rcases hu' with rfl | rfl | rfl <;> rfl) (by omega) (by unfold maxLen; omega) (by omega) (by simp; omega) _ rfl ?_; intro g6 cp6 w6 hown6 hgrow6 hat6 hlt6; have S6 := hidd (chain_step (l0 := l0) (l1 := l1) (l2 := l2) HR0.out hgrow6 hown6 (by simpa [Value.ownBlock] using hat6)); have k6 := S6.out.1; have s1 : w6.cell? ⟨rb, 1, none⟩ = some (.slice (some ⟨g, 0, none⟩) L.length cap) := blkc k6 1; have f1 : w6.frozen? ⟨rb, 1, none⟩ = false := frozen_of_row w6 _ 1 _ _ k6)
    all_goals
      have S7 := hidd (S6.out.2 _ rfl)
      clear S6 s1 f1 k6 hown6 hgrow6 hat6 hlt6 c0 c1 c2 r0 r1
      obtain ⟨w7, hw7⟩ : ∃ w7, w6.setCell ⟨rb, 1, none⟩ (.slice (some ⟨g6, 0, none⟩) (L.length + 1) cp6) = w7 := ⟨_, rfl⟩
      rw [hw7] at S7
      try rw [hw7]
      clear hw7
      obtain ⟨N, hN⟩ : ∃ N, L.length + 1 = N := ⟨_, rfl⟩
      simp only [hN] at S7 ⊢
      have HN := hidd hN
      clear hN
      have hbx7 : w7.heap[w.heap.size]? = some (.cells #[.int .i64 l0, .int .i64 l1, .int .i64 l2] 120) := by
        have hl0 := (Array.getElem?_eq_some_iff.1 Hbx0.out).1
        have h1 := HH.out.rlt
        have h2 := HH.out.mlt
        have h3 := HH.out.glt
        exact (S7.out.2.2.2.1.block _ hl0 (by omega) (by omega) (by omega)).trans Hbx0.out
      obtain ⟨w8, hput, hmap8, hgrow8⟩ := (show MapAt w7.drew mb L from S7.out.2.2.1.keep rfl).put HR0.out.in64 (l0, l1, l2) hl hnm
      rw [HN.out] at hput
      simp only [arV] at hput
      have c0 : w7.cell? ⟨w.heap.size, 0, none⟩ = some (.int .i64 l0) := blkc hbx7 0
      have c1 : w7.cell? ⟨w.heap.size, 1, none⟩ = some (.int .i64 l1) := blkc hbx7 1
      have c2 : w7.cell? ⟨w.heap.size, 2, none⟩ = some (.int .i64 l2) := blkc hbx7 2
      have r0 : w7.cell? ⟨rb, 0, none⟩ = some (.map (some mb)) := blkc S7.out.1 0
      have r1 : w7.cell? ⟨rb, 1, none⟩ = some (.slice (some ⟨g6, 0, none⟩) N cp6) := blkc S7.out.1 1
      have R8 : Hid (Chained base w w8 rb mb g L (l0, l1, l2) L.length (L ++ [(l0, l1, l2)]) g6 cp6) := by
        obtain ⟨u1, u2, u3, u4, u5, u6⟩ := S7.out
        have hl7 : ∀ b, b < wb.heap.size → b < w7.drew.heap.size := fun b hb => Nat.lt_of_lt_of_le hb u4.size
        have hlen : (L ++ [((l0, l1, l2) : Ar)]).length = N := by rw [List.length_append]; exact HN.out
        refine ⟨⟨?_, ?_, hmap8, ⟨hap.1, u5.1, u5.2⟩, HR0.out.from_, ?_, ?_⟩, ⟨?_, ?_, ?_, ?_, ?_⟩, ?_, List.prefix_append _ _, ?_, ?_⟩
        · rw [hlen]
          exact (hgrow8.block rb (hl7 _ hrl) (by simpa using hap.1)).trans u1
        · rw [hlen, lCells_snoc]
          exact (show w7.drew.ownsRow _ _ _ _ _ _ from u2.drew).kept hgrow8 (Or.inr (by simpa [Value.ownBlock] using u5.1))
        · rw [List.nodup_append]
          refine ⟨HR0.out.nodup, by simp, ?_⟩
          intro a ha b hb e
          have e1 : b = (l0, l1, l2) := by simpa using hb
          rw [e, e1] at ha
          exact hnm ha
        · intro l hl'
          rcases List.mem_append.1 hl' with h' | h'
          · exact HR0.out.in64 l h'
          · have e1 : l = (l0, l1, l2) := by simpa using h'
            rw [e1]; exact hl
        · exact Nat.le_trans HB0.out.size (Nat.le_trans u4.size hgrow8.size)
        · exact hgrow8.os.trans (u4.os.trans HB0.out.os)
        · exact hgrow8.tape.trans (u4.tape.trans HB0.out.tape)
        · exact hgrow8.output.trans (u4.output.trans HB0.out.output)
        · intro b hb h1 h2 h3
          have hbb : b < wb.heap.size := Nat.lt_of_lt_of_le hb HB0.out.size
          exact (hgrow8.block b (hl7 b hbb) (by simpa using h2)).trans ((u4.block b hbb h1 h2 h3).trans (HB0.out.block b hb))
        · simp
        · rw [hlen]; exact Nat.le_of_eq HN.out.symm
        · rcases u6 with u6 | u6
          · exact Or.inl u6
          · exact Or.inr (Nat.le_trans HB0.out.size u6)
      clear hmap8 hgrow8 hbx7 S7 Hrow
      go_wp2_with fail
      go_region_law (fail)
      all_goals
        go_wp2_with fail
        go_ret
        exact ⟨L.length, _, _, _, by rw [HN.out]; rfl, R8.out⟩
  · obtain ⟨J, hJ⟩ : ∃ J, j + 1 = J := ⟨_, rfl⟩
    rw [hJ] at hlook
    have HJ := hidd hJ
    have Hj := hidd hj
    clear hJ hj
    go_quiet (fail)
    go_wp2_with fail
    go_ret
    refine ⟨j, L, g, cap, by rw [HJ.out]; rfl, ?_⟩
    have hB := below_drewN HBa.out nq
    exact ⟨HR.out.keep (by simp) (by simp) (by simp) (by simp), ⟨hB.size, hB.os, hB.tape, hB.output, fun b hb _ _ _ => hB.block b hb⟩, Hj.out, List.prefix_refl _, by omega, Or.inl rfl⟩
end Go.Proofs.Ytbkedgpligcicaa

namespace Go.Proofs.Ytbkedgpligcicaa
open Go
set_option linter.unusedVariables false

/-- What an arc's Ahead must be. -/
def ahN (fin : Bool) (E : List Nat) (arcs : List Ar) (x : Nat) : Nat := (if fin then 1 else 0) + sumE (valE E) (arcs.take x)
/-- What endingsOf tells of states that it takes. -/
structure EndOK (S : List St) (E : List Nat) : Prop where
  len : E.length = S.length
  met : metOK S = true
  fin0 : finAt S 0 = false
  ends : (S.length = 1 ∧ arcsAt S 0 = [] ∧ E = [0]) ∨ ∃ G, TalOK S E G ∧ 0 < valE E 0 ∧ DiffP S S.length ∧ ∀ e g, Sane S e g → Agree S E G e g
theorem EndOK.range {S : List St} {E : List Nat} (h : EndOK S E) : 1 ≤ S.length ∧ S.length ≤ 16384 := ((metOK_iff S).1 h.met).1
theorem EndOK.arcs {S : List St} {E : List Nat} (h : EndOK S E) : ∀ j, j < S.length → ArcsOK S j := ((metOK_iff S).1 h.met).2.1
theorem EndOK.bfs {S : List St} {E : List Nat} (h : EndOK S E) : IsBfs (toAt S) 0 (List.range S.length) := ((metOK_iff S).1 h.met).2.2
theorem S_one {S : List St} (h1 : S.length = 1) (h2 : finAt S 0 = false) (h3 : arcsAt S 0 = []) : S = [(false, [])] := by
  match S, h1 with
  | [(f, l)], _ =>
    have e1 : f = false := h2
    have e2 : l = [] := h3
    rw [e1, e2]
def AheadsOK (S : List St) (E : List Nat) : Prop := ∀ i, i < S.length → ∀ k a, (arcsAt S i)[k]? = some a → a.2.2 = ((ahN (finAt S i) E (arcsAt S i) k : Nat) : Int)
theorem sumE_le_of {E : List Nat} {l : List Ar} {k : Nat} : sumE (valE E) (l.take k) ≤ sumE (valE E) l := by
  induction l generalizing k with
  | nil => simp
  | cons a t ih =>
    cases k with
    | zero => simp [sumE]
    | succ k =>
      have := ih (k := k)
      simp only [sumE, List.take_succ_cons, List.map_cons, List.sum_cons] at this ⊢
      omega
theorem EndOK.bound {S : List St} {E : List Nat} (h : EndOK S E) {i : Nat} (hi : i < S.length) (x : Nat) : ahN (finAt S i) E (arcsAt S i) x ≤ 4097 := by
  rcases h.ends with ⟨h1, h2, h3⟩ | ⟨G, hT, h0, _, _⟩
  · have : i = 0 := by omega
    subst this
    rw [ahN, h2]
    simp [sumE]
    split <;> omega
  · have hp := hT.ends_all h0 (by have := h.range; omega) (fun j hj a ha => ((h.arcs j hj).2 a ha).2.2.2) h.bfs i hi
    have h1 := hT.ends i hi hp
    have h2 := (hT.most i hi hp).1
    have h3 := sumE_le_of (E := E) (l := arcsAt S i) (k := x)
    rw [ahN]
    omega
theorem okD_iff {c : Int} {S : List St} {E : List Nat} (h : EndOK S E) : (∃ ts, IsDict (c, S) ts) ↔ c = ((valE E 0 : Nat) : Int) ∧ AheadsOK S E := by
  have hr := h.range
  rcases h.ends with ⟨h1, h2, h3⟩ | ⟨G, hT, h0, hD, hA⟩
  · have hS := S_one h1 h.fin0 h2
    subst h3
    constructor
    · rintro ⟨ts, hts⟩
      by_cases hn : ts = []
      · subst hn
        have := IsDict.none.1 hts
        simp only [Prod.mk.injEq] at this
        refine ⟨this.1, ?_⟩
        intro i hi k a ha
        have : i = 0 := by omega
        subst this
        rw [h2] at ha
        simp at ha
      · have hc := hts.checks hn
        have h4 := hc.least 0 (by omega)
        have h5 := hc.ends 0 (by omega)
        rw [h.fin0, h2] at h5
        simp [sumE] at h5
        simp [h5] at h4
    · rintro ⟨h4, _⟩
      refine ⟨[], IsDict.none.2 ?_⟩
      rw [h4, hS]
      rfl
  · have hpos := hT.ends_all h0 (by omega) (fun j hj a ha => ((h.arcs j hj).2 a ha).2.2.2) h.bfs
    constructor
    · rintro ⟨ts, hts⟩
      have hn : ts ≠ [] := by
        rintro rfl
        have := IsDict.none.1 hts
        simp only [Prod.mk.injEq] at this
        have h4 := hT.ends 0 (by omega) h0
        rw [this.2] at h4
        simp [finAt, arcsAt, sumE] at h4
        omega
      have hc := hts.checks hn
      have hag := hA _ _ (hts.sane hn)
      have heq : ∀ i, i < S.length → valE E i = (lang S i).length := fun i hi => (hag i hi (hpos i hi)).1
      refine ⟨?_, ?_⟩
      · rw [hc.count, heq 0 (by omega)]
      · intro i hi k a ha
        rw [hc.ahead i hi k a ha, ahN]
        congr 2
        refine (sumE_congr fun b hb => ?_).symm
        exact heq _ ((h.arcs i hi).2 b (List.mem_of_mem_take hb)).2.2.2
    · rintro ⟨h4, h5⟩
      refine ⟨lang S 0, Checks.dict (e := valE E) (g := valE G) ?_⟩
      refine ⟨hr.2, hr.1, fun i hi => (h.arcs i hi).1, fun i hi a ha => ⟨((h.arcs i hi).2 a ha).1, ((h.arcs i hi).2 a ha).2.1⟩, fun i hi a ha => ((h.arcs i hi).2 a ha).2.2, h.bfs, ?_, fun i hi => hpos i hi, ?_, ?_, ?_, ?_, ?_, h4, h.fin0⟩
      · exact fun i hi => hT.ends i hi (hpos i hi)
      · exact (hT.most 0 (by omega) h0).1
      · exact fun i hi a ha => (hT.next i hi (hpos i hi) a ha).2
      · exact fun i hi => (hT.most i hi (hpos i hi)).2
      · intro i j hi hj h6 h7
        exact hD i j hi hj h6 h7
      · exact h5
end Go.Proofs.Ytbkedgpligcicaa

namespace Go.Proofs.Ytbkedgpligcicaa
open Go Go.RowKit
set_option linter.unusedVariables false

set_option maxHeartbeats 2000000 in
set_option maxRecDepth 100000 in
theorem doubled_any (n : Nat) (odd : Bool) (w : World) (hn : n ≤ 1099511627776) (R : Nat) (hR : 2 * n + (if odd then 1 else 0) = R) :
    Calls Try.prog 49 #[.int .i64 (n : Int), .bool odd] w fun e w' => e = .returned (.int .i64 (R : Int)) ∧ w' = w := by
  cases odd with
  | true =>
    have h1 : 2 * (n : Int) + 1 = (R : Int) := by simp at hR; omega
    have HR := hidd hR
    clear hR
    go_enter Try.func49, Try.ntmps49
    go_wp2_with fail
    go_ret
    exact ⟨by go_num, rfl⟩
  | false =>
    have h1 : 2 * (n : Int) = (R : Int) := by simp at hR; omega
    have HR := hidd hR
    clear hR
    go_enter Try.func49, Try.ntmps49
    go_wp2_with fail
    go_ret
    exact ⟨by go_num, rfl⟩

theorem run_makeMapRoom (n : Nat) (hn : n ≤ 1099511627776) (w : World) : (Instr.makeMap 114 (some (.int .i64 (n : Int)))).run Try.prog w = .ok (.map (some w.heap.size)) (w.alloc (.map #[] 0)) := by
  have hw : IntKind.i64.wrap (n : Int) = (n : Int) := by rw [IntKind.wrap_i64]; omega
  simp [Instr.makeMap, run_underlying Try.underlying114, asInt, asIntOf]
theorem box_three (w : World) (o1 o2 o3 : Obj) : (((w.alloc o1).alloc o2).alloc o3).heap[w.heap.size]? = some o1 ∧ (((w.alloc o1).alloc o2).alloc o3).heap[w.heap.size + 1]? = some o2 ∧ (((w.alloc o1).alloc o2).alloc o3).heap[w.heap.size + 1 + 1]? = some o3 := by
  have h2 := box_two w o1 o2
  refine ⟨?_, ?_, ?_⟩
  · rw [Below.heap_alloc _ _ _ (by simp; omega)]; exact h2.1
  · rw [Below.heap_alloc _ _ _ (by simp)]; exact h2.2
  · have := heap_alloc_new ((w.alloc o1).alloc o2) o3
    simpa using this
theorem reg_new {base : Nat} {w : World} {rb mb g n : Nat} {mc : Array Value} (hr : w.heap[rb]? = some (.cells #[.map (some mb), .slice (some ⟨g, 0, none⟩) 0 n] 117)) (hm : w.heap[mb]? = some (.map #[] 0)) (hg : w.heap[g]? = some (.cells mc 120))
    (hs : mc.size = n * 3) (hn : n ≤ 1099511627776) (ha : rb ≠ mb ∧ g ≠ mb ∧ g ≠ rb) (hb : base ≤ rb ∧ base ≤ mb ∧ base ≤ g) : RegAt base w rb mb g n [] :=
  ⟨hr, ⟨rfl, Or.inr ⟨g, n, mc, rfl, hb.2.2, hg, Nat.zero_le _, by unfold maxLen; omega, hs, by simp [lCells]⟩⟩, ⟨#[], 0, hm, rfl⟩, ha, ⟨hb.1, hb.2.1⟩, by simp, by simp⟩
set_option maxHeartbeats 4000000 in
set_option maxRecDepth 100000 in
theorem newRegister_any (n : Nat) (w : World) (hn : n ≤ 1099511627776) :
    Calls Try.prog 38 #[.int .i64 (n : Int)] w fun e w' => ∃ rb mb g cap, e = .returned (.pointer (some ⟨rb, 0, none⟩)) ∧ RegAt w.heap.size w' rb mb g cap [] ∧ Below w.heap.size w w' := by
  obtain ⟨i0, hi, hz0, hz1, hz2⟩ := info_parts Try.infoLink
  have hms : ∀ W : World, (Instr.makeSlice 115 (.int .i64 0) (.int .i64 (n : Int))).run Try.prog W = .ok (.slice (some ⟨W.heap.size, 0, none⟩) 0 n) (W.alloc (.cells (madeCells (Value.agg #[.int .i64 0, .int .i64 0, .int .i64 0]).cells (n * 3)) 120)) := fun W => by
    have := run_make (P := Try.prog) W 115 120 i0 _ Try.underlying115 hi hz0 .i64 .i64 0 (n : Int) (by omega) (by omega) (by rw [hz2]; omega) (by omega)
    rw [hz1] at this
    simpa using this
  have hmc : (madeCells (Value.agg #[.int .i64 0, .int .i64 0, .int .i64 0]).cells (n * 3)).size = n * 3 := size_madeCells _ _
  generalize madeCells (Value.agg #[.int .i64 0, .int .i64 0, .int .i64 0]).cells (n * 3) = mc at *
  have Hmc := hidd hmc
  clear hmc hi hz0 hz1 hz2
  have hmk := run_makeMapRoom n hn
  go_enter Try.func38, Try.ntmps38
  go_wp2_with fail
  go_region_law (fail)
  · go_wp2_with fail
    go_ret
    have h3 := box_three w (.map #[] 0) (.cells mc 120) (.cells #[.map (some w.heap.size), .slice (some ⟨w.heap.size + 1, 0, none⟩) 0 n] 117)
    refine ⟨w.heap.size + 1 + 1, w.heap.size, w.heap.size + 1, n, rfl, reg_new h3.2.2 h3.1 h3.2.1 Hmc.out hn ⟨by omega, by omega, by omega⟩ ⟨by omega, by omega, by omega⟩, ?_⟩
    exact below_drewN ((((Below.refl _ _).alloc (Nat.le_refl _) _).alloc (by simp) _).alloc (by simp; omega) _) 1
  · go_wp2_with fail
    go_ret
    have h3 := box_three w (.cells mc 120) (.map #[] 0) (.cells #[.map (some (w.heap.size + 1)), .slice (some ⟨w.heap.size, 0, none⟩) 0 n] 117)
    refine ⟨w.heap.size + 1 + 1, w.heap.size + 1, w.heap.size, n, rfl, reg_new h3.2.2 h3.2.1 h3.1 Hmc.out hn ⟨by omega, by omega, by omega⟩ ⟨by omega, by omega, by omega⟩, ?_⟩
    exact below_drewN ((((Below.refl _ _).alloc (Nat.le_refl _) _).alloc (by simp) _).alloc (by simp; omega) _) 1
end Go.Proofs.Ytbkedgpligcicaa

namespace Go.Proofs.Ytbkedgpligcicaa
open Go Go.RowKit Go.Shelf
set_option linter.unusedVariables false
set_option maxRecDepth 100000
attribute [local go_sem] Oper.semAt_some

theorem branches_any (a : Option Addr) (len cap p : Nat) (w : World) :
    Calls Try.prog 67 #[.slice a len cap, .int .i64 (p : Int)] w fun e w' => e = .returned (.func (.func 97) #[] #[.pointer (some ⟨w.heap.size, 0, none⟩), .pointer (some ⟨w.heap.size + 1, 0, none⟩)]) ∧ w' = (w.alloc (.cells #[.slice a len cap] 23)).alloc (.cells #[.int .i64 (p : Int)] 3) := by
  go_enter Try.func67, Try.ntmps67
  go_wp2
  go_ret
  refine ⟨?_, rfl⟩
  simp

/-- What freeze does. -/
structure Frozen (base : Nat) (W W' : World) (rb mb g : Nat) (L : List Ar) (h : Nat) (T : List Tx) (s : Nat) (L' : List Ar) (g' cap' : Nat) : Prop where
  reg : RegAt base W' rb mb g' cap' L'
  fr : Fr3 rb mb g W W'
  den : Den L' (h + 1) T s
  pre : L <+: L'
  few : L'.length ≤ L.length + T.length * h
  new : g' = g ∨ W.heap.size ≤ g'
theorem Den.le {L : List Ar} {d s : Nat} {T : List Tx} (h : Den L d T s) : s ≤ 2 * L.length + 1 := by
  cases d with
  | zero => obtain ⟨_, rfl⟩ := h; omega
  | succ d =>
    obtain ⟨n, rfl, g, h2, _⟩ := h
    have := h2.le
    unfold frz
    split <;> omega
/-- Between two rounds. -/
structure FzInv (base : Nat) (w : World) (rb mb g0 B8 h : Nat) (L0 : List Ar) (T : List Tx) (e : Nat) (W : World) : Prop where
  size : w.heap.size + 2 ≤ W.heap.size
  os : W.os = w.os
  tape : W.tape = w.tape
  output : W.output = w.output
  fr : ∀ b, b < w.heap.size → b ≠ rb → b ≠ mb → b ≠ g0 → b ≠ B8 → W.heap[b]? = w.heap[b]?
  le : e ≤ T.length
  cut : CutT T e
  ex : ∃ L g cap n gf, RegAt base W rb mb g cap L ∧ L0 <+: L ∧ L.length ≤ L0.length + (T.length - e) * h ∧ Part L h T e n gf ∧ W.heap[B8]? = some (.cells #[.int .i64 (n : Int)] 3) ∧ (g = g0 ∨ w.heap.size + 2 ≤ g)
theorem FzInv.put {base : Nat} {w : World} {rb mb g0 B8 h : Nat} {L0 : List Ar} {T : List Tx} (hrb : rb < w.heap.size) (hmb : mb < w.heap.size) (hg0 : g0 < w.heap.size) (hB8 : B8 < w.heap.size) {e : Nat} {W : World} (hI : FzInv base w rb mb g0 B8 h L0 T e W) (o : Obj) :
    FzInv base w rb mb g0 B8 h L0 T e (W.putObj (w.heap.size + 1) o) := by
  obtain ⟨L, g, cap, n, gf, h1, h2, h3, h4, h5, h6⟩ := hI.ex
  have hg : g ≠ w.heap.size + 1 := by omega
  refine ⟨by have := hI.size; simpa [World.putObj] using this, hI.os, hI.tape, hI.output, fun b hb a1 a2 a3 a4 => (World.putObj_heap_other (by omega)).trans (hI.fr b hb a1 a2 a3 a4), hI.le, hI.cut, L, g, cap, n, gf, ?_, h2, h3, h4, (World.putObj_heap_other (by omega)).trans h5, h6⟩
  exact h1.keep (by simp [World.putObj]) (World.putObj_heap_other (by omega)) (World.putObj_heap_other (by omega)) (World.putObj_heap_other hg)
theorem FzInv.drew {base : Nat} {w : World} {rb mb g0 B8 h : Nat} {L0 : List Ar} {T : List Tx} {e : Nat} {W : World} (hI : FzInv base w rb mb g0 B8 h L0 T e W) (q : Nat) :
    FzInv base w rb mb g0 B8 h L0 T e (W.drewN q) := by
  obtain ⟨L, g, cap, n, gf, h1, h2, h3, h4, h5, h6⟩ := hI.ex
  exact ⟨by simpa using hI.size, hI.os, hI.tape, hI.output, fun b hb a1 a2 a3 a4 => by rw [← hI.fr b hb a1 a2 a3 a4]; simp, hI.le, hI.cut, L, g, cap, n, gf, h1.keep (by simp) (by simp) (by simp) (by simp), h2, h3, h4, by rw [← h5]; simp, h6⟩
theorem FzInv.next {base : Nat} {w : World} {rb mb g0 B8 k : Nat} {L0 : List Ar} {T : List Tx} (hrb : rb < w.heap.size) (hmb : mb < w.heap.size) (hg0 : g0 < w.heap.size) (hB8 : B8 < w.heap.size) (hne : B8 ≠ rb ∧ B8 ≠ mb ∧ B8 ≠ g0)
    {e s x : Nat} {W W1 W2 : World} (hI : FzInv base w rb mb g0 B8 (k + 1) L0 T e W) (hs : StepT T s e x) (hse : s < e) (hct : CutT T s)
    {L : List Ar} {g cap n : Nat} {gf : Nat → Nat} (h1 : RegAt base W rb mb g cap L) (h2 : L0 <+: L) (h3 : L.length ≤ L0.length + (T.length - e) * (k + 1)) (h4 : Part L (k + 1) T e n gf) (h5 : W.heap[B8]? = some (.cells #[.int .i64 (n : Int)] 3)) (h6 : g = g0 ∨ w.heap.size + 2 ≤ g)
    {s0 m g1 c1 g2 c2 : Nat} {L1 L2 : List Ar} (hz : Frozen base W W1 rb mb g L k (((T.drop s).take (e - s)).map List.tail) s0 L1 g1 c1) (hc : Chained base W1 W2 rb mb g1 L1 ((x : Int), (s0 : Int), (n : Int)) m L2 g2 c2) :
    FzInv base w rb mb g0 B8 (k + 1) L0 T s (W2.setCell ⟨B8, 0, none⟩ (.int .i64 ((m + 1 : Nat) : Int))) ∧ (∀ b, w.heap.size ≤ b → b < w.heap.size + 2 → (W2.setCell ⟨B8, 0, none⟩ (.int .i64 ((m + 1 : Nat) : Int))).heap[b]? = W.heap[b]?) := by
  have hzs := hz.fr.size
  have hcs := hc.fr.size
  have hIs := hI.size
  have hle := hI.le
  have hg1 : g1 = g0 ∨ w.heap.size + 2 ≤ g1 := by
    rcases hz.new with e1 | e1
    · rw [e1]; exact h6
    · exact Or.inr (by omega)
  have hg2 : g2 = g0 ∨ w.heap.size + 2 ≤ g2 := by
    rcases hc.new with e1 | e1
    · rw [e1]; exact hg1
    · exact Or.inr (by omega)
  have hbl : ∀ b, b < W.heap.size → b ≠ rb → b ≠ mb → b ≠ g → b ≠ g1 → W2.heap[b]? = W.heap[b]? := fun b hb a1 a2 a3 a4 => (hc.fr.block b (by omega) a1 a2 a4).trans (hz.fr.block b hb a1 a2 a3)
  have hb8 : W2.heap[B8]? = some (.cells #[.int .i64 (n : Int)] 3) := (hbl B8 (by omega) hne.1 hne.2.1 (by omega) (by omega)).trans h5
  have hset : ∀ b, b ≠ B8 → (W2.setCell ⟨B8, 0, none⟩ (.int .i64 ((m + 1 : Nat) : Int))).heap[b]? = W2.heap[b]? := fun b hb => heap_setCell_other W2 ⟨B8, 0, none⟩ b _ hb
  refine ⟨⟨by simp; omega, ?_, ?_, ?_, ?_, by omega, hct, L2, g2, c2, m + 1, _, ?_, ?_, ?_, h4.step hs hz.pre hc.pre hz.den hc.at_, ?_, hg2⟩, ?_⟩
  · exact hc.fr.os.trans (hz.fr.os.trans hI.os)
  · exact hc.fr.tape.trans (hz.fr.tape.trans hI.tape)
  · exact hc.fr.output.trans (hz.fr.output.trans hI.output)
  · intro b hb a1 a2 a3 a4
    rw [hset b a4, hbl b (by omega) a1 a2 (by omega) (by omega)]
    exact hI.fr b hb a1 a2 a3 a4
  · exact hc.reg.keep (by simp) (hset _ (fun e => hne.1 e.symm)) (hset _ (fun e => hne.2.1 e.symm)) (hset _ (by omega))
  · exact h2.trans (hz.pre.trans hc.pre)
  · have f1 := hz.few
    have f2 := hc.few
    have hlen : (((T.drop s).take (e - s)).map List.tail).length = e - s := by simp; omega
    rw [hlen] at f1
    obtain ⟨d, hd⟩ : ∃ d, e = s + d + 1 := ⟨e - s - 1, by omega⟩
    have e1 : e - s = d + 1 := by omega
    rw [e1] at f1
    have e2 : T.length - s = (T.length - e) + (d + 1) := by omega
    rw [e2, Nat.add_mul]
    have e3 : (d + 1) * (k + 1) = (d + 1) * k + (d + 1) := by rw [Nat.mul_add, Nat.mul_one]
    omega
  · rw [heap_setCell_same W2 B8 0 _ _ _ hb8]
    rfl
  · intro b hb1 hb2
    rw [hset b (by omega)]
    exact hbl b (by omega) (by omega) (by omega) (by omega) (by omega)
/-- What freeze is asked. -/
def FreezeC (base rb mb h : Nat) : Prop := ∀ (W : World) (g cap : Nat) (L : List Ar) (a : Option Addr) (cp : Nat) (ts : List Tx) (p : Nat), RegAt base W rb mb g cap L → TmAt W a ts → (∀ gT off, a = some ⟨gT, off, none⟩ → ts ≠ [] → gT ≠ rb ∧ gT ≠ mb ∧ gT ≠ g) →
  ts.length ≤ cp → cp ≤ 281474976710656 → ts.length ≤ 4096 → RiseT (dropT p ts) → (∀ t ∈ ts, p ≤ t.length ∧ t.length ≤ p + h) → p + h ≤ 64 → L.length + ts.length * h ≤ 1000000 →
  Calls Try.prog 40 #[.pointer (some ⟨rb, 0, none⟩), .slice a ts.length cp, .int .i64 (p : Int)] W fun e W' => ∃ (s : Nat) (L' : List Ar) (g' cap' : Nat), e = .returned (.int .i64 (s : Int)) ∧ Frozen base W W' rb mb g L h (dropT p ts) s L' g' cap'
end Go.Proofs.Ytbkedgpligcicaa

namespace Go.Proofs.Ytbkedgpligcicaa
open Go
set_option linter.unusedVariables false

/-! The states of a frozen number, in the order in which they are met: plain. -/
theorem IsF.chain {L : List Ar} {s : Nat} (h : IsF L s) : ChainIs L (lksF L s) (s / 2) := by
  obtain ⟨d, T, hr, hd⟩ := h
  cases d with
  | zero =>
    obtain ⟨_, rfl⟩ := hd
    rfl
  | succ d =>
    obtain ⟨n, rfl, g, h2, _⟩ := hd
    have e : lksF L (frz n (finT T)) = lkG T g := by
      rw [lksF, frz_half]
      exact arcsC_of h2 (by rw [lkG, List.length_map]; exact labelsT_lenF T)
    rw [e, frz_half]
    exact h2
theorem IsF.le {L : List Ar} {s : Nat} (h : IsF L s) : s ≤ 2 * L.length + 1 := by
  obtain ⟨d, T, hr, hd⟩ := h
  exact hd.le
theorem IsF.lks256 {L : List Ar} {s : Nat} (h : IsF L s) : (lksF L s).length ≤ 256 := by
  obtain ⟨d, T, hr, hd⟩ := h
  obtain ⟨g, h1, _, _⟩ := hd.lks
  rw [h1, lkG, List.length_map]
  exact labelsT_lenF T
theorem IsF.to {L : List Ar} {s : Nat} (h : IsF L s) {k : Nat} {p : Lk} (hk : (lksF L s)[k]? = some p) : ∃ y : Nat, p.2 = (y : Int) ∧ y ∈ nxF L s ∧ (nxF L s)[k]? = some y ∧ 0 ≤ p.1 ∧ p.1 ≤ 255 := by
  obtain ⟨d, T, hr, hd⟩ := h
  obtain ⟨g, h1, _, _⟩ := hd.lks
  have hk' := hk
  rw [h1, lkG, List.getElem?_map] at hk'
  cases hx : (labelsT T)[k]? with
  | none => rw [hx] at hk'; cases hk'
  | some n =>
    rw [hx] at hk'
    simp only [Option.map_some, Option.some.injEq] at hk'
    subst hk'
    have hn := (labelsT_mem.1 (List.mem_of_getElem? hx)).1
    have e : (nxF L s)[k]? = some (g n) := by rw [nxF, List.getElem?_map, hk]; simp
    exact ⟨g n, rfl, List.mem_of_getElem? e, e, by simp, by dsimp only; omega⟩
def arcT (o : List Nat) (p : Lk) : Ar := (p.1, ((o.idxOf p.2.toNat : Nat) : Int), (0 : Int))
theorem stF_eq (L : List Ar) (o : List Nat) (s : Nat) : stF L o s = (decide (s % 2 = 1), (lksF L s).map (arcT o)) := rfl
theorem idxOf_appF {r : List Nat} {x : Nat} : ∀ {o : List Nat}, x ∈ o → (o ++ r).idxOf x = o.idxOf x
  | [], h => by simp at h
  | a :: t, h => by
    rw [List.cons_append, List.idxOf_cons, List.idxOf_cons]
    by_cases e : a = x
    · subst e; simp
    · have hx : x ∈ t := by
        rcases List.mem_cons.1 h with h | h
        · exact absurd h.symm e
        · exact h
      rw [idxOf_appF hx]
theorem arcs_app {o r : List Nat} {l : List Lk} (h : ∀ p ∈ l, p.2.toNat ∈ o) : l.map (arcT (o ++ r)) = l.map (arcT o) :=
  List.map_congr_left fun p hp => by unfold arcT; rw [idxOf_appF (h p hp)]
theorem nxF_mem {L : List Ar} {s : Nat} {p : Lk} (h : p ∈ lksF L s) : p.2.toNat ∈ nxF L s := List.mem_map.2 ⟨p, h, rfl⟩
theorem stF_app {L : List Ar} {o r : List Nat} {s : Nat} (h : ∀ y ∈ nxF L s, y ∈ o) : stF L (o ++ r) s = stF L o s := by
  rw [stF_eq, stF_eq, arcs_app fun p hp => h _ (nxF_mem hp)]
/-- What is known when i states are told. -/
structure PlO (L : List Ar) (r i : Nat) (o : List Nat) : Prop where
  bfs : bfs (nxF L) i 0 [r] = o
  nodup : o.Nodup
  allF : ∀ x ∈ o, IsF L x
  closed : ∀ j, j < i → ∀ x, o[j]? = some x → ∀ y ∈ nxF L x, y ∈ o
theorem PlO.start {L : List Ar} {r : Nat} (h : IsF L r) : PlO L r 0 [r] := by
  refine ⟨rfl, by simp, fun x hx => ?_, fun j hj => by omega⟩
  have e : x = r := by simpa using hx
  rw [e]; exact h
theorem PlO.few {L : List Ar} {r i : Nat} {o : List Nat} (h : PlO L r i o) : o.length ≤ 2 * L.length + 2 := by
  have hs := h.nodup.length_le_of_subset (l₂ := List.range (2 * L.length + 2)) (fun x hx => by
    have := (h.allF x hx).le
    simp; omega)
  simpa using hs
theorem PlO.next {L : List Ar} {r i x : Nat} {o : List Nat} (h : PlO L r i o) (hx : o[i]? = some x) : PlO L r (i + 1) (meets o (nxF L x)) := by
  have hxm := List.mem_of_getElem? hx
  refine ⟨bfs_step h.bfs hx, meets_nodup h.nodup, fun y hy => ?_, fun j hj y hy z hz => ?_⟩
  · rcases meets_mem.1 hy with hy | hy
    · exact h.allF y hy
    · exact (h.allF x hxm).next y hy
  · obtain ⟨q, hq⟩ := meets_pre (nxF L x) o
    have hil := (List.getElem?_eq_some_iff.1 hx).1
    rw [hq, List.getElem?_append_left (by omega)] at hy
    rw [meets_mem]
    by_cases hji : j = i
    · subst hji
      rw [hx] at hy
      cases hy
      exact Or.inr hz
    · exact Or.inl (h.closed j (by omega) y hy z hz)
theorem PlO.done {L : List Ar} {r i : Nat} {o : List Nat} (h : PlO L r i o) (hi : o.length ≤ i) : IsBfs (nxF L) r o := ⟨i, h.bfs, hi⟩
theorem PlO.states {L : List Ar} {r i x : Nat} {o : List Nat} (h : PlO L r i o) (hx : o[i]? = some x) :
    ((meets o (nxF L x)).take (i + 1)).map (stF L (meets o (nxF L x))) = ((o.take i).map (stF L o)) ++ [stF L (meets o (nxF L x)) x] := by
  obtain ⟨q, hq⟩ := meets_pre (nxF L x) o
  have hil := (List.getElem?_eq_some_iff.1 hx).1
  have e1 : (meets o (nxF L x)).take (i + 1) = o.take i ++ [x] := by
    rw [hq, List.take_append_of_le_length (by omega), List.take_add_one, hx]
    rfl
  rw [e1, List.map_append]
  congr 1
  refine List.map_congr_left fun y hy => ?_
  obtain ⟨j, hj⟩ := List.mem_iff_getElem?.1 hy
  have hjl := (List.getElem?_eq_some_iff.1 hj).1
  rw [List.length_take] at hjl
  rw [List.getElem?_take, if_pos (by omega)] at hj
  rw [hq]
  exact stF_app (h.closed j (by omega) y hj)
end Go.Proofs.Ytbkedgpligcicaa

namespace Go.Proofs.Ytbkedgpligcicaa
open Go
set_option linter.unusedVariables false

/-! The way of a text through a dictionary, in plain words. -/
/-- What stands behind the bytes p. -/
def subs : Tx → List Tx → List Tx
  | [], L => L
  | b :: p, L => subs p (subT b.toNat L)
/-- How many texts come ahead of t. -/
def rk (t : Tx) (L : List Tx) : Nat := L.countP fun s => ltT s t
theorem rk_nil (L : List Tx) : rk [] L = 0 := by
  unfold rk
  rw [List.countP_eq_zero]
  intro s _
  cases s <;> simp [ltT]
theorem rk_cons (b : UInt8) (r : Tx) : ∀ L : List Tx, rk (b :: r) L = aheadT b.toNat L + rk r (subT b.toNat L)
  | [] => rfl
  | s :: L => by
    have ih := rk_cons b r L
    unfold rk aheadT subT at ih ⊢
    rw [List.countP_cons, List.countP_cons, List.filterMap_cons, ih]
    cases s with
    | nil => simp [ltT, isAhead, tailIf]; omega
    | cons c q =>
      rcases Nat.lt_trichotomy c.toNat b.toNat with h | h | h
      · have h2 : ¬ c.toNat = b.toNat := by omega
        simp [ltT, isAhead, tailIf, h, h2]; omega
      · have h1 : c = b := UInt8.toNat_inj.1 h
        subst h1
        simp only [ltT, isAhead, tailIf, Nat.lt_irrefl, decide_false, Bool.false_or, beq_self_eq_true, Bool.true_and, if_true, List.countP_cons]
        simp; omega
      · have h2 : ¬ c.toNat = b.toNat := by omega
        have h3 : ¬ c = b := fun e => h2 (by rw [e])
        have h4 : ¬ c.toNat < b.toNat := by omega
        simp [ltT, isAhead, tailIf, h2, h3, h4]
theorem subs_snoc (b : UInt8) : ∀ (p : Tx) (L : List Tx), subs (p ++ [b]) L = subT b.toNat (subs p L)
  | [], L => rfl
  | a :: p, L => by rw [List.cons_append, subs, subs, subs_snoc b p]
theorem rk_snoc (b : UInt8) : ∀ (p : Tx) (L : List Tx), rk (p ++ [b]) L = rk p L + aheadT b.toNat (subs p L)
  | [], L => by rw [List.nil_append, rk_cons, rk_nil, rk_nil, subs]; omega
  | a :: p, L => by rw [List.cons_append, rk_cons, rk_snoc b p, rk_cons, subs]; omega
theorem subs_mem : ∀ {p : Tx} {L : List Tx} {t : Tx}, t ∈ subs p L ↔ p ++ t ∈ L
  | [], L, t => Iff.rfl
  | a :: p, L, t => by
    rw [subs, subs_mem, subT_mem, List.cons_append]
    constructor
    · rintro ⟨c, hc, h⟩
      rw [UInt8.toNat_inj.1 hc] at h
      exact h
    · exact fun h => ⟨a, rfl, h⟩
theorem subs_rise : ∀ {p : Tx} {L : List Tx}, RiseT L → RiseT (subs p L)
  | [], L, h => h
  | a :: p, L, h => by show RiseT (subs p (subT a.toNat L)); exact subs_rise (subT_rise h)
theorem subs_nil : ∀ (p : Tx), subs p [] = []
  | [] => rfl
  | a :: p => subs_nil p
theorem subs_append : ∀ (p q : Tx) (L : List Tx), subs (p ++ q) L = subs q (subs p L)
  | [], q, L => rfl
  | a :: p, q, L => by rw [List.cons_append, subs, subs, subs_append p q]
/-- In a rising list the place of a text is the number of those ahead of it. -/
theorem rise_rk : ∀ {L : List Tx} {t : Tx}, RiseT L → t ∈ L → L.idxOf t = rk t L
  | [], t, _, h => by simp at h
  | s :: L, t, hr, h => by
    have hr' := List.pairwise_cons.1 hr
    unfold rk
    rw [List.idxOf_cons, List.countP_cons]
    by_cases e : s = t
    · subst e
      rw [beq_self_eq_true, cond_true, ltT_irr]
      have : L.countP (fun x => ltT x s) = 0 := by
        rw [List.countP_eq_zero]
        intro x hx hlt
        have h1 := hr'.1 x hx
        have := ltT_trans h1 hlt
        rw [ltT_irr] at this
        cases this
      rw [this]; rfl
    · have ht : t ∈ L := by
        rcases List.mem_cons.1 h with h | h
        · exact absurd h.symm e
        · exact h
      have e2 : (s == t) = false := beq_false_of_ne e
      rw [e2, cond_false, rise_rk hr'.2 ht, hr'.1 t ht]
      rfl
theorem idx_find : ∀ {L : List Tx} {t : Tx} {i : Nat}, i < L.length → L.getD i [] = t → (∀ j, j < i → L.getD j [] ≠ t) → L.idxOf t = i
  | [], t, i, hi, _, _ => by simp at hi
  | s :: L, t, 0, _, he, _ => by
    simp at he
    subst he
    simp
  | s :: L, t, i + 1, hi, he, hn => by
    have h0 : s ≠ t := by have := hn 0 (by omega); simpa using this
    have e2 : (s == t) = false := beq_false_of_ne h0
    rw [List.idxOf_cons, e2, cond_false, idx_find (L := L) (t := t) (i := i) (by simpa using hi) (by simpa using he) (fun j hj => by have := hn (j + 1) (by omega); simpa using this)]
theorem find_not {L : List Tx} {t : Tx} (hn : ∀ j, j < L.length → L.getD j [] ≠ t) : t ∉ L := fun h => by
  obtain ⟨j, hj, rfl⟩ := List.getElem_of_mem h
  exact hn j hj (getD_at hj)
/-! A state of a dictionary. -/
section
variable {ts : List Tx} {ord : List (List Tx)}
theorem dict_at (hb : IsBfs nextT ts ord) {L : List Tx} (hL : L ∈ ord) : (ord.map (stOf ord)).getD (ord.idxOf L) st0 = stOf ord L := by
  rw [List.getD_eq_getElem?_getD, List.getElem?_map, idxOf_at hL]; rfl
theorem dict_next (hb : IsBfs nextT ts ord) {L : List Tx} (hL : L ∈ ord) {n : Nat} (hn : n ∈ labelsT L) : subT n L ∈ ord := hb.closed L hL _ (List.mem_map.2 ⟨n, hn, rfl⟩)
theorem dict_root (hb : IsBfs nextT ts ord) : ts ∈ ord ∧ ord.idxOf ts = 0 := by
  have h := hb.head
  refine ⟨List.mem_of_getElem? h, idxOf_of hb.nodup h⟩
/-- The arcs of a set: the k-th one. -/
theorem stOf_at {L : List Tx} {k : Nat} {n : Nat} (h : (labelsT L)[k]? = some n) : (stOf ord L).2[k]? = some ((n : Int), ((ord.idxOf (subT n L) : Nat) : Int), ((aheadT n L : Nat) : Int)) := by
  simp [stOf, h]
end
end Go.Proofs.Ytbkedgpligcicaa

namespace Go.Proofs.Ytbkedgpligcicaa
open Go
set_option linter.unusedVariables false

/-! Searching among arcs that rise. -/
def cmpI (x y : Int) : Int := if x < y then -1 else if y < x then 1 else 0
def below (key : Ar → Int) (T : Int) (l : List Ar) : Nat := l.countP fun a => decide (key a < T)
def foundAt (key : Ar → Int) (T : Int) (l : List Ar) : Bool := match l[below key T l]? with
  | some a => decide (key a = T)
  | none => false
theorem below_edge (key : Ar → Int) (T : Int) : ∀ (l : List Ar) (i : Nat), i ≤ l.length → (∀ t, t < i → key (l.getD t ar0) < T) → (∀ t, i ≤ t → t < l.length → ¬ key (l.getD t ar0) < T) → below key T l = i
  | [], i, hi, _, _ => by simp at hi; simp [below, hi]
  | a :: r, 0, _, _, h2 => by
    unfold below
    rw [List.countP_eq_zero]
    intro x hx
    obtain ⟨t, ht, rfl⟩ := List.getElem_of_mem hx
    have := h2 t (Nat.zero_le _) ht
    have e : (a :: r).getD t ar0 = (a :: r)[t] := by simp [List.getD_eq_getElem?_getD, List.getElem?_eq_getElem ht]
    rw [e] at this
    simpa using this
  | a :: r, i + 1, hi, h1, h2 => by
    have ha : key a < T := by simpa using h1 0 (Nat.succ_pos _)
    have ih := below_edge key T r i (by simpa using hi) (fun t ht => by simpa using h1 (t + 1) (by omega)) (fun t h3 h4 => by simpa using h2 (t + 1) (by omega) (by simpa using h4))
    unfold below at ih ⊢
    rw [List.countP_cons, ih]
    simp [ha]
theorem below_le (key : Ar → Int) (T : Int) (l : List Ar) : below key T l ≤ l.length := List.countP_le_length
/-- The labels of a set. -/
theorem nat_edge : ∀ {l : List Nat} (b : Nat), l.Pairwise (· < ·) → (b ∈ l → l[l.countP fun n => decide (n < b)]? = some b) ∧ (∀ n, l[l.countP fun n => decide (n < b)]? = some n → n = b → b ∈ l)
  | [], b, _ => ⟨fun h => by simp at h, fun n h => by simp at h⟩
  | a :: r, b, hp => by
    have hp' := List.pairwise_cons.1 hp
    refine ⟨fun h => ?_, fun n h e => ?_⟩
    · by_cases hab : a < b
      · rw [List.countP_cons_of_pos (by simpa using hab), List.getElem?_cons_succ]
        exact (nat_edge b hp'.2).1 ((List.mem_cons.1 h).resolve_left (by omega))
      · have hz : r.countP (fun n => decide (n < b)) = 0 := by
          rw [List.countP_eq_zero]
          intro x hx
          have := hp'.1 x hx
          simp; omega
        rw [List.countP_cons_of_neg (by simpa using hab), hz, List.getElem?_cons_zero]
        rcases List.mem_cons.1 h with h | h
        · rw [h]
        · have := hp'.1 b h; omega
    · rw [← e]; exact List.mem_of_getElem? h
theorem label_edge {ord : List (List Tx)} (L : List Tx) (b : Nat) : below (fun a => a.1) (b : Int) (stOf ord L).2 = (labelsT L).countP fun n => decide (n < b) := by
  unfold below stOf
  rw [List.countP_map]
  congr 1
  funext n
  simp
/-- What the search by a byte finds. -/
theorem label_found {ord : List (List Tx)} {L : List Tx} {b : Nat} (h : b ∈ labelsT L) : foundAt (fun a => a.1) (b : Int) (stOf ord L).2 = true ∧ (stOf ord L).2[below (fun a => a.1) (b : Int) (stOf ord L).2]? = some ((b : Int), ((ord.idxOf (subT b L) : Nat) : Int), ((aheadT b L : Nat) : Int)) := by
  have h1 := stOf_at (ord := ord) ((nat_edge b (labelsT_lt L)).1 h)
  rw [← label_edge (ord := ord)] at h1
  refine ⟨?_, h1⟩
  rw [foundAt, h1]
  simp
theorem label_not {ord : List (List Tx)} {L : List Tx} {b : Nat} (h : b ∉ labelsT L) : foundAt (fun a => a.1) (b : Int) (stOf ord L).2 = false := by
  rw [foundAt]
  cases e : (stOf ord L).2[below (fun a => a.1) (b : Int) (stOf ord L).2]? with
  | none => rfl
  | some a =>
    rw [label_edge] at e
    cases e2 : (labelsT L)[(labelsT L).countP fun n => decide (n < b)]? with
    | none =>
      have := congrArg (fun l => l[(labelsT L).countP fun n => decide (n < b)]?) (show (stOf ord L).2 = (labelsT L).map fun (n : Nat) => ((n : Int), ((ord.idxOf (subT n L) : Nat) : Int), ((aheadT n L : Nat) : Int)) from rfl)
      simp only [List.getElem?_map, e2, Option.map_none] at this
      rw [this] at e; cases e
    | some n =>
      have h1 := stOf_at (ord := ord) e2
      rw [e] at h1
      cases h1
      refine decide_eq_false fun e3 => h ?_
      have e4 : n = b := by have : (n : Int) = (b : Int) := e3; omega
      exact (nat_edge b (labelsT_lt L)).2 n e2 e4
theorem stOf_rise (ord : List (List Tx)) (L : List Tx) : (stOf ord L).2.Pairwise fun a b => a.1 < b.1 := by
  unfold stOf
  rw [List.pairwise_map]
  exact (labelsT_lt L).imp fun {a b} h => by show (a : Int) < (b : Int); omega
theorem not_label {L : List Tx} {b : UInt8} (h : b.toNat ∉ labelsT L) : subT b.toNat L = [] := by
  have hb := UInt8.toNat_lt b
  exact Classical.byContradiction fun e => h (labelsT_mem.2 ⟨hb, e⟩)
end Go.Proofs.Ytbkedgpligcicaa
