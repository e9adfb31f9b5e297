import Derived.Test.YtgoklapafidpkaaGreatDoorDocOKJ45
import Derived.Test.YtgoklapafidpkaaGreatDoorDocOKJ00
import Derived.WalkLawsBesides
import Derived.BigQuiet
import Derived.Deep.QuietTactic
import Derived.Deep.RegionWith
namespace Go.Proofs.YtgoklapafidpkaaGreatDoor
open Go Go.RowKit
set_option linter.unusedVariables false
set_option maxRecDepth 100000

theorem Tryz.infoVal : (Tryz.prog.info? 60).map (fun i => (i.zero, i.size, i.bytes)) = some (some (.agg #[.string ⟨#[]⟩, .slice none 0 0, .slice none 0 0]), 3, 64) := by kernel_rfl
theorem setTri (zs xs : List Value) (k n : Nat) (u v x : Value) (hz : zs.length = k * 3) (hx : xs.length = n * 3) (hk : k < n) : (((zs ++ xs.drop (k * 3)).set (k * 3) u).set (k * 3 + 1) v).set (k * 3 + 2) x = (zs ++ [u, v, x]) ++ xs.drop ((k + 1) * 3) := by
  have hd : xs.drop (k * 3) = xs[k * 3] :: xs[k * 3 + 1] :: xs[k * 3 + 2] :: xs.drop ((k + 1) * 3) := by
    rw [List.drop_eq_getElem_cons (by omega), List.drop_eq_getElem_cons (by omega), List.drop_eq_getElem_cons (by omega)]
    congr 3
    congr 1
    omega
  rw [hd, List.set_append_right _ _ (by omega), hz, Nat.sub_self, List.set_cons_zero, List.set_append_right _ _ (by omega), hz, Nat.add_sub_cancel_left, List.set_cons_succ, List.set_cons_zero, List.set_append_right _ _ (by omega), hz, Nat.add_sub_cancel_left, List.set_cons_succ, List.set_cons_succ, List.set_cons_zero]
  simp
/-- One value, as three cells tell it, all of it behind B. -/
def ValAt (w : World) (B : Nat) (c0 c1 c2 : Option Value) (v : Vl) : Prop := c0 = some (mkS v.1) ∧ (∃ gt ct, c1 = some (.slice (some ⟨gt, 0, none⟩) v.2.1.length ct) ∧ B < gt ∧ RowTx w gt v.2.1) ∧ ∃ gn cn, c2 = some (.slice (some ⟨gn, 0, none⟩) v.2.2.length cn) ∧ B < gn ∧ RowNz w gn v.2.2
theorem ValAt.keep {w w' : World} {B : Nat} {c0 c1 c2 : Option Value} {v : Vl} (h : ValAt w B c0 c1 c2 v) (hk : ∀ b, B < b → b < w.heap.size → w'.heap[b]? = w.heap[b]?) : ValAt w' B c0 c1 c2 v := by
  obtain ⟨h0, ⟨gt, ct, h1, h2, h3⟩, gn, cn, h4, h5, h6⟩ := h
  exact ⟨h0, ⟨gt, ct, h1, h2, h3.keep (hk gt h2 h3.lt)⟩, gn, cn, h4, h5, h6.keep (hk gn h5 h6.lt)⟩
def DocAt (w : World) (g : Nat) (V : List Vl) : Prop := ∃ cs, w.heap[g]? = some (Obj.cells cs 60) ∧ V.length * 3 ≤ cs.size ∧ ∀ j, j < V.length → ValAt w g cs[j * 3]? cs[j * 3 + 1]? cs[j * 3 + 2]? (V.getD j vl0)
theorem DocAt.lt {w : World} {g : Nat} {V : List Vl} (h : DocAt w g V) : g < w.heap.size := by
  obtain ⟨cs, h1, _⟩ := h
  exact (Array.getElem?_eq_some_iff.1 h1).1
theorem DocAt.keep {w w' : World} {g : Nat} {V : List Vl} (h : DocAt w g V) (hk : ∀ b, g ≤ b → b < w.heap.size → w'.heap[b]? = w.heap[b]?) : DocAt w' g V := by
  have hl := h.lt
  obtain ⟨cs, h1, h2, h3⟩ := h
  exact ⟨cs, (hk g (Nat.le_refl _) hl).trans h1, h2, fun j hj => (h3 j hj).keep fun b hb hb2 => hk b (by omega) hb2⟩
theorem DocAt.below {w w' : World} {g : Nat} {V : List Vl} (h : DocAt w g V) (hb : Below w.heap.size w w') : DocAt w' g V := h.keep fun b _ hb2 => hb.block b hb2
theorem DocAt.set {w : World} {g : Nat} {V : List Vl} (h : DocAt w g V) (B j : Nat) (u : Value) (hB : B < g) : DocAt (w.setCell ⟨B, j, none⟩ u) g V := h.keep fun b hb _ => heap_set_other w B j u b (by omega)
theorem DocAt.hold {w : World} {g : Nat} {V : List Vl} (h : DocAt w g V) : HoldV w (some ⟨g, 0, none⟩) V := by
  have hl := h.lt
  obtain ⟨cs, h1, h2, h3⟩ := h
  refine Or.inr ⟨g, 0, rfl, hl, fun i hi => ?_⟩
  obtain ⟨q0, ⟨gt, ct, q1, q2, q3⟩, gn, cn, q4, q5, q6⟩ := h3 i hi
  rw [Nat.zero_add, blkc h1, blkc h1, blkc h1]
  exact ⟨q0, ⟨_, ct, q1, q3.hold⟩, _, cn, q4, q6.hold⟩
def CellsV (w : World) (B : Nat) (zs : List Value) (V : List Vl) (k : Nat) : Prop := zs.length = k * 3 ∧ ∀ j, j < k → ValAt w B zs[j * 3]? zs[j * 3 + 1]? zs[j * 3 + 2]? (V.getD j vl0)
theorem CellsV.keep {w w' : World} {B : Nat} {zs : List Value} {V : List Vl} {k : Nat} (h : CellsV w B zs V k) (hk : ∀ b, B < b → b < w.heap.size → w'.heap[b]? = w.heap[b]?) : CellsV w' B zs V k := ⟨h.1, fun j hj => (h.2 j hj).keep hk⟩
theorem CellsV.snoc {w : World} {B : Nat} {zs : List Value} {V : List Vl} {k : Nat} {a b c : Value} (h : CellsV w B zs V k) (hv : ValAt w B (some a) (some b) (some c) (V.getD k vl0)) : CellsV w B (zs ++ [a, b, c]) V (k + 1) := by
  refine ⟨by rw [List.length_append, h.1]; simp; omega, fun j hj => ?_⟩
  have hl := h.1
  by_cases e : j = k
  · subst e
    rw [List.getElem?_append_right (by omega), List.getElem?_append_right (by omega), List.getElem?_append_right (by omega), hl, Nat.sub_self, show j * 3 + 1 - j * 3 = 1 by omega, show j * 3 + 2 - j * 3 = 2 by omega]
    exact hv
  · rw [List.getElem?_append_left (by omega), List.getElem?_append_left (by omega), List.getElem?_append_left (by omega)]
    exact h.2 j (by omega)
theorem docAt_of {w : World} {base g : Nat} {V : List Vl} {zs : List Value} (h : w.ownsRow base 60 3 (.slice (some ⟨g, 0, none⟩) V.length V.length) V.length zs) (hc : CellsV w g zs V V.length) : DocAt w g V := by
  rcases h.2 with ⟨h', _⟩ | ⟨g', cap, cur, h', _, hg, hc1, hc2, hc3, hc4⟩
  · simp at h'
  · simp only [Value.slice.injEq, Option.some.injEq, Addr.mk.injEq, and_true, true_and] at h'
    obtain ⟨rfl, rfl⟩ := h'
    refine ⟨cur, hg, by omega, fun j hj => ?_⟩
    have e : ∀ i, i < V.length * 3 → cur[i]? = zs[i]? := fun i hi => by
      have := h.cellAt i (by omega)
      rw [blkc hg] at this
      exact this
    rw [e _ (by omega), e _ (by omega), e _ (by omega)]
    exact hc.2 j hj
set_option maxHeartbeats 4000000 in
theorem toVals_any (a : Option Addr) (cap : Nat) (V : List Vl) (w : World) (hn : V.length ≤ 1048576) (hA : ∀ i, (V.getD i vl0).1.length ≤ 1048576 ∧ (V.getD i vl0).2.1.length ≤ 1048576 ∧ (V.getD i vl0).2.2.length ≤ 1048576) (hS : HoldV w a V) :
    Calls Tryz.prog 33 #[.slice a V.length cap] w fun e w' => e = .returned (.slice (some ⟨w.heap.size, 0, none⟩) V.length V.length) ∧ DocAt w' w.heap.size V ∧ Below w.heap.size w w' := by
  obtain ⟨i0, hi, hz0, hz1, hz2⟩ := info_parts Tryz.infoVal
  have HS := hidd hS
  have HA := hidd hA
  clear hS hA
  go_enter Tryz.func33, Tryz.ntmps33
  go_wp2_with (at_make; refine wpList_make_full _ rfl _ _ 35 rfl w.heap.size 60 i0 (.agg #[.string ⟨#[]⟩, .slice none 0 0, .slice none 0 0]) 3 Tryz.underlying35 hi hz0 hz1 _ _ _ _ V.length rfl rfl (by omega) (by omega) ?b2 ?b3 (Nat.le_refl _) ?_)
  case b2 => (first | omega | (rw [hz2]; omega))
  case b3 => unfold maxLen; omega
  intro w0 hown0 hgrow0
  generalize (madeCells #[.string ⟨#[]⟩, .slice none 0 0, .slice none 0 0] (V.length * 3)).toList = xs at hown0
  have hxl : xs.length = V.length * 3 := by have := hown0.1; omega
  have HO0 := hidd hown0
  have HB0 : Hid (Below w.heap.size w w0) := (Below.refl _ _).grown hgrow0 (Nat.le_refl _) (fun k h => by cases h)
  clear hown0 hgrow0
  go_wp2
  go_loopw [4] (fun i wr => ∃ (k : Nat) (zs : List Value), k ≤ V.length ∧ i = .int .i64 k ∧ wr.ownsRow w.heap.size 60 3 (.slice (some ⟨w.heap.size, 0, none⟩) V.length V.length) V.length (zs ++ xs.drop (k * 3)) ∧ CellsV wr w.heap.size zs V k ∧ Below w.heap.size w wr) (fun i _ => V.length - (intOf i).toNat)
  case atStart => exact ⟨0, [], Nat.zero_le _, rfl, HO0.out, ⟨rfl, fun j hj => absurd hj (by omega)⟩, HB0.out⟩
  case round =>
    obtain ⟨k, zs, hk, rfl, hown, hcs, hbel⟩ := hrel
    have HO := hidd hown
    have HB := hidd hbel
    have HC := hidd hcs
    have hrl : w.heap.size < wr.heap.size := own3_lt hown
    clear hcs
    by_cases hlt : k < V.length
    · obtain ⟨b, off, rfl, hbl, hc⟩ := (HS.out.below hbel).resolve_left (fun h => by rw [h] at hlt; simp at hlt)
      obtain ⟨c0, ⟨at_, ct, c1, hTx⟩, an, cn, c2, hZ⟩ := hc k hlt
      have hal := HA.out k
      clear hown hbel hc
      obtain ⟨s, hs⟩ : ∃ s, V.getD k vl0 = s := ⟨_, rfl⟩
      rw [hs] at c0 c1 c2 hTx hZ hal
      have Hks := hidd hs
      clear hs
      obtain ⟨f, tx, nz⟩ := s
      dsimp only at c0 c1 c2 hTx hZ hal
      have HV := hidd (toVal_any f at_ an ct cn tx nz wr hal.2.1 hal.2.2 hTx hZ)
      clear hTx hZ
      go_wp2_with fail
      refine HV.out.mono ?_
      rintro e w2 ⟨gt, gn, rfl, hgt, hgn, hrt, hrn, hb2⟩
      have hown2 := own3_below HO.out hb2
      have HB2 := hidd (HB.out.trans (hb2.mono HB.out.size))
      have HC2 := hidd (CellsV.snoc (a := mkS f) (b := .slice (some ⟨gt, 0, none⟩) tx.length tx.length) (c := .slice (some ⟨gn, 0, none⟩) nz.length nz.length) (HC.out.keep fun x _ hx => hb2.block x hx) (by rw [Hks.out]; exact ⟨rfl, ⟨gt, _, rfl, by omega, hrt⟩, gn, _, rfl, by omega, hrn⟩))
      have f1 := hown2.frozenAt (k * 3)
      have f2 := hown2.frozenAt (k * 3 + 1)
      have f3 := hown2.frozenAt (k * 3 + 2)
      have hzl := HC.out.1
      have hlen : (zs ++ xs.drop (k * 3)).length = V.length * 3 := by rw [List.length_append, hzl, List.length_drop]; omega
      have hex : ∀ j, j < V.length * 3 → ∃ u, w2.cell? ⟨w.heap.size, j, none⟩ = some u := fun j hj => by
        rw [hown2.cellAt j hj]
        exact ⟨_, List.getElem?_eq_getElem (by omega)⟩
      obtain ⟨u1, q1⟩ := hex (k * 3) (by omega)
      obtain ⟨u2, q2⟩ := hex (k * 3 + 1) (by omega)
      obtain ⟨u3, q3⟩ := hex (k * 3 + 2) (by omega)
      have HO2 := hidd hown2
      have HSet := hidd (setTri zs xs k V.length (mkS f) (.slice (some ⟨gt, 0, none⟩) tx.length tx.length) (.slice (some ⟨gn, 0, none⟩) nz.length nz.length) hzl hxl hlt)
      clear hown2 hb2 hex hlen HO HB c0 c1 c2 HC HV hrt hrn
      go_wp2
      go_roundw
      case rel =>
        have s0 := HO2.out.stored (k * 3) (mkS f)
        have s1 := s0.1.stored (k * 3 + 1) (.slice (some ⟨gt, 0, none⟩) tx.length tx.length)
        have s2 := s1.1.stored (k * 3 + 2) (.slice (some ⟨gn, 0, none⟩) nz.length nz.length)
        have st := s2.1
        rw [HSet.out] at st
        refine ⟨k + 1, _, by omega, by go_num, st, HC2.out.keep (fun x hx _ => ?_), ((HB2.out.setCell (p := ⟨w.heap.size, k * 3, none⟩) (Nat.le_refl _) _).setCell (p := ⟨w.heap.size, k * 3 + 1, none⟩) (Nat.le_refl _) _).setCell (p := ⟨w.heap.size, k * 3 + 2, none⟩) (Nat.le_refl _) _⟩
        rw [heap_set_other _ _ _ _ _ (by omega), heap_set_other _ _ _ _ _ (by omega), heap_set_other _ _ _ _ _ (by omega)]
      case measure => simp [intOf]; omega
    · obtain rfl : k = V.length := by omega
      have HF := HO.out
      rw [List.drop_of_length_le (by omega), List.append_nil] at HF
      have HD := hidd (docAt_of HF HC.out)
      clear HF hown hbel
      go_wp2
      go_ret
      exact ⟨rfl, HD.out, HB.out⟩
end Go.Proofs.YtgoklapafidpkaaGreatDoor

namespace Go.Proofs.YtgoklapafidpkaaGreatDoor
open Go Go.RowKit
set_option linter.unusedVariables false
set_option maxRecDepth 100000

set_option maxHeartbeats 4000000 in
theorem toDoc_any (id : List UInt8) (a : Option Addr) (cap : Nat) (V : List Vl) (w : World) (hn : V.length ≤ 1048576) (hA : ∀ i, (V.getD i vl0).1.length ≤ 1048576 ∧ (V.getD i vl0).2.1.length ≤ 1048576 ∧ (V.getD i vl0).2.2.length ≤ 1048576) (h : HoldV w a V) :
    Calls Tryz.prog 10 #[.agg #[.string ⟨id.toArray⟩, .slice a V.length cap]] w fun e w' => ∃ g, e = .returned (.agg #[.string ⟨id.toArray⟩, .slice (some ⟨g, 0, none⟩) V.length V.length]) ∧ w.heap.size ≤ g ∧ DocAt w' g V ∧ Below w.heap.size w w' := by
  have HH := hidd h
  clear h
  go_enter Tryz.func10, Tryz.ntmps10
  go_upto_region 3 with fail
  obtain ⟨W3, hW3⟩ : ∃ W3, ((w.alloc (.cells #[.string ⟨id.toArray⟩, .slice a V.length cap] 27)).alloc (.cells #[.string ⟨#[]⟩, .slice none 0 0] 37)).alloc (.cells #[.string ⟨id.toArray⟩, .slice none 0 0] 37) = W3 := ⟨_, rfl⟩
  have hk0 : W3.heap[w.heap.size]? = some (.cells #[.string ⟨id.toArray⟩, .slice a V.length cap] 27) ∧ W3.heap[w.heap.size + 1]? = some (.cells #[.string ⟨#[]⟩, .slice none 0 0] 37) ∧ W3.heap[w.heap.size + 1 + 1]? = some (.cells #[.string ⟨id.toArray⟩, .slice none 0 0] 37) ∧ W3.heap.size = w.heap.size + 3 := by
    rw [← hW3]
    have h2 := box_two w (.cells #[.string ⟨id.toArray⟩, .slice a V.length cap] 27) (.cells #[.string ⟨#[]⟩, .slice none 0 0] 37)
    refine ⟨?_, ?_, ?_, by simp⟩
    · rw [Below.heap_alloc _ _ _ (by simp; omega)]; exact h2.1
    · rw [Below.heap_alloc _ _ _ (by simp)]; exact h2.2
    · have := heap_alloc_new ((w.alloc (.cells #[.string ⟨id.toArray⟩, .slice a V.length cap] 27)).alloc (.cells #[.string ⟨#[]⟩, .slice none 0 0] 37)) (.cells #[.string ⟨id.toArray⟩, .slice none 0 0] 37)
      simpa using this
  have HB3 : Hid (Below w.heap.size w W3) := by
    show Below _ _ _
    rw [← hW3]
    exact (((Below.refl _ _).alloc (Nat.le_refl _) _).alloc (by simp) _).alloc (by simp; omega) _
  try rw [hW3]
  clear hW3
  have HK := hidd hk0
  clear hk0
  have q1 : W3.cell? ⟨w.heap.size, 1, none⟩ = some (.slice a V.length cap) := blkc HK.out.1 1
  have HT := hidd (toVals_any a cap V W3 hn hA (HH.out.below HB3.out))
  clear hA
  go_wp2_with fail
  refine HT.out.mono ?_
  rintro e w4 ⟨rfl, hd4, hb4⟩
  have HD := hidd hd4
  have hz3 := HK.out.2.2.2
  have k1 := blko HK.out.2.1 hb4
  have k2 := blko HK.out.2.2.1 hb4
  have HB4 := hidd (HB3.out.trans (hb4.mono HB3.out.size))
  have c10 := blkc k1 0
  have c11 := blkc k1 1
  have c20 := blkc k2 0
  have c21 := blkc k2 1
  have f10 := frozen_of_row w4 _ 0 _ _ k1
  have f11 := frozen_of_row w4 _ 1 _ _ k1
  have f21 := frozen_of_row w4 _ 1 _ _ k2
  clear hd4 hb4 HB3 q1 HT
  rw [hz3] at HD
  try rw [hz3]
  clear k1 k2 HK
  dsimp only
  go_wp2_with fail
  refine bodyPost_ret (v := .agg #[.string ⟨id.toArray⟩, .slice (some ⟨w.heap.size + 3, 0, none⟩) V.length V.length]) (by simp [results, Tryz.results10, go_sem, *]) rfl ?_
  refine ⟨w.heap.size + 3, rfl, by omega, ?_, ?_⟩
  · iterate 3 refine DocAt.set ?_ _ _ _ (by omega)
    exact HD.out
  · iterate 3 refine Below.setCell ?_ (by dsimp only; omega) _
    exact HB4.out
set_option maxHeartbeats 1000000 in
theorem eqTx_any (a1 a2 : Option Addr) (c1 c2 : Nat) (l : List (List UInt8)) (w : World) (hn : l.length ≤ 1048576) (h1 : HoldTx w a1 l) (h2 : HoldTx w a2 l) :
    Calls Tryz.prog 116 #[.slice a1 l.length c1, .slice a2 l.length c2] w fun e w' => e = .returned (.bool true) ∧ Below w.heap.size w w' := by
  have H1 := hidd h1
  have H2 := hidd h2
  clear h1 h2
  go_enter Tryz.func116, Tryz.ntmps116
  go_wp2
  go_loopw [5] (fun i wr => ∃ k : Nat, k ≤ l.length ∧ i = .int .i64 k ∧ Below w.heap.size w wr) (fun i _ => l.length - (intOf i).toNat)
  case atStart => exact ⟨0, Nat.zero_le _, rfl, Below.refl _ _⟩
  case round =>
    obtain ⟨k, hk, rfl, hbel⟩ := hrel
    have HB := hidd hbel
    by_cases hlt : k < l.length
    · obtain ⟨b1, o1, rfl, hb1, hc1⟩ := (H1.out.below hbel).resolve_left (fun h => by rw [h] at hlt; simp at hlt)
      obtain ⟨b2, o2, rfl, hb2, hc2⟩ := (H2.out.below hbel).resolve_left (fun h => by rw [h] at hlt; simp at hlt)
      have g1 := hc1 k hlt
      have g2 := hc2 k hlt
      clear hc1 hc2 hbel
      generalize l.getD k [] = t at g1 g2
      go_wp2
      go_quiet (fail)
      go_wp2
      go_roundw
      case rel => exact ⟨k + 1, by omega, by go_num, below_drewN HB.out _⟩
      case measure => simp [intOf]; omega
    · clear hbel
      go_wp2
      go_ret
      exact ⟨rfl, HB.out⟩
set_option maxHeartbeats 1000000 in
theorem eqNz_any (a1 a2 : Option Addr) (c1 c2 : Nat) (l : List Int) (w : World) (hn : l.length ≤ 1048576) (h1 : HoldZ w a1 l) (h2 : HoldZ w a2 l) :
    Calls Tryz.prog 117 #[.slice a1 l.length c1, .slice a2 l.length c2] w fun e w' => e = .returned (.bool true) ∧ Below w.heap.size w w' := by
  have H1 := hidd h1
  have H2 := hidd h2
  clear h1 h2
  go_enter Tryz.func117, Tryz.ntmps117
  go_wp2
  go_loopw [5] (fun i wr => ∃ k : Nat, k ≤ l.length ∧ i = .int .i64 k ∧ Below w.heap.size w wr) (fun i _ => l.length - (intOf i).toNat)
  case atStart => exact ⟨0, Nat.zero_le _, rfl, Below.refl _ _⟩
  case round =>
    obtain ⟨k, hk, rfl, hbel⟩ := hrel
    have HB := hidd hbel
    by_cases hlt : k < l.length
    · obtain ⟨b1, o1, rfl, hb1, hc1⟩ := (H1.out.below hbel).resolve_left (fun h => by rw [h] at hlt; simp at hlt)
      obtain ⟨b2, o2, rfl, hb2, hc2⟩ := (H2.out.below hbel).resolve_left (fun h => by rw [h] at hlt; simp at hlt)
      have g1 := hc1 k hlt
      have g2 := hc2 k hlt
      clear hc1 hc2 hbel
      generalize l.getD k 0 = t at g1 g2
      go_wp2
      go_quiet (fail)
      go_wp2
      go_roundw
      case rel => exact ⟨k + 1, by omega, by go_num, below_drewN HB.out _⟩
      case measure => simp [intOf]; omega
    · clear hbel
      go_wp2
      go_ret
      exact ⟨rfl, HB.out⟩
end Go.Proofs.YtgoklapafidpkaaGreatDoor

namespace Go.Proofs.YtgoklapafidpkaaGreatDoor
open Go Go.RowKit
set_option linter.unusedVariables false
set_option maxRecDepth 100000

set_option maxHeartbeats 2000000 in
theorem eqVal_any (f : List UInt8) (a1 a2 n1 n2 : Option Addr) (c1 c2 d1 d2 : Nat) (tx : List (List UInt8)) (nz : List Int) (w : World) (hxl : tx.length ≤ 1048576) (hnl : nz.length ≤ 1048576) (h1 : HoldTx w a1 tx) (h2 : HoldTx w a2 tx) (h3 : HoldZ w n1 nz) (h4 : HoldZ w n2 nz) :
    Calls Tryz.prog 77 #[.agg #[.string ⟨f.toArray⟩, .slice a1 tx.length c1, .slice n1 nz.length d1], .agg #[.string ⟨f.toArray⟩, .slice a2 tx.length c2, .slice n2 nz.length d2]] w fun e w' => e = .returned (.bool true) ∧ Below w.heap.size w w' := by
  have HBa : Hid (Below w.heap.size w ((w.alloc (.cells #[.string ⟨f.toArray⟩, .slice a1 tx.length c1, .slice n1 nz.length d1] 60)).alloc (.cells #[.string ⟨f.toArray⟩, .slice a2 tx.length c2, .slice n2 nz.length d2] 60))) := ((Below.refl _ _).alloc (Nat.le_refl _) _).alloc (by simp) _
  have HBx := hidd (box_two w (.cells #[.string ⟨f.toArray⟩, .slice a1 tx.length c1, .slice n1 nz.length d1] 60) (.cells #[.string ⟨f.toArray⟩, .slice a2 tx.length c2, .slice n2 nz.length d2] 60))
  have HE := hidd (fun W (hW : Below w.heap.size w W) => eqTx_any a1 a2 c1 c2 tx W hxl (h1.below hW) (h2.below hW))
  have HE2 := hidd (fun W (hW : Below w.heap.size w W) => eqNz_any n1 n2 d1 d2 nz W hnl (h3.below hW) (h4.below hW))
  clear h1 h2 h3 h4
  go_enter Tryz.func77, Tryz.ntmps77
  go_wp2_with fail
  refine (HE.out _ HBa.out).mono ?_
  rintro e w3 ⟨rfl, hb3⟩
  have HB3 := hidd (HBa.out.trans (hb3.mono HBa.out.size))
  have x2 := blkc (blko HBx.out.1 hb3) 2
  have y2 := blkc (blko HBx.out.2 hb3) 2
  clear hb3 HBx HE
  dsimp only
  go_wp2_with fail
  refine (HE2.out _ HB3.out).mono ?_
  rintro e w4 ⟨rfl, hb4⟩
  have HB4 := hidd (HB3.out.trans (hb4.mono HB3.out.size))
  clear hb4 x2 y2 HE2
  dsimp only
  go_wp2_with fail
  go_ret
  exact ⟨rfl, HB4.out⟩
set_option maxHeartbeats 4000000 in
theorem eqVals_any (a1 a2 : Option Addr) (c1 c2 : Nat) (V : List Vl) (w : World) (hn : V.length ≤ 1048576) (hA : ∀ i, (V.getD i vl0).1.length ≤ 1048576 ∧ (V.getD i vl0).2.1.length ≤ 1048576 ∧ (V.getD i vl0).2.2.length ≤ 1048576) (h1 : HoldV w a1 V) (h2 : HoldV w a2 V) :
    Calls Tryz.prog 37 #[.slice a1 V.length c1, .slice a2 V.length c2] w fun e w' => e = .returned (.bool true) ∧ Below w.heap.size w w' := by
  have H1 := hidd h1
  have H2 := hidd h2
  have HA := hidd hA
  clear h1 h2 hA
  go_enter Tryz.func37, Tryz.ntmps37
  go_wp2_with fail
  go_loopw [5] (fun iv wr => ∃ k : Nat, k ≤ V.length ∧ iv = .int .i64 (k : Int) ∧ Below w.heap.size w wr) (fun iv _ => V.length - (intOf iv).toNat)
  case atStart => exact ⟨0, Nat.zero_le _, rfl, Below.refl _ _⟩
  case round =>
    obtain ⟨k, hk, rfl, hbel⟩ := hrel
    have HB := hidd hbel
    clear hbel
    by_cases hlt : k < V.length
    · have hkz : (k : Int) < (V.length : Int) := by omega
      obtain ⟨b1, o1, rfl, hb1, hc1⟩ := (H1.out.below HB.out).resolve_left (fun h => by rw [h] at hlt; simp at hlt)
      obtain ⟨b2, o2, rfl, hb2, hc2⟩ := (H2.out.below HB.out).resolve_left (fun h => by rw [h] at hlt; simp at hlt)
      obtain ⟨x0, ⟨ai, ci, x1, hx⟩, mi, di, x2, hxz⟩ := hc1 k hlt
      obtain ⟨y0, ⟨aj, cj, y1, hy⟩, mj, dj, y2, hyz⟩ := hc2 k hlt
      clear hc1 hc2
      have hal := HA.out k
      generalize V.getD k vl0 = s at *
      obtain ⟨f, tx, nz⟩ := s
      dsimp only at x0 x1 x2 y0 y1 y2 hx hy hxz hyz hal
      have hbd := below_drewN (Below.refl wr.heap.size wr) 1
      have HC : Hid (Calls Tryz.prog 77 #[.agg #[.string ⟨f.toArray⟩, .slice ai tx.length ci, .slice mi nz.length di], .agg #[.string ⟨f.toArray⟩, .slice aj tx.length cj, .slice mj nz.length dj]] wr.drew fun e w' => e = .returned (.bool true) ∧ Below wr.drew.heap.size wr.drew w') := eqVal_any f ai aj mi mj ci cj di dj tx nz wr.drew hal.2.1 hal.2.2 (hx.below hbd) (hy.below hbd) (hxz.below hbd) (hyz.below hbd)
      clear hx hy hxz hyz hal hbd
      go_wp2_with fail
      go_region_with (go_at_call 77; refine HC.out.mono ?_; rintro e' w3 ⟨rfl, hb3⟩)
      all_goals
        go_wp2_with fail
        go_roundw
        · exact ⟨k + 1, by omega, by go_num, HB.out.trans ((below_drewN (Below.refl _ _) 1).trans hb3 |>.mono HB.out.size)⟩
        · simp [intOf]; omega
    · have hkz : ¬ (k : Int) < (V.length : Int) := by omega
      go_wp2_with fail
      go_ret
      exact ⟨rfl, HB.out⟩
set_option maxHeartbeats 2000000 in
theorem eqDoc_any (id : List UInt8) (a1 a2 : Option Addr) (c1 c2 : Nat) (V : List Vl) (w : World) (hn : V.length ≤ 1048576) (hA : ∀ i, (V.getD i vl0).1.length ≤ 1048576 ∧ (V.getD i vl0).2.1.length ≤ 1048576 ∧ (V.getD i vl0).2.2.length ≤ 1048576) (h1 : HoldV w a1 V) (h2 : HoldV w a2 V) :
    Calls Tryz.prog 13 #[.agg #[.string ⟨id.toArray⟩, .slice a1 V.length c1], .agg #[.string ⟨id.toArray⟩, .slice a2 V.length c2]] w fun e w' => e = .returned (.bool true) ∧ Below w.heap.size w w' := by
  have HBa : Hid (Below w.heap.size w ((w.alloc (.cells #[.string ⟨id.toArray⟩, .slice a1 V.length c1] 37)).alloc (.cells #[.string ⟨id.toArray⟩, .slice a2 V.length c2] 37))) := ((Below.refl _ _).alloc (Nat.le_refl _) _).alloc (by simp) _
  have HE := hidd (eqVals_any a1 a2 c1 c2 V _ hn hA (h1.below HBa.out) (h2.below HBa.out))
  clear h1 h2 hA
  go_enter Tryz.func13, Tryz.ntmps13
  go_wp2_with fail
  refine HE.out.mono ?_
  rintro e w3 ⟨rfl, hb3⟩
  have HB3 := hidd (HBa.out.trans (hb3.mono HBa.out.size))
  clear hb3 HE
  dsimp only
  go_wp2_with fail
  go_ret
  exact ⟨rfl, HB3.out⟩
end Go.Proofs.YtgoklapafidpkaaGreatDoor
