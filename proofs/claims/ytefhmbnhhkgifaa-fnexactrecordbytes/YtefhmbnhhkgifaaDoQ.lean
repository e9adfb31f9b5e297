import Derived.Test.YtefhmbnhhkgifaaDoO
namespace Go.Proofs.Ytefhmbnhhkgifaa
open Go Go.RowKit
set_option linter.unusedVariables false
set_option maxRecDepth 100000

theorem Try.infoVal : (Try.prog.info? 65).map (fun i => (i.zero, i.size, i.bytes)) = some (some (.agg #[.string ⟨#[]⟩, .slice none 0 0, .slice none 0 0]), 3, 64) := by kernel_rfl
theorem setTri (zs xs : List Value) (k n : Nat) (u v x : Value) (hz : zs.length = k * 3) (hx : xs.length = n * 3) (hk : k < n) : (((zs ++ xs.drop (k * 3)).set (k * 3) u).set (k * 3 + 1) v).set (k * 3 + 2) x = (zs ++ [u, v, x]) ++ xs.drop ((k + 1) * 3) := by
  have hd : xs.drop (k * 3) = xs[k * 3] :: xs[k * 3 + 1] :: xs[k * 3 + 2] :: xs.drop ((k + 1) * 3) := by
    rw [List.drop_eq_getElem_cons (by omega), List.drop_eq_getElem_cons (by omega), List.drop_eq_getElem_cons (by omega)]
    congr 3
    congr 1
    omega
  rw [hd, List.set_append_right _ _ (by omega), hz, Nat.sub_self, List.set_cons_zero, List.set_append_right _ _ (by omega), hz, Nat.add_sub_cancel_left, List.set_cons_succ, List.set_cons_zero, List.set_append_right _ _ (by omega), hz, Nat.add_sub_cancel_left, List.set_cons_succ, List.set_cons_succ, List.set_cons_zero]
  simp
/-- One value, as three cells tell it, all of it behind B. -/
def ValAt (w : World) (B : Nat) (c0 c1 c2 : Option Value) (v : Vl) : Prop := c0 = some (mkS v.1) ∧ (∃ gt ct, c1 = some (.slice (some ⟨gt, 0, none⟩) v.2.1.length ct) ∧ B < gt ∧ RowTx w gt v.2.1) ∧ ∃ gn cn, c2 = some (.slice (some ⟨gn, 0, none⟩) v.2.2.length cn) ∧ B < gn ∧ RowNz w gn v.2.2
theorem ValAt.keep {w w' : World} {B : Nat} {c0 c1 c2 : Option Value} {v : Vl} (h : ValAt w B c0 c1 c2 v) (hk : ∀ b, B < b → b < w.heap.size → w'.heap[b]? = w.heap[b]?) : ValAt w' B c0 c1 c2 v := by
  obtain ⟨h0, ⟨gt, ct, h1, h2, h3⟩, gn, cn, h4, h5, h6⟩ := h
  exact ⟨h0, ⟨gt, ct, h1, h2, h3.keep (hk gt h2 h3.lt)⟩, gn, cn, h4, h5, h6.keep (hk gn h5 h6.lt)⟩
def DocAt (w : World) (g : Nat) (V : List Vl) : Prop := ∃ cs, w.heap[g]? = some (Obj.cells cs 65) ∧ V.length * 3 ≤ cs.size ∧ ∀ j, j < V.length → ValAt w g cs[j * 3]? cs[j * 3 + 1]? cs[j * 3 + 2]? (V.getD j vl0)
theorem DocAt.lt {w : World} {g : Nat} {V : List Vl} (h : DocAt w g V) : g < w.heap.size := by
  obtain ⟨cs, h1, _⟩ := h
  exact (Array.getElem?_eq_some_iff.1 h1).1
theorem DocAt.keep {w w' : World} {g : Nat} {V : List Vl} (h : DocAt w g V) (hk : ∀ b, g ≤ b → b < w.heap.size → w'.heap[b]? = w.heap[b]?) : DocAt w' g V := by
  have hl := h.lt
  obtain ⟨cs, h1, h2, h3⟩ := h
  exact ⟨cs, (hk g (Nat.le_refl _) hl).trans h1, h2, fun j hj => (h3 j hj).keep fun b hb hb2 => hk b (by omega) hb2⟩
theorem DocAt.below {w w' : World} {g : Nat} {V : List Vl} (h : DocAt w g V) (hb : Below w.heap.size w w') : DocAt w' g V := h.keep fun b _ hb2 => hb.block b hb2
theorem DocAt.set {w : World} {g : Nat} {V : List Vl} (h : DocAt w g V) (B j : Nat) (u : Value) (hB : B < g) : DocAt (w.setCell ⟨B, j, none⟩ u) g V := h.keep fun b hb _ => heap_set_other w B j u b (by omega)
theorem DocAt.hold {w : World} {g : Nat} {V : List Vl} (h : DocAt w g V) : HoldV w (some ⟨g, 0, none⟩) V := by
  have hl := h.lt
  obtain ⟨cs, h1, h2, h3⟩ := h
  refine Or.inr ⟨g, 0, rfl, hl, fun i hi => ?_⟩
  obtain ⟨q0, ⟨gt, ct, q1, q2, q3⟩, gn, cn, q4, q5, q6⟩ := h3 i hi
  rw [Nat.zero_add, blkc h1, blkc h1, blkc h1]
  exact ⟨q0, ⟨_, ct, q1, q3.hold⟩, _, cn, q4, q6.hold⟩
def CellsV (w : World) (B : Nat) (zs : List Value) (V : List Vl) (k : Nat) : Prop := zs.length = k * 3 ∧ ∀ j, j < k → ValAt w B zs[j * 3]? zs[j * 3 + 1]? zs[j * 3 + 2]? (V.getD j vl0)
theorem CellsV.keep {w w' : World} {B : Nat} {zs : List Value} {V : List Vl} {k : Nat} (h : CellsV w B zs V k) (hk : ∀ b, B < b → b < w.heap.size → w'.heap[b]? = w.heap[b]?) : CellsV w' B zs V k := ⟨h.1, fun j hj => (h.2 j hj).keep hk⟩
theorem CellsV.snoc {w : World} {B : Nat} {zs : List Value} {V : List Vl} {k : Nat} {a b c : Value} (h : CellsV w B zs V k) (hv : ValAt w B (some a) (some b) (some c) (V.getD k vl0)) : CellsV w B (zs ++ [a, b, c]) V (k + 1) := by
  refine ⟨by rw [List.length_append, h.1]; simp; omega, fun j hj => ?_⟩
  have hl := h.1
  by_cases e : j = k
  · subst e
    rw [List.getElem?_append_right (by omega), List.getElem?_append_right (by omega), List.getElem?_append_right (by omega), hl, Nat.sub_self, show j * 3 + 1 - j * 3 = 1 by omega, show j * 3 + 2 - j * 3 = 2 by omega]
    exact hv
  · rw [List.getElem?_append_left (by omega), List.getElem?_append_left (by omega), List.getElem?_append_left (by omega)]
    exact h.2 j (by omega)
theorem docAt_of {w : World} {base g : Nat} {V : List Vl} {zs : List Value} (h : w.ownsRow base 65 3 (.slice (some ⟨g, 0, none⟩) V.length V.length) V.length zs) (hc : CellsV w g zs V V.length) : DocAt w g V := by
  rcases h.2 with ⟨h', _⟩ | ⟨g', cap, cur, h', _, hg, hc1, hc2, hc3, hc4⟩
  · simp at h'
  · simp only [Value.slice.injEq, Option.some.injEq, Addr.mk.injEq, and_true, true_and] at h'
    obtain ⟨rfl, rfl⟩ := h'
    refine ⟨cur, hg, by omega, fun j hj => ?_⟩
    have e : ∀ i, i < V.length * 3 → cur[i]? = zs[i]? := fun i hi => by
      have := h.cellAt i (by omega)
      rw [blkc hg] at this
      exact this
    rw [e _ (by omega), e _ (by omega), e _ (by omega)]
    exact hc.2 j hj
set_option maxHeartbeats 4000000 in
theorem toVals_any (a : Option Addr) (cap : Nat) (V : List Vl) (w : World) (hn : V.length ≤ 1048576) (hA : ∀ i, (V.getD i vl0).1.length ≤ 1048576 ∧ (V.getD i vl0).2.1.length ≤ 1048576 ∧ (V.getD i vl0).2.2.length ≤ 1048576) (hS : HoldV w a V) :
    Calls Try.prog 32 #[.slice a V.length cap] w fun e w' => e = .returned (.slice (some ⟨w.heap.size, 0, none⟩) V.length V.length) ∧ DocAt w' w.heap.size V ∧ Below w.heap.size w w' := by
  obtain ⟨i0, hi, hz0, hz1, hz2⟩ := info_parts Try.infoVal
  have HS := hidd hS
  have HA := hidd hA
  clear hS hA
  go_enter Try.func32, Try.ntmps32
  go_wp2_with (at_make; refine wpList_make_full _ rfl _ _ 31 rfl w.heap.size 65 i0 (.agg #[.string ⟨#[]⟩, .slice none 0 0, .slice none 0 0]) 3 Try.underlying31 hi hz0 hz1 _ _ _ _ V.length rfl rfl (by omega) (by omega) ?b2 ?b3 (Nat.le_refl _) ?_)
  case b2 => (first | omega | (rw [hz2]; omega))
  case b3 => unfold maxLen; omega
  intro w0 hown0 hgrow0
  generalize (madeCells #[.string ⟨#[]⟩, .slice none 0 0, .slice none 0 0] (V.length * 3)).toList = xs at hown0
  have hxl : xs.length = V.length * 3 := by have := hown0.1; omega
  have HO0 := hidd hown0
  have HB0 : Hid (Below w.heap.size w w0) := (Below.refl _ _).grown hgrow0 (Nat.le_refl _) (fun k h => by cases h)
  clear hown0 hgrow0
  go_wp2
  go_loopw [4] (fun i wr => ∃ (k : Nat) (zs : List Value), k ≤ V.length ∧ i = .int .i64 k ∧ wr.ownsRow w.heap.size 65 3 (.slice (some ⟨w.heap.size, 0, none⟩) V.length V.length) V.length (zs ++ xs.drop (k * 3)) ∧ CellsV wr w.heap.size zs V k ∧ Below w.heap.size w wr) (fun i _ => V.length - (intOf i).toNat)
  case atStart => exact ⟨0, [], Nat.zero_le _, rfl, HO0.out, ⟨rfl, fun j hj => absurd hj (by omega)⟩, HB0.out⟩
  case round =>
    obtain ⟨k, zs, hk, rfl, hown, hcs, hbel⟩ := hrel
    have HO := hidd hown
    have HB := hidd hbel
    have HC := hidd hcs
    have hrl : w.heap.size < wr.heap.size := own3_lt hown
    clear hcs
    by_cases hlt : k < V.length
    · obtain ⟨b, off, rfl, hbl, hc⟩ := (HS.out.below hbel).resolve_left (fun h => by rw [h] at hlt; simp at hlt)
      obtain ⟨c0, ⟨at_, ct, c1, hTx⟩, an, cn, c2, hZ⟩ := hc k hlt
      have hal := HA.out k
      clear hown hbel hc
      obtain ⟨s, hs⟩ : ∃ s, V.getD k vl0 = s := ⟨_, rfl⟩
      rw [hs] at c0 c1 c2 hTx hZ hal
      have Hks := hidd hs
      clear hs
      obtain ⟨f, tx, nz⟩ := s
      dsimp only at c0 c1 c2 hTx hZ hal
      have HV := hidd (toVal_any f at_ an ct cn tx nz wr hal.2.1 hal.2.2 hTx hZ)
      clear hTx hZ
      go_wp2_with fail
      refine HV.out.mono ?_
      rintro e w2 ⟨gt, gn, rfl, hgt, hgn, hrt, hrn, hb2⟩
      have hown2 := own3_below HO.out hb2
      have HB2 := hidd (HB.out.trans (hb2.mono HB.out.size))
      have HC2 := hidd (CellsV.snoc (a := mkS f) (b := .slice (some ⟨gt, 0, none⟩) tx.length tx.length) (c := .slice (some ⟨gn, 0, none⟩) nz.length nz.length) (HC.out.keep fun x _ hx => hb2.block x hx) (by rw [Hks.out]; exact ⟨rfl, ⟨gt, _, rfl, by omega, hrt⟩, gn, _, rfl, by omega, hrn⟩))
      have f1 := hown2.frozenAt (k * 3)
      have f2 := hown2.frozenAt (k * 3 + 1)
      have f3 := hown2.frozenAt (k * 3 + 2)
      have hzl := HC.out.1
      have hlen : (zs ++ xs.drop (k * 3)).length = V.length * 3 := by rw [List.length_append, hzl, List.length_drop]; omega
      have hex : ∀ j, j < V.length * 3 → ∃ u, w2.cell? ⟨w.heap.size, j, none⟩ = some u := fun j hj => by
        rw [hown2.cellAt j hj]
        exact ⟨_, List.getElem?_eq_getElem (by omega)⟩
      obtain ⟨u1, q1⟩ := hex (k * 3) (by omega)
      obtain ⟨u2, q2⟩ := hex (k * 3 + 1) (by omega)
      obtain ⟨u3, q3⟩ := hex (k * 3 + 2) (by omega)
      have HO2 := hidd hown2
      have HSet := hidd (setTri zs xs k V.length (mkS f) (.slice (some ⟨gt, 0, none⟩) tx.length tx.length) (.slice (some ⟨gn, 0, none⟩) nz.length nz.length) hzl hxl hlt)
      clear hown2 hb2 hex hlen HO HB c0 c1 c2 HC HV hrt hrn
      go_wp2
      go_roundw
      case rel =>
        have s0 := HO2.out.stored (k * 3) (mkS f)
        have s1 := s0.1.stored (k * 3 + 1) (.slice (some ⟨gt, 0, none⟩) tx.length tx.length)
        have s2 := s1.1.stored (k * 3 + 2) (.slice (some ⟨gn, 0, none⟩) nz.length nz.length)
        have st := s2.1
        rw [HSet.out] at st
        refine ⟨k + 1, _, by omega, by go_num, st, HC2.out.keep (fun x hx _ => ?_), ((HB2.out.setCell (p := ⟨w.heap.size, k * 3, none⟩) (Nat.le_refl _) _).setCell (p := ⟨w.heap.size, k * 3 + 1, none⟩) (Nat.le_refl _) _).setCell (p := ⟨w.heap.size, k * 3 + 2, none⟩) (Nat.le_refl _) _⟩
        rw [heap_set_other _ _ _ _ _ (by omega), heap_set_other _ _ _ _ _ (by omega), heap_set_other _ _ _ _ _ (by omega)]
      case measure => simp [intOf]; omega
    · obtain rfl : k = V.length := by omega
      have HF := HO.out
      rw [List.drop_of_length_le (by omega), List.append_nil] at HF
      have HD := hidd (docAt_of HF HC.out)
      clear HF hown hbel
      go_wp2
      go_ret
      exact ⟨rfl, HD.out, HB.out⟩
end Go.Proofs.Ytefhmbnhhkgifaa
