import Derived.Test.YtjndogajdlophaaMkV
namespace Go.Proofs.Ytjndogajdlophaa
open Go Go.RowKit
set_option linter.unusedVariables false
set_option maxRecDepth 100000

open Classical in
/-- The roles behind a new state. -/
noncomputable def rNew (r : Nat → Role) (gS gB H : Nat) (va : Value) : Nat → Role := fun b => if b = gS then .st else if b = gB then .lst H else if va.ownBlock = some b then .arc else r b

theorem getD_last {α : Type} (l : List α) (x d : α) : (l ++ [x]).getD l.length d = x := by
  rw [List.getD_eq_getElem?_getD, List.getElem?_append_right (Nat.le_refl _)]; simp
theorem getD_left {α : Type} (l : List α) (x d : α) {j : Nat} (h : j < l.length) : (l ++ [x]).getD j d = l.getD j d := by
  rw [List.getD_eq_getElem?_getD, List.getElem?_append_left h, ← List.getD_eq_getElem?_getD]

/-- Behind the first of the two statements. -/
theorem push_one {base bm bb : Nat} {aT : Option Addr} {nT cT : Nat} {O : List (List Tx)} {W V w6 : World} {r : Nat → Role} {vS : Value} {vb : Nat → Value} {xs : List Value} {cs : Array Value} {gS cS : Nat} {zs : List Value}
    (hmk : MkAt W r base bm bb aT nT cT O vS vb xs cs) (hV : Below W.heap.size W V) (hown : w6.ownsRow base 104 2 (.slice (some ⟨gS, 0, none⟩) (O.length + 1) cS) (O.length + 1) zs) (hg : V.grownBy w6 vS.ownBlock) (hat : vS.ownBlock = some gS ∨ gS = V.heap.size) :
    w6.cell? ⟨bm, 1, none⟩ = some vS ∧ w6.frozen? ⟨bm, 1, none⟩ = false ∧ W.heap.size ≤ w6.heap.size ∧ (w6.setCell ⟨bm, 1, none⟩ (.slice (some ⟨gS, 0, none⟩) (O.length + 1) cS)).heap[bm]? = some (.cells #[.slice aT nT cT, .slice (some ⟨gS, 0, none⟩) (O.length + 1) cS, .slice none 0 0, .slice (some ⟨bb, 0, none⟩) 1024 1024] 125) ∧
      (w6.setCell ⟨bm, 1, none⟩ (.slice (some ⟨gS, 0, none⟩) (O.length + 1) cS)).ownsRow base 104 2 (.slice (some ⟨gS, 0, none⟩) (O.length + 1) cS) (O.length + 1) zs ∧
      (∀ b, b < W.heap.size → r b ≠ .mk → r b ≠ .st → (w6.setCell ⟨bm, 1, none⟩ (.slice (some ⟨gS, 0, none⟩) (O.length + 1) cS)).heap[b]? = W.heap[b]?) ∧ (gS < W.heap.size → r gS = .st) ∧ gS ≠ bm ∧ w6.os = W.os ∧ w6.tape = W.tape ∧ w6.output = W.output := by
  have hbm : bm < W.heap.size := (Array.getElem?_eq_some_iff.1 hmk.box).1
  have hblk : ∀ b, b < W.heap.size → vS.ownBlock ≠ some b → w6.heap[b]? = W.heap[b]? := fun b hb hne => (hg.block b (Nat.lt_of_lt_of_le hb hV.size) (fun e => hne e.symm)).trans (hV.block b hb)
  have hbmS : vS.ownBlock ≠ some bm := fun e => by have := hmk.rst bm e; rw [hmk.rbm] at this; cases this
  have hbox : w6.heap[bm]? = _ := (hblk bm hbm hbmS).trans hmk.box
  have hgr : gS < W.heap.size → r gS = .st := fun h => by
    rcases hat with e | e
    · exact hmk.rst gS e
    · have := hV.size; omega
  have hgb : gS ≠ bm := by
    rintro rfl
    have := hgr hbm
    rw [hmk.rbm] at this
    cases this
  refine ⟨blkc hbox 1, frozen_of_row w6 bm 1 _ _ hbox, Nat.le_trans hV.size hg.size, heap_set_same hbox 1 _, own_congr hown fun b hb => heap_set_other w6 bm 1 _ b (by cases hb; exact hgb), fun b hb h1 h2 => ?_, hgr, hgb, hg.os.trans hV.os, hg.tape.trans hV.tape, hg.output.trans hV.output⟩
  rw [heap_set_other w6 bm 1 _ b (by rintro rfl; exact h1 hmk.rbm)]
  exact hblk b hb fun e => h2 (hmk.rst b e)

/-- Behind both. -/
theorem push_two {base bm bb : Nat} {aT : Option Addr} {nT cT : Nat} {O : List (List Tx)} {L : List Tx} {W V w7 w8 : World} {r : Nat → Role} {vS : Value} {vb : Nat → Value} {xs : List Value} {cs : Array Value} {gS cS gB cB H : Nat} {a : Option Addr} {ca : Nat} {fin : Bool} {l : List Ar}
    (hmk : MkAt W r base bm bb aT nT cT O vS vb xs cs) (hok : OkO O) (hk : Kids O L) (hst : stOf O L = (fin, l)) (hH : mixOf (fin, l) = H) (hH2 : H < 1024)
    (hA : HoldA W a l) (hAr : ∀ b off, a = some ⟨b, off, none⟩ → r b = .oth ∧ b < W.heap.size ∧ (Value.slice a l.length ca).ownBlock = some b) (hvaO : ∀ b, (Value.slice a l.length ca).ownBlock = some b → r b = .oth ∧ b < W.heap.size)
    (hz7 : W.heap.size ≤ w7.heap.size) (hbox7 : w7.heap[bm]? = some (.cells #[.slice aT nT cT, .slice (some ⟨gS, 0, none⟩) (O.length + 1) cS, .slice none 0 0, .slice (some ⟨bb, 0, none⟩) 1024 1024] 125))
    (hown7 : w7.ownsRow base 104 2 (.slice (some ⟨gS, 0, none⟩) (O.length + 1) cS) (O.length + 1) (xs ++ [.bool fin, .slice a l.length ca]))
    (hk7 : ∀ b, b < W.heap.size → r b ≠ .mk → r b ≠ .st → w7.heap[b]? = W.heap[b]?) (hgS : gS < W.heap.size → r gS = .st) (hgSm : gS ≠ bm)
    (hV : Below w7.heap.size w7 V) (hown : w8.ownsRow base 3 1 (.slice (some ⟨gB, 0, none⟩) ((bkt (stM O) H).length + 1) cB) ((bkt (stM O) H).length + 1) (nV (bkt (stM O) H) ++ [.int .i64 (O.length : Int)])) (hg : V.grownBy w8 (vb H).ownBlock) (hat : (vb H).ownBlock = some gB ∨ gB = V.heap.size) (hlt : gB < w8.heap.size) :
    (∃ u, w8.cell? ⟨bb, H, none⟩ = some u) ∧ w8.frozen? ⟨bb, H, none⟩ = false ∧ W.heap.size ≤ w8.heap.size ∧
      (∀ b, b < W.heap.size → r b = .oth ∨ r b = .arc → (w8.setCell ⟨bb, H, none⟩ (.slice (some ⟨gB, 0, none⟩) ((bkt (stM O) H).length + 1) cB)).heap[b]? = W.heap[b]?) ∧
      MkAt (w8.setCell ⟨bb, H, none⟩ (.slice (some ⟨gB, 0, none⟩) ((bkt (stM O) H).length + 1) cB)) (rNew r gS gB H (.slice a l.length ca)) base bm bb aT nT cT (O ++ [L]) (.slice (some ⟨gS, 0, none⟩) (O.length + 1) cS) (fun h => if h = H then .slice (some ⟨gB, 0, none⟩) ((bkt (stM O) H).length + 1) cB else vb h) (xs ++ [.bool fin, .slice a l.length ca]) (cs.setIfInBounds H (.slice (some ⟨gB, 0, none⟩) ((bkt (stM O) H).length + 1) cB)) ∧
      (∀ b, b < W.heap.size → (Value.slice a l.length ca).ownBlock ≠ some b → rNew r gS gB H (.slice a l.length ca) b = r b) ∧ w8.heap[bm]? = some (.cells #[.slice aT nT cT, .slice (some ⟨gS, 0, none⟩) (O.length + 1) cS, .slice none 0 0, .slice (some ⟨bb, 0, none⟩) 1024 1024] 125) ∧ bm ≠ bb := by
  have hbbW : bb < W.heap.size := (Array.getElem?_eq_some_iff.1 hmk.bks).1
  have hbmW : bm < W.heap.size := (Array.getElem?_eq_some_iff.1 hmk.box).1
  have hbH := (hmk.lst H hH2).2
  have hltH : ∀ b, (vb H).ownBlock = some b → b < W.heap.size := fun b hb => ((hmk.lst H hH2).1.lt b hb).2
  have hgS7 : gS < w7.heap.size := (hown7.lt gS rfl).2
  have hgBr : gB < W.heap.size → r gB = .lst H := fun h => by
    rcases hat with e | e
    · exact hbH gB e
    · have := hV.size; omega
  have hblk8 : ∀ b, b < w7.heap.size → (vb H).ownBlock ≠ some b → w8.heap[b]? = w7.heap[b]? := fun b hb hne => (hg.block b (Nat.lt_of_lt_of_le hb hV.size) (fun e => hne e.symm)).trans (hV.block b hb)
  have hz8 : W.heap.size ≤ w8.heap.size := Nat.le_trans hz7 (Nat.le_trans hV.size hg.size)
  have rne : ∀ {x y : Nat} {p q : Role}, r x = p → r y = q → p ≠ q → x ≠ y := fun h1 h2 hne e => hne (by rw [← h1, ← h2, e])
  have hbmb : bm ≠ bb := rne hmk.rbm hmk.rbb (by simp)
  have hHbb : (vb H).ownBlock ≠ some bb := fun e => absurd (hbH bb e) (by rw [hmk.rbb]; simp)
  have hHbm : (vb H).ownBlock ≠ some bm := fun e => absurd (hbH bm e) (by rw [hmk.rbm]; simp)
  have hHgS : (vb H).ownBlock ≠ some gS := fun e => absurd (hbH gS e) (by rw [hgS (hltH gS e)]; simp)
  have hgBbb : gB ≠ bb := fun e => absurd (hgBr (by omega)) (by rw [e, hmk.rbb]; simp)
  have hgBbm : gB ≠ bm := fun e => absurd (hgBr (by omega)) (by rw [e, hmk.rbm]; simp)
  have hgSbb : gS ≠ bb := fun e => absurd (hgS (by omega)) (by rw [e, hmk.rbb]; simp)
  have hgBgS : gB ≠ gS := fun e => by
    rcases hat with e2 | e2
    · rw [e] at e2; exact hHgS e2
    · have := hV.size; omega
  have hbks8 : w8.heap[bb]? = some (.cells cs 71) := ((hblk8 bb (by omega) hHbb).trans (hk7 bb hbbW (by rw [hmk.rbb]; simp) (by rw [hmk.rbb]; simp))).trans hmk.bks
  have hset : ∀ b, b ≠ bb → ∀ u, (w8.setCell ⟨bb, H, none⟩ u).heap[b]? = w8.heap[b]? := fun b hb u => heap_set_other w8 bb H u b hb
  have hkeep : ∀ b, b < W.heap.size → r b ≠ .mk → r b ≠ .st → r b ≠ .bk → r b ≠ .lst H → ∀ u, (w8.setCell ⟨bb, H, none⟩ u).heap[b]? = W.heap[b]? := fun b hb h1 h2 h3 h4 u => by
    rw [hset b (by rintro rfl; exact h3 hmk.rbb), hblk8 b (by omega) (fun e => h4 (hbH b e)), hk7 b hb h1 h2]
  have hR : ∀ b, b < W.heap.size → (Value.slice a l.length ca).ownBlock ≠ some b → rNew r gS gB H (.slice a l.length ca) b = r b := fun b hb hva => by
    unfold rNew
    by_cases e1 : b = gS
    · rw [if_pos e1, e1, hgS (by omega)]
    · rw [if_neg e1]
      by_cases e2 : b = gB
      · rw [if_pos e2, e2, hgBr (by omega)]
      · rw [if_neg e2, if_neg hva]
  have hR2 : ∀ b, b < W.heap.size → r b ≠ .oth → rNew r gS gB H (.slice a l.length ca) b = r b := fun b hb hr => hR b hb fun e => hr (hvaO b e).1
  have hSn := stM_snoc hok hk
  rw [hst] at hSn
  have hxl : xs.length = O.length * 2 := hmk.row.1
  have hSl : (stM O).length = O.length := stM_len O
  refine ⟨⟨vb H, by rw [blkc hbks8 H]; exact hmk.cat H hH2⟩, frozen_of_row w8 bb H _ _ hbks8, hz8, fun b hb hr => hkeep b hb (by rcases hr with e | e <;> rw [e] <;> simp) (by rcases hr with e | e <;> rw [e] <;> simp) (by rcases hr with e | e <;> rw [e] <;> simp) (by rcases hr with e | e <;> rw [e] <;> simp) _, ⟨?_, ?_, ?_, hmk.lbm, hmk.lbb, heap_set_same hbks8 H _, by simpa using hmk.csz, fun h hh => ?_, fun h hh => ?_, ?_, fun b hb => ?_, fun j hj => ?_, fun b hb => ?_⟩, hR, (hblk8 bm (by omega) hHbm).trans hbox7, hbmb⟩
  · rw [hset bm hbmb, hblk8 bm (by omega) hHbm]; exact hbox7
  · rw [hR2 bm hbmW (by rw [hmk.rbm]; simp)]; exact hmk.rbm
  · rw [hR2 bb hbbW (by rw [hmk.rbb]; simp)]; exact hmk.rbb
  · by_cases e : h = H
    · subst e
      rw [if_pos rfl, Array.getElem?_setIfInBounds_self_of_lt (by rw [hmk.csz]; exact hh)]
    · rw [if_neg e, Array.getElem?_setIfInBounds_ne (fun e2 => e e2.symm)]
      exact hmk.cat h hh
  · rw [hSn, bkt_snoc, hH, hSl]
    by_cases e : h = H
    · subst e
      rw [if_pos rfl, if_pos rfl]
      refine ⟨?_, fun b hb => ?_⟩
      · have e2 : nV (bkt (stM O) h ++ [O.length]) = nV (bkt (stM O) h) ++ [.int .i64 (O.length : Int)] := by simp [nV]
        rw [e2, List.length_append]
        exact own_congr hown fun b hb => hset b (by cases hb; exact hgBbb) _
      · cases hb
        unfold rNew
        rw [if_neg hgBgS, if_pos rfl]
    · rw [if_neg e, if_neg (fun e2 => e e2.symm), List.append_nil]
      refine ⟨own_congr (hmk.lst h hh).1 fun b hb => ?_, fun b hb => ?_⟩
      · have h1 := (hmk.lst h hh).2 b hb
        exact hkeep b ((hmk.lst h hh).1.lt b hb).2 (by rw [h1]; simp) (by rw [h1]; simp) (by rw [h1]; simp) (by rw [h1]; simpa using e) _
      · have h1 := (hmk.lst h hh).2 b hb
        rw [hR2 b ((hmk.lst h hh).1.lt b hb).2 (by rw [h1]; simp)]
        exact h1
  · rw [List.length_append]
    exact own_congr hown7 fun b hb => by
      cases hb
      rw [hset gS hgSbb, hblk8 gS hgS7 hHgS]
  · cases hb
    unfold rNew
    rw [if_pos rfl]
  · rw [hSn]
    rw [List.length_append, List.length_singleton] at hj
    by_cases e : j < O.length
    · obtain ⟨h1, aj, cj, h2, h3, h4⟩ := hmk.sts j e
      rw [getD_left _ _ _ (by rw [hSl]; exact e), List.getElem?_append_left (by omega), List.getElem?_append_left (by omega)]
      refine ⟨h1, aj, cj, h2, h3.keep (by simpa using hz8) fun b off e2 hb => ?_, fun b off e2 => ?_⟩
      · have h5 := h4 b off e2
        exact hkeep b hb (by rw [h5]; simp) (by rw [h5]; simp) (by rw [h5]; simp) (by rw [h5]; simp) _
      · have h5 := h4 b off e2
        have hbl : b < W.heap.size := by
          rcases Nat.lt_or_ge b W.heap.size with h6 | h6
          · exact h6
          · have := hmk.new b h6; rw [h5] at this; cases this
        rw [hR2 b hbl (by rw [h5]; simp)]
        exact h5
    · obtain rfl : j = O.length := by omega
      have e1 : (stM O ++ [(fin, l)]).getD O.length st0 = (fin, l) := by have := getD_last (stM O) (fin, l) st0; rw [hSl] at this; exact this
      rw [e1, List.getElem?_append_right (by omega), List.getElem?_append_right (by omega), show O.length * 2 - xs.length = 0 from by omega, show O.length * 2 + 1 - xs.length = 1 from by omega]
      refine ⟨rfl, a, ca, rfl, hA.keep (by simpa using hz8) fun b off e2 hb => ?_, fun b off e2 => ?_⟩
      · have h5 := (hAr b off e2).1
        exact hkeep b hb (by rw [h5]; simp) (by rw [h5]; simp) (by rw [h5]; simp) (by rw [h5]; simp) _
      · obtain ⟨h5, h6, h7⟩ := hAr b off e2
        unfold rNew
        rw [if_neg (fun e3 => absurd (hgS (by omega)) (by rw [← e3, h5]; simp)), if_neg (fun e3 => absurd (hgBr (by omega)) (by rw [← e3, h5]; simp)), if_pos h7]
  · have hb8 : w8.heap.size ≤ b := by simpa using hb
    have h78 := Nat.le_trans hV.size hg.size
    unfold rNew
    rw [if_neg (by omega), if_neg (by omega), if_neg (fun e => by have := (hvaO b e).2; omega)]
    exact hmk.new b (by omega)
end Go.Proofs.Ytjndogajdlophaa
