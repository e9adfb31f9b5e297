import Derived.Test.YtifgcimmlonagaaDoorSuggestJ12
namespace Go.Proofs.YtifgcimmlonagaaDoor
open Go Go.RowKit
set_option linter.unusedVariables false
set_option maxRecDepth 100000
set_option linter.unusedSimpArgs false

/-! A word that ends in a state is kept, if it is near. -/
structure NwAt (w : World) (base pw : Nat) (s : Option Addr) (ca : Nat) (a : List Int) (v : Value) (E : List NW) : Prop where
  box : w.heap[pw]? = some (.cells #[.slice s a.length ca, v] 51)
  row : w.ownsRow base 59 2 v E.length (nwCells E)
theorem NwAt.lt {w : World} {base pw : Nat} {s : Option Addr} {ca : Nat} {a : List Int} {v : Value} {E : List NW} (h : NwAt w base pw s ca a v E) : pw < w.heap.size := (Array.getElem?_eq_some_iff.1 h.box).1
theorem NwAt.ne {w : World} {base pw : Nat} {s : Option Addr} {ca : Nat} {a : List Int} {v : Value} {E : List NW} (h : NwAt w base pw s ca a v E) : v.ownBlock ≠ some pw := by
  intro e
  obtain ⟨_, cur, hc⟩ := own_blk h.row e
  exact blk_ne h.box hc (by decide) rfl
theorem NwAt.below {w w' : World} {base pw : Nat} {s : Option Addr} {ca : Nat} {a : List Int} {v : Value} {E : List NW} (h : NwAt w base pw s ca a v E) (hb : Below w.heap.size w w') : NwAt w' base pw s ca a v E :=
  ⟨blko h.box hb, own_congr h.row fun b e => hb.block b (h.row.lt b e).2⟩
theorem NwAt.more {w w5 w6 : World} {base pw g cap : Nat} {s : Option Addr} {ca : Nat} {a : List Int} {v : Value} {E : List NW} {x : NW} (h : NwAt w base pw s ca a v E) (h5 : Below w.heap.size w w5)
    (hown : w6.ownsRow base 59 2 (.slice (some ⟨g, 0, none⟩) (E.length + 1) cap) (E.length + 1) (nwCells E ++ [.int .i64 (x.1 : Int), .string (bs x.2)])) (hgr : w5.grownBy w6 v.ownBlock) (hat : v.ownBlock = some g ∨ g = w5.heap.size) :
    w6.heap[pw]? = some (.cells #[.slice s a.length ca, v] 51) ∧
    NwAt (w6.setCell ⟨pw, 1, none⟩ (.slice (some ⟨g, 0, none⟩) (E.length + 1) cap)) base pw s ca a (.slice (some ⟨g, 0, none⟩) (E.length + 1) cap) (E ++ [x]) ∧ Mv pw w v (w6.setCell ⟨pw, 1, none⟩ (.slice (some ⟨g, 0, none⟩) (E.length + 1) cap)) (.slice (some ⟨g, 0, none⟩) (E.length + 1) cap) := by
  have hpl := h.lt
  have hz5 := h5.size
  have hbox : w6.heap[pw]? = some (.cells #[.slice s a.length ca, v] 51) := by
    rw [hgr.block pw (by omega) (fun e => h.ne e.symm), h5.block pw hpl, h.box]
  refine ⟨hbox, ⟨?_, ?_⟩, ⟨?_, ?_⟩⟩
  · have := blk_setk hbox 1 (.slice (some ⟨g, 0, none⟩) (E.length + 1) cap)
    simpa using this
  · have hgp : g ≠ pw := by
      intro e
      obtain ⟨_, cur, hc⟩ := own_blk hown (b := g) rfl
      exact blk_ne hc hbox (by decide) e
    rw [nwCells_snoc, List.length_append, List.length_singleton]
    refine own_congr (w := w6) hown fun b e => ?_
    have e2 : g = b := Option.some.inj e
    subst e2
    exact heap_set_other w6 pw 1 _ g hgp
  · refine But.set (a := w) (b := w6) ⟨?_, ?_, ?_, ?_, ?_⟩ pw 1 _ (.inl rfl)
    · exact hgr.os.trans h5.os
    · exact hgr.tape.trans h5.tape
    · exact hgr.output.trans h5.output
    · exact Nat.le_trans hz5 hgr.size
    · intro b hb hn
      rw [hgr.block b (by omega) (fun e => hn (.inr e.symm)), h5.block b hb]
  · rcases hat with hat | hat
    · exact .inl hat.symm
    · refine .inr fun b e => ?_
      have e2 : g = b := Option.some.inj e
      omega
/-- What one word adds. -/
def meetE (a b : List Int) (t : Tx) : List NW := if edits a b < 3 then [(edits a b, t)] else []
theorem meet_step (a b : List Int) (t : Tx) (i : Nat) (h : b.length + i = a.length + 2) : (if bnd a b i < 3 then [(bnd a b i, t)] else []) = meetE a b t := by
  unfold meetE
  rw [near_end a b i h]
  by_cases h1 : edits a b < 3
  · rw [if_pos (by omega), if_pos h1, Nat.min_eq_right (by omega)]
  · rw [if_neg (by omega), if_neg h1]
theorem meet_none (a b : List Int) (t : Tx) (h : ¬ ∃ i, i < 5 ∧ b.length + i = a.length + 2) : meetE a b t = [] := by
  unfold meetE
  rw [if_neg (by have := far_end a b h; omega)]
def dE (a b : List Int) (t : Tx) (i : Nat) : List NW := if b.length ≤ a.length + 2 ∧ a.length + 2 < b.length + i then meetE a b t else []
theorem dE_zero (a b : List Int) (t : Tx) : dE a b t 0 = [] := by rw [dE, if_neg (by omega)]
theorem dE_skip (a b : List Int) (t : Tx) (i : Nat) (h : ¬ b.length + i = a.length + 2) : dE a b t (i + 1) = dE a b t i := by
  unfold dE
  by_cases h1 : b.length ≤ a.length + 2 ∧ a.length + 2 < b.length + i
  · rw [if_pos h1, if_pos (by omega)]
  · rw [if_neg h1, if_neg (by omega)]
theorem dE_hit (a b : List Int) (t : Tx) (i : Nat) (h : b.length + i = a.length + 2) : dE a b t i = [] ∧ dE a b t (i + 1) = if bnd a b i < 3 then [(bnd a b i, t)] else [] := by
  unfold dE
  rw [if_neg (by omega), if_pos (by omega), meet_step a b t i h]
  exact ⟨rfl, rfl⟩
theorem dE_end (a b : List Int) (t : Tx) : dE a b t 5 = meetE a b t := by
  unfold dE
  by_cases h1 : b.length ≤ a.length + 2 ∧ a.length + 2 < b.length + 5
  · rw [if_pos h1]
  · rw [if_neg h1, meet_none a b t (fun ⟨i, hi, e⟩ => h1 (by omega))]
theorem idx_any (F : Nat → Int) (i : Nat) (h : i < 5) (w : World) : (Instr.index 53 (.agg #[.int .i64 (F 0), .int .i64 (F 1), .int .i64 (F 2), .int .i64 (F 3), .int .i64 (F 4)]) (.int .i64 (i : Int))).run Tryd.prog w = .ok (.int .i64 (F i)) w := by
  rcases five h with rfl | rfl | rfl | rfl | rfl <;> simp [Instr.index, go_sem]
set_option maxHeartbeats 8000000 in
theorem meet_any (a b : List Int) (t : Tx) (base pw : Nat) (s : Option Addr) (ca : Nat) (v : Value) (E : List NW) (w : World) (hal : a.length ≤ 200) (hbl : b.length ≤ 100000) (hel : E.length ≤ 100000) (hbw : base ≤ w.heap.size) (hN : NwAt w base pw s ca a v E) :
    Calls Tryd.prog 42 #[.pointer (some ⟨pw, 0, none⟩), .string (bs t), nsV a b] w fun e w' => e = .returned (.tuple #[]) ∧ ∃ v', NwAt w' base pw s ca a v' (E ++ meetE a b t) ∧ Mv pw w v w' v' := by
  obtain ⟨i0, hi0, hz0, hz1, hz2⟩ := info_parts Tryd.infoNW
  have hpl := hN.lt
  have HN := hidd hN
  have hV0 : nsV a b = .agg (nsC (b.length : Int) (bF a b)) := rfl
  rw [hV0]
  clear hV0 hN
  have Hb5 := hidd (heap_alloc_new w (.cells (nsC (b.length : Int) (bF a b)) 55))
  have HB5 : Hid (Below w.heap.size w (w.alloc (.cells (nsC (b.length : Int) (bF a b)) 55))) := (Below.refl _ _).alloc (Nat.le_refl _) _
  have hF : ∀ j, bF a b j = (bnd a b j : Int) := fun _ => rfl
  have HF := hidd hF
  clear hF
  generalize bF a b = F at *
  unfold nsC at Hb5 HB5
  go_enter Tryd.func42, Tryd.ntmps42
  unfold nsC
  go_wp2_with fail
  generalize w.alloc (.cells #[Value.int .i64 (b.length : Int), .int .i64 (F 0), .int .i64 (F 1), .int .i64 (F 2), .int .i64 (F 3), .int .i64 (F 4)] 55) = W5 at *
  go_loopw [10] (fun iv wr => ∃ (i : Nat) (v' : Value), i ≤ 5 ∧ iv = .int .i64 (i : Int) ∧ NwAt wr base pw s ca a v' (E ++ dE a b t i) ∧ Mv pw w v wr v' ∧ wr.heap[w.heap.size]? = some (.cells (nsC (b.length : Int) F) 55)) (fun iv _ => 5 - (intOf iv).toNat)
  case atStart => exact ⟨0, v, by omega, rfl, by rw [dE_zero, List.append_nil]; exact HN.out.below HB5.out, Mv.of_below HB5.out, Hb5.out⟩
  case round =>
    obtain ⟨i, v', hi, rfl, hn, hm, hb5⟩ := hrel
    clear Hb5 HB5 HN
    have HN := hidd hn
    have HM := hidd hm
    have H5 := hidd hb5
    have hzw := hm.but.size
    have hl5 := (Array.getElem?_eq_some_iff.1 hb5).1
    have hpr := hn.lt
    have c0 : wr.cell? ⟨pw, 0, none⟩ = some (.slice s a.length ca) := blkc hn.box 0
    obtain ⟨d0, d1, d2, d3, d4, d5⟩ := six hb5
    clear hn hm hb5
    by_cases hlt : i < 5
    · have hltz : (i : Int) < 5 := by omega
      have hix := idx_any F i hlt
      have HFi := hidd (HF.out i)
      have HSz : Hid (∀ W, Calls Tryd.prog 48 #[.agg #[.int .i64 (b.length : Int), .int .i64 (F 0), .int .i64 (F 1), .int .i64 (F 2), .int .i64 (F 3), .int .i64 (F 4)], .int .i64 (i : Int)] W fun e w' => e = .returned (.int .i64 ((b.length : Int) + (i : Int) - 2)) ∧ Below W.heap.size W w') := fun W => size_any (b.length : Int) F i W (by omega) (by omega) (by omega)
      have hfb : 0 ≤ F i ∧ F i ≤ 3 := by have := bnd_le a b i; rw [HFi.out]; omega
      generalize F i = x at *
      generalize hL : (b.length : Int) = L at *
      generalize F 0 = F0 at *
      generalize F 1 = F1 at *
      generalize F 2 = F2 at *
      generalize F 3 = F3 at *
      generalize F 4 = F4 at *
      obtain ⟨z, hz⟩ : ∃ z : Int, L + (i : Int) - 2 = z := ⟨_, rfl⟩
      rw [hz] at HSz
      have Hz := hidd hz
      have HL := hidd hL
      clear hz hL
      obtain ⟨qb, hqb⟩ : ∃ qb, (decide (z = (a.length : Int)) && decide (x < 3)) = qb := ⟨_, rfl⟩
      go_upto_region 4 with fail
      go_cut [26] (fun c wy => c = .bool qb ∧ Below wr.heap.size wr wy)
      case first =>
        by_cases hm1 : z = (a.length : Int)
        · have heq : (z == (a.length : Int)) = true := by simp [hm1]
          by_cases hx3 : x < 3
          · have Hqb : Hid (true = qb) := by show _ = _; rw [← hqb]; simp [hm1, hx3]
            clear hm1 hqb
            go_region_held3 (fun W => W.cell? ⟨pw, 0, none⟩ = some (.slice s a.length ca) ∧ W.cell? ⟨w.heap.size, 0, none⟩ = some (.int .i64 L) ∧ W.cell? ⟨w.heap.size, 1, none⟩ = some (.int .i64 F0) ∧ W.cell? ⟨w.heap.size, 2, none⟩ = some (.int .i64 F1) ∧ W.cell? ⟨w.heap.size, 3, none⟩ = some (.int .i64 F2) ∧ W.cell? ⟨w.heap.size, 4, none⟩ = some (.int .i64 F3) ∧ W.cell? ⟨w.heap.size, 5, none⟩ = some (.int .i64 F4))
              (first | exact ⟨c0, d0, d1, d2, d3, d4, d5⟩ | exact S1.out | go_keep)
              ((go_at_call 48; refine (HSz.out _).mono ?_; rintro e w' ⟨rfl, hb⟩; have HBx : Hid (Below wr.heap.size wr w') := (by first | exact hb | exact (below_drewN (Below.refl _ _) 1).trans hb); have S1 := hidd (And.intro ((HBx.out.cell (p := ⟨pw, 0, none⟩) hpr).trans c0) (And.intro ((HBx.out.cell (p := ⟨w.heap.size, 0, none⟩) hl5).trans d0) (And.intro ((HBx.out.cell (p := ⟨w.heap.size, 1, none⟩) hl5).trans d1) (And.intro ((HBx.out.cell (p := ⟨w.heap.size, 2, none⟩) hl5).trans d2) (And.intro ((HBx.out.cell (p := ⟨w.heap.size, 3, none⟩) hl5).trans d3) (And.intro ((HBx.out.cell (p := ⟨w.heap.size, 4, none⟩) hl5).trans d4) ((HBx.out.cell (p := ⟨w.heap.size, 5, none⟩) hl5).trans d5))))))); clear hb))
            all_goals
              go_wp2_with fail
              go_meet
              exact ⟨(by first | (rw [← Hqb.out]; done) | (rw [← Hqb.out]; simp; omega)), HBx.out⟩
          · have Hqb : Hid (false = qb) := by show _ = _; rw [← hqb]; simp [hm1, hx3]
            clear hm1 hqb
            go_region_held3 (fun W => W.cell? ⟨pw, 0, none⟩ = some (.slice s a.length ca) ∧ W.cell? ⟨w.heap.size, 0, none⟩ = some (.int .i64 L) ∧ W.cell? ⟨w.heap.size, 1, none⟩ = some (.int .i64 F0) ∧ W.cell? ⟨w.heap.size, 2, none⟩ = some (.int .i64 F1) ∧ W.cell? ⟨w.heap.size, 3, none⟩ = some (.int .i64 F2) ∧ W.cell? ⟨w.heap.size, 4, none⟩ = some (.int .i64 F3) ∧ W.cell? ⟨w.heap.size, 5, none⟩ = some (.int .i64 F4))
              (first | exact ⟨c0, d0, d1, d2, d3, d4, d5⟩ | exact S1.out | go_keep)
              ((go_at_call 48; refine (HSz.out _).mono ?_; rintro e w' ⟨rfl, hb⟩; have HBx : Hid (Below wr.heap.size wr w') := (by first | exact hb | exact (below_drewN (Below.refl _ _) 1).trans hb); have S1 := hidd (And.intro ((HBx.out.cell (p := ⟨pw, 0, none⟩) hpr).trans c0) (And.intro ((HBx.out.cell (p := ⟨w.heap.size, 0, none⟩) hl5).trans d0) (And.intro ((HBx.out.cell (p := ⟨w.heap.size, 1, none⟩) hl5).trans d1) (And.intro ((HBx.out.cell (p := ⟨w.heap.size, 2, none⟩) hl5).trans d2) (And.intro ((HBx.out.cell (p := ⟨w.heap.size, 3, none⟩) hl5).trans d3) (And.intro ((HBx.out.cell (p := ⟨w.heap.size, 4, none⟩) hl5).trans d4) ((HBx.out.cell (p := ⟨w.heap.size, 5, none⟩) hl5).trans d5))))))); clear hb))
            all_goals
              go_wp2_with fail
              go_meet
              exact ⟨(by first | (rw [← Hqb.out]; done) | (rw [← Hqb.out]; simp; omega)), HBx.out⟩
        · have heq : (z == (a.length : Int)) = false := beq_eq_false_iff_ne.2 hm1
          have Hqb : Hid (false = qb) := by show _ = _; rw [← hqb]; simp [hm1]
          clear hm1 hqb
          refine wp_region_held_drew (S := fun W => W.cell? ⟨pw, 0, none⟩ = some (.slice s a.length ca) ∧ W.cell? ⟨w.heap.size, 0, none⟩ = some (.int .i64 L) ∧ W.cell? ⟨w.heap.size, 1, none⟩ = some (.int .i64 F0) ∧ W.cell? ⟨w.heap.size, 2, none⟩ = some (.int .i64 F1) ∧ W.cell? ⟨w.heap.size, 3, none⟩ = some (.int .i64 F2) ∧ W.cell? ⟨w.heap.size, 4, none⟩ = some (.int .i64 F3) ∧ W.cell? ⟨w.heap.size, 5, none⟩ = some (.int .i64 F4)) (by kernel_rfl) ?_ (fun hHeld => ?_)
          · exact ⟨c0, d0, d1, d2, d3, d4, d5⟩
          refine tkX 0 (h := ?_)
          refine tkX 1 (h := ?_)
          refine tkX 3 (h := ?_)
          refine tkX 4 (h := ?_)
          refine tkX 5 (h := ?_)
          refine tkX 6 (h := ?_)
          refine tkX 7 (h := ?_)
          (simp only [Act.put, List.getElem_toArray, List.getElem_cons_succ, List.getElem_cons_zero, List.setIfInBounds_toArray, List.set_cons_zero, List.set_cons_succ])
          refine wpAnyH_ready (rs := [2]) (by kernel_rfl) (by simp) ?_
          refine AllReadyH.cons rfl (fun K hK => ?_) AllReadyH.nil
          go_simp
          refine (HSz.out _).mono ?_
          rintro e w' ⟨rfl, hb⟩
          have HBx : Hid (Below wr.heap.size wr w') := (below_drewN (Below.refl _ _) 1).trans hb
          dsimp only
          refine hK.out _ _ ⟨(HBx.out.cell (p := ⟨pw, 0, none⟩) hpr).trans c0, (HBx.out.cell (p := ⟨w.heap.size, 0, none⟩) hl5).trans d0, (HBx.out.cell (p := ⟨w.heap.size, 1, none⟩) hl5).trans d1, (HBx.out.cell (p := ⟨w.heap.size, 2, none⟩) hl5).trans d2, (HBx.out.cell (p := ⟨w.heap.size, 3, none⟩) hl5).trans d3, (HBx.out.cell (p := ⟨w.heap.size, 4, none⟩) hl5).trans d4, (HBx.out.cell (p := ⟨w.heap.size, 5, none⟩) hl5).trans d5⟩ (fun hHeld1 => ?_)
          clear hK K hb
          (try simp only [Act.put, List.getElem_toArray, List.getElem_cons_succ, List.getElem_cons_zero, List.setIfInBounds_toArray, List.set_cons_zero, List.set_cons_succ])
          refine tkW 8 (v := .bool false) (hx := ?_) (h := ?_)
          · intro W _; go_simp
          (simp only [Act.put, List.getElem_toArray, List.getElem_cons_succ, List.getElem_cons_zero, List.setIfInBounds_toArray, List.set_cons_zero, List.set_cons_succ])
          refine tkX 9 (h := ?_)
          (simp only [Act.put, List.getElem_toArray, List.getElem_cons_succ, List.getElem_cons_zero, List.setIfInBounds_toArray, List.set_cons_zero, List.set_cons_succ])
          refine tkS 10 (h := ?_)
          refine tkS 11 (h := ?_)
          refine tkX 12 (h := ?_)
          (simp only [Act.put, List.getElem_toArray, List.getElem_cons_succ, List.getElem_cons_zero, List.setIfInBounds_toArray, List.set_cons_zero, List.set_cons_succ])
          refine wpAnyH_done (by kernel_rfl) ?_ _
          go_wp2_with fail
          go_meet
          exact ⟨by rw [← Hqb.out], HBx.out⟩
      case rest =>
        obtain ⟨rfl, hbc⟩ := hcut
        have HN2 := hidd (HN.out.below hbc)
        have HM2 := hidd (HM.out.trans (Mv.of_below hbc))
        have H52 := hidd (blko H5.out hbc)
        clear hbc d0 d1 d2 d3 d4 d5 c0 HSz HN HM H5
        cases qb with
        | false =>
          have HE : Hid (dE a b t (i + 1) = dE a b t i) := by
            show _ = _
            have hz := Hz.out
            have hL := HL.out
            by_cases he : b.length + i = a.length + 2
            · have hx3 : ¬ x < 3 := by
                intro hx
                have : (decide (z = (a.length : Int)) && decide (x < 3)) = true := by simp [hx]; omega
                rw [this] at hqb
                cases hqb
              obtain ⟨e1, e2⟩ := dE_hit a b t i he
              have := HFi.out
              rw [e1, e2, if_neg (by omega)]
            · exact dE_skip a b t i he
          clear hqb
          go_wp2_with fail
          go_roundw
          case rel => exact ⟨i + 1, v', by omega, by go_num, by rw [HE.out]; exact HN2.out, HM2.out, by have := H52.out; unfold nsC at *; exact this⟩
          case measure => simp [intOf]; omega
        | true =>
          rw [Bool.and_eq_true, decide_eq_true_eq, decide_eq_true_eq] at hqb
          have he : b.length + i = a.length + 2 := by have hz := Hz.out; have hL := HL.out; omega
          obtain ⟨e1, e2⟩ := dE_hit a b t i he
          have hxv := HFi.out
          rw [if_pos (by omega)] at e2
          have hdl : E ++ dE a b t i = E := by rw [e1, List.append_nil]
          rw [hdl] at HN2
          have HE2 := hidd e2
          have Hxv := hidd hxv
          have c1 : wc.cell? ⟨pw, 1, none⟩ = some v' := blkc HN2.out.box 1
          have hv : ∃ sv n cap, v' = .slice sv n cap := by
            rcases HN2.out.row.2 with ⟨h1, h2⟩ | ⟨g, cap, cur, h1, _⟩
            · exact ⟨none, 0, 0, h1⟩
            · exact ⟨_, _, _, h1⟩
          obtain ⟨sv, n, cap, rfl⟩ := hv
          have hszc : base ≤ wc.heap.size := by have := HM2.out.but.size; omega
          clear hqb he e1 e2 hxv hdl
          go_wp2_with (at_builtin; refine wpList_append_lies _ rfl _ _ 49 rfl base 59 i0 _ 2 24 Tryd.underlying49 hi0 hz0 hz1 hz2 rfl (by decide) (.slice sv n cap) E.length (nwCells E) rfl (HN2.out.row.alloc _) ⟨wc.heap.size, 0, none⟩ 1 1 [.int .i64 x, .string (bs t)] rfl rfl (news_two wc _ _ _) (by intro u' hu'; simp at hu'; rcases hu' with rfl | rfl <;> rfl) (by omega) (by unfold maxLen; omega) (by omega) (by simp; omega) _ rfl ?_)
          intro g6 cp6 w6 hown6 hgrow6 hat6 hlt6
          rw [Hxv.out] at hown6
          obtain ⟨k1, k2, k3⟩ := HN2.out.more (x := (bnd a b i, t)) ((Below.refl _ _).alloc (Nat.le_refl _) _) hown6 hgrow6 (hat6.imp id (fun e => by simpa using e))
          have f1 : w6.frozen? ⟨pw, 1, none⟩ = false := blkf k1 1
          have q1 : w6.cell? ⟨pw, 1, none⟩ = some (.slice sv n cap) := blkc k1 1
          have K2 : Hid (NwAt (w6.setCell ⟨pw, 1, none⟩ (.slice (some ⟨g6, 0, none⟩) (E.length + 1) cp6)) base pw s ca a (.slice (some ⟨g6, 0, none⟩) (E.length + 1) cp6) (E ++ dE a b t (i + 1))) := by
            rw [HE2.out]; exact k2
          have K3 := hidd (HM2.out.trans k3)
          have K5 : Hid ((w6.setCell ⟨pw, 1, none⟩ (.slice (some ⟨g6, 0, none⟩) (E.length + 1) cp6)).heap[w.heap.size]? = some (.cells (nsC L F) 55)) := by
            have hlc := (Array.getElem?_eq_some_iff.1 H52.out).1
            have hne1 : w.heap.size ≠ pw := by omega
            have hne2 : (Value.slice sv n cap).ownBlock ≠ some w.heap.size := by
              intro e
              obtain ⟨_, cur, hc⟩ := own_blk HN2.out.row e
              exact blk_ne H52.out hc (by decide) rfl
            exact (k3.but.block _ hlc (fun e => by rcases e with e | e; exact hne1 e; exact hne2 e)).trans H52.out
          clear k1 k2 k3 hown6 hgrow6 hat6 hlt6 c1
          go_wp2_with fail
          go_roundw
          case rel => exact ⟨i + 1, _, by omega, by go_num, K2.out, K3.out, by first | exact K5.out | (have := K5.out; unfold nsC at *; exact this)⟩
          case measure => simp [intOf]; omega
    · have hltz : ¬ (i : Int) < 5 := by omega
      obtain rfl : i = 5 := by omega
      rw [dE_end] at HN
      go_wp2_with fail
      go_end0
      exact ⟨rfl, v', HN.out, HM.out⟩
end Go.Proofs.YtifgcimmlonagaaDoor
