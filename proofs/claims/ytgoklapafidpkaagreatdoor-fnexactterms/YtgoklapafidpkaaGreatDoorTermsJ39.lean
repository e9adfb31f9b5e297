import Derived.Test.YtgoklapafidpkaaGreatDoorTermsJ00
import Derived.Test.YtgoklapafidpkaaGreatDoorTermsJ38
import Derived.Laws.OwnMore
import Derived.Test.YtgoklapafidpkaaGreatDoorTermsJ07
namespace Go.Proofs.YtgoklapafidpkaaGreatDoor
open Go Go.RowKit
set_option linter.unusedVariables false
set_option linter.unusedSimpArgs false
set_option maxRecDepth 100000

def mixT (B : Nat) (L : List Tk) (j : Nat) : List Tk := shiftTk B (L.take j) ++ L.drop j
theorem mixT_len (B : Nat) (L : List Tk) (j : Nat) : (mixT B L j).length = L.length := by
  rw [mixT, List.length_append, shiftTk_len, List.length_take, List.length_drop]; omega
theorem mixT_get (B : Nat) (L : List Tk) {j : Nat} (h : j < L.length) : (mixT B L j).getD j tk0 = L.getD j tk0 := by
  have hl : (shiftTk B (L.take j)).length = j := by rw [shiftTk_len, List.length_take]; omega
  rw [mixT, List.getD_eq_getElem?_getD, List.getElem?_append_right (by omega), hl, Nat.sub_self, List.getElem?_drop, Nat.add_zero, List.getD_eq_getElem?_getD]
theorem mixT_set (B : Nat) (L : List Tk) {j : Nat} (h : j < L.length) : (mixT B L j).set j ((L.getD j tk0).1, (L.getD j tk0).2.1 + B, (L.getD j tk0).2.2) = mixT B L (j + 1) := by
  have hl : (shiftTk B (L.take j)).length = j := by rw [shiftTk_len, List.length_take]; omega
  rw [mixT, List.set_append_right _ _ (by omega), hl, Nat.sub_self, List.drop_eq_getElem_cons h, List.set_cons_zero, mixT, shiftTk_take _ _ h, List.append_assoc]
  rfl
theorem mixT_end (B : Nat) (L : List Tk) {j : Nat} (h : ¬ j < L.length) : mixT B L j = shiftTk B L := by
  rw [mixT, List.take_of_length_le (by omega), List.drop_of_length_le (by omega), List.append_nil]
theorem toksCells_pos (l : List Tk) (k : Nat) (p : Nat) (h : k < l.length) : (toksCells l).set (k * 4 + 1) (.int .i64 (p : Int)) = toksCells (l.set k ((l.getD k tk0).1, p, (l.getD k tk0).2.2)) := by
  induction l generalizing k with
  | nil => simp at h
  | cons y t ih =>
    have e : ∀ (z : Tk) (r : List Tk), toksCells (z :: r) = (Value.string (bs z.1)) :: (.int .i64 z.2.1) :: (.int .i64 z.2.2.1) :: (.int .i64 z.2.2.2) :: toksCells r := fun z r => by simp [toksCells, tokCells, bs]
    cases k with
    | zero => simp [e]
    | succ k =>
      rw [List.set_cons_succ, e, e, show (k + 1) * 4 + 1 = k * 4 + 1 + 4 by omega]
      simp only [List.set_cons_succ]
      rw [ih k (by simpa using h)]
      simp
theorem toksCells_app (a b : List Tk) : toksCells (a ++ b) = toksCells a ++ toksCells b := by simp [toksCells]
theorem wpList_append_none {ops : Array Oper} {rest : List Oper} {o : Oper} {a : Act} {Q : Exit → Act → World → Prop} {w : World} (hgd : o.guard = none) (s x : Operand) (t : TypeId)
    (ho : o.op = .call { callee := .builtin .append, args := #[s, x], argTypes := #[t, t] }) (v : Value) (hs : a.eval s = v) (hx : a.eval x = .slice none 0 0)
    (hr : ∀ ty, (Builtin.append_ #[t, t] ty #[v, .slice none 0 0]).run Tryz.prog w = .ok v w) (h : wpList Tryz.prog ops Q rest (a.put o.dst v) w) : wpList Tryz.prog ops Q (o :: rest) a w := by
  refine wpList_plain hgd fun K hK => ?_
  unfold Oper.wp execOp
  simp only [ho, resolve, invoke, builtin, Sem.run_bind, Sem.run_pure, Result.andThen_ok, List.map_toArray, List.map_cons, List.map_nil, hs, hx, hr]
  exact hK _ _ h
theorem toks_one (l : List Tk) : ∀ u ∈ toksCells l, u.oneCell' = true := by
  intro u hu
  obtain ⟨t, _, h⟩ := List.mem_flatMap.1 hu
  exact tok_one t u h
set_option maxHeartbeats 32000000 in
theorem specTextTerms_any (f : Fd) (aS aY : Option Addr) (cS cY : Nat) (id : List UInt8) (av : Option Addr) (cv : Nat) (V : List Vl) (w : World) (h2 : ¬ f.kind = 2) (hz : FdSz f) (hS : HoldS w aS f.stops) (hY : HoldY w aY f.syns) (hn : V.length ≤ 1048576) (hH : HoldV w av V) (hsh : ShortV V f.name) :
    Calls Tryz.prog 39 #[.agg #[.string (bs f.name), .int .i64 f.kind, .bool f.bf, .bool f.bsm, .bool f.bp, .slice aS f.stops.length cS, .slice aY f.syns.length cY, .int .i64 f.lo, .int .i64 f.hi], .agg #[.string ⟨id.toArray⟩, .slice av V.length cv]] w (TmP (termsV f (valV V f.name).2.1) w) := by
  obtain ⟨i0, hi0, hz0, hz1, hz2⟩ := info_parts Tryz.infoTok
  have HBa := hidd (((Below.refl w.heap.size w).alloc (Nat.le_refl _) (.cells #[.string (bs f.name), .int .i64 f.kind, .bool f.bf, .bool f.bsm, .bool f.bp, .slice aS f.stops.length cS, .slice aY f.syns.length cY, .int .i64 f.lo, .int .i64 f.hi] 79)).alloc (by simp) (.cells #[.string ⟨id.toArray⟩, .slice av V.length cv] 37))
  have HX := hidd (box_two w (.cells #[.string (bs f.name), .int .i64 f.kind, .bool f.bf, .bool f.bsm, .bool f.bp, .slice aS f.stops.length cS, .slice aY f.syns.length cY, .int .i64 f.lo, .int .i64 f.hi] 79) (.cells #[.string ⟨id.toArray⟩, .slice av V.length cv] 37))
  obtain ⟨s, hs⟩ : ∃ s, valV V f.name = s := ⟨_, rfl⟩
  have HCv : Hid (∀ W, Below w.heap.size w W → Calls Tryz.prog 78 #[.agg #[.string ⟨id.toArray⟩, .slice av V.length cv], .string (bs f.name)] W fun e w' => ∃ at_ ct an cn, e = .returned (.agg #[.string ⟨s.1.toArray⟩, .slice at_ s.2.1.length ct, .slice an s.2.2.length cn]) ∧ HoldTx W at_ s.2.1 ∧ Below W.heap.size W w') := fun W hW => (specValue_any id av cv V f.name W hn (hH.below hW)).mono fun e w' h => by rw [ValP, hs] at h; exact h
  have HCa : Hid (∀ t W, Below w.heap.size w W → t.length ≤ 4000 → Calls Tryz.prog 79 #[.agg #[.bool f.bf, .bool f.bsm, .bool f.bp, .slice aS f.stops.length cS, .slice aY f.syns.length cY, .int .i64 f.lo, .int .i64 f.hi], .string (bs t)] W fun e w' => ∃ v, e = .returned (.tuple #[v, .int .i64 (anC f t)]) ∧ w'.ownsRow W.heap.size 63 4 v (anT f t).length (toksCells (anT f t)) ∧ Below W.heap.size W w') := fun t W hW ht => specAnalyze_any f.bf f.bsm f.bp aS aY cS cY f.stops f.syns f.lo f.hi (bs t) W (hS.below hW) (hY.below hW) hz.2.2.2.1 hz.2.2.2.2 hz.2.1 hz.2.2.1 (by rw [bs_size]; omega) _ _ (hidd (show _ = ((anOf f.bf f.bsm f.bp f.stops f.syns f.lo f.hi (bs t)).1, (anOf f.bf f.bsm f.bp f.stops f.syns f.lo f.hi (bs t)).2) from rfl))
  have HCb : Hid (∀ t W, t.length ≤ 4000 → Calls Tryz.prog 80 #[.string (bs t)] W fun e w' => ∃ v, e = .returned (.tuple #[v, .int .i64 (brkCode (bs t))]) ∧ w'.ownsRow W.heap.size 63 4 v (brkN t) (toksCells (brkList (bs t))) ∧ Below W.heap.size W w') := fun t W ht => specBreak_any (bs t) W (by rw [bs_size]; omega)
  unfold ShortV at hsh
  rw [hs] at hsh ⊢
  rw [show termsV f s.2.1 = (textTo f s.2.1 s.2.1.length).1 by rw [termsV, if_neg h2]]
  have HK2 := hidd h2
  clear hH hs h2 hS hY hz
  obtain ⟨fn, tx, nz⟩ := s
  dsimp only at HCv hsh ⊢
  obtain ⟨hn16, hsz⟩ := hsh
  have HZs := hidd hsz
  clear hsz
  go_enter Tryz.func39, Tryz.ntmps39
  go_upto_region 1 with fail
  obtain ⟨wa, hwa⟩ : ∃ wa, (w.alloc (.cells #[.string (bs f.name), .int .i64 f.kind, .bool f.bf, .bool f.bsm, .bool f.bp, .slice aS f.stops.length cS, .slice aY f.syns.length cY, .int .i64 f.lo, .int .i64 f.hi] 79)).alloc (.cells #[.string ⟨id.toArray⟩, .slice av V.length cv] 37) = wa := ⟨_, rfl⟩
  rw [hwa] at HBa HX
  try rw [hwa]
  clear hwa
  have y0 : wa.cell? ⟨w.heap.size + 1, 0, none⟩ = some (.string ⟨id.toArray⟩) := blkc HX.out.2 0
  have y1 : wa.cell? ⟨w.heap.size + 1, 1, none⟩ = some (.slice av V.length cv) := blkc HX.out.2 1
  have x0 : wa.cell? ⟨w.heap.size, 0, none⟩ = some (.string (bs f.name)) := blkc HX.out.1 0
  go_wp2_with fail
  refine (HCv.out _ HBa.out).mono ?_
  rintro e w2 ⟨at_, ct, an, cn, rfl, hTx, hb2⟩
  have HTx2 := hidd (hTx.below hb2)
  have HB2 := hidd (HBa.out.trans (hb2.mono HBa.out.size))
  have HX2 := hidd (blko HX.out.1 hb2)
  clear hTx hb2 x0 y0 y1 HCv
  dsimp only
  go_upto_region 2 with fail
  have HB3a := hidd ((Below.refl w2.heap.size w2).alloc (Nat.le_refl _) (.cells #[.string ⟨fn.toArray⟩, .slice at_ tx.length ct, .slice an nz.length cn] 60))
  have HV3 := hidd (heap_alloc_new w2 (.cells #[.string ⟨fn.toArray⟩, .slice at_ tx.length ct, .slice an nz.length cn] 60))
  obtain ⟨w3, hw3⟩ : ∃ w3, w2.alloc (.cells #[.string ⟨fn.toArray⟩, .slice at_ tx.length ct, .slice an nz.length cn] 60) = w3 := ⟨_, rfl⟩
  rw [hw3] at HB3a HV3
  try rw [hw3]
  clear hw3
  have HB3 := hidd (HB2.out.trans (HB3a.out.mono HB2.out.size))
  have HX3 := hidd (blko HX2.out HB3a.out)
  have HT3 := hidd (HTx2.out.below HB3a.out)
  have hVBb : w2.heap.size < w3.heap.size := (Array.getElem?_eq_some_iff.1 HV3.out).1
  clear HB3a HX2 HTx2 HB2
  obtain ⟨VB, hVBe⟩ : ∃ VB, w2.heap.size = VB := ⟨_, rfl⟩
  rw [hVBe] at HV3 hVBb
  try rw [hVBe]
  clear hVBe
  go_wp2_with fail
  go_loopw [6, 7, 8] (fun v bv iv wr => ∃ k : Nat, k ≤ tx.length ∧ iv = .int .i64 (k : Int) ∧ bv = .int .i64 ((textTo f tx k).2 : Int) ∧ wr.ownsRow w3.heap.size 63 4 v (textTo f tx k).1.length (toksCells (textTo f tx k).1) ∧ Below w3.heap.size w3 wr) (fun _ _ iv _ => tx.length - (intOf iv).toNat)
  case atStart => exact ⟨0, Nat.zero_le _, rfl, rfl, own4_empty w3 _, (Below.refl _ _).alloc (Nat.le_refl _) _⟩
  case round =>
    obtain ⟨k, hk, rfl, rfl, hown, hbel⟩ := hrel
    have HO := hidd hown
    have HBl := hidd hbel
    have HB := hidd (HB3.out.trans (hbel.mono HB3.out.size))
    have HXr := hidd (blko HX3.out hbel)
    have HVr := hidd (blko HV3.out hbel)
    have hbz := hbel.size
    clear hown hbel
    have hVB : VB < wr.heap.size := by omega
    have v1' : wr.cell? ⟨VB, 1, none⟩ = some (.slice at_ tx.length ct) := blkc HVr.out 1
    by_cases hlt : k < tx.length
    · have hkz : (k : Int) < (tx.length : Int) := by omega
      obtain ⟨b, off, rfl, hbb, hc⟩ := HT3.out.resolve_left (fun h => by rw [h] at hlt; simp at hlt)
      have hbl : b < wr.heap.size := by omega
      have HQ3 := hidd (hc k hlt)
      have q0 : wr.cell? ⟨b, off + k, none⟩ = some (.string (bs (tx.getD k []))) := (HBl.out.cell (p := ⟨b, off + k, none⟩) hbb).trans HQ3.out
      have v1 := v1'
      clear v1' hc
      have hszk := HZs.out k hlt
      have HE := hidd (textTo_succ f tx k)
      have hsm := textTo_small f tx k
      have hbn := brkN_small (tx.getD k [])
      have hln := (anT_small f (tx.getD k [])).1
      have HPs := hidd (fun j => anT_at f (tx.getD k []) j)
      have HCat := hidd (fun W (hW : Below wr.heap.size wr W) => HCa.out (tx.getD k []) W (HB.out.trans (hW.mono HB.out.size)) hszk)
      have HCbt := hidd (fun W => HCb.out (tx.getD k []) W hszk)
      generalize tx.getD k [] = t at *
      have hfl : (bs t).size = t.length := bs_size t
      generalize anC f t = cod at *
      generalize brkCode (bs t) = bcod at *
      generalize toksCells (brkList (bs t)) = bcells at *
      generalize anT f t = L at *
      generalize brkN t = BN at *
      generalize (textTo f tx k).1 = A at *
      generalize (textTo f tx k).2 = B at *
      have hw0 : w.heap.size < wr.heap.size := (Array.getElem?_eq_some_iff.1 HXr.out).1
      have x1 : wr.cell? ⟨w.heap.size, 1, none⟩ = some (.int .i64 f.kind) := blkc HXr.out 1
      have x2 : wr.cell? ⟨w.heap.size, 2, none⟩ = some (.bool f.bf) := blkc HXr.out 2
      have x3 : wr.cell? ⟨w.heap.size, 3, none⟩ = some (.bool f.bsm) := blkc HXr.out 3
      have x4 : wr.cell? ⟨w.heap.size, 4, none⟩ = some (.bool f.bp) := blkc HXr.out 4
      have x5 : wr.cell? ⟨w.heap.size, 5, none⟩ = some (.slice aS f.stops.length cS) := blkc HXr.out 5
      have x6 : wr.cell? ⟨w.heap.size, 6, none⟩ = some (.slice aY f.syns.length cY) := blkc HXr.out 6
      have x7 : wr.cell? ⟨w.heap.size, 7, none⟩ = some (.int .i64 f.lo) := blkc HXr.out 7
      have x8 : wr.cell? ⟨w.heap.size, 8, none⟩ = some (.int .i64 f.hi) := blkc HXr.out 8
      have hk2 : ¬ f.kind = 2 := HK2.out
      go_upto_region 9 with fail
      clear hk2
      go_cut [9] (fun v wy => wy.ownsRow wr.heap.size 63 4 v L.length (toksCells L) ∧ Below wr.heap.size wr wy)
      case first =>
        refine wp_region_held_drew (S := (fun w' => w'.cell? ⟨w.heap.size, 2, none⟩ = some (.bool f.bf) ∧ w'.cell? ⟨w.heap.size, 3, none⟩ = some (.bool f.bsm) ∧ w'.cell? ⟨w.heap.size, 4, none⟩ = some (.bool f.bp) ∧ w'.cell? ⟨w.heap.size, 5, none⟩ = some (.slice aS f.stops.length cS) ∧ w'.cell? ⟨w.heap.size, 6, none⟩ = some (.slice aY f.syns.length cY) ∧ w'.cell? ⟨w.heap.size, 7, none⟩ = some (.int .i64 f.lo) ∧ w'.cell? ⟨w.heap.size, 8, none⟩ = some (.int .i64 f.hi) ∧ w'.cell? ⟨VB, 1, none⟩ = some (.slice (some ⟨b, off, none⟩) tx.length ct) ∧ w'.cell? ⟨b, off + k, none⟩ = some (.string (bs t)))) (by kernel_rfl) ?_ (fun hHeld => ?_)
        · exact ⟨x2, x3, x4, x5, x6, x7, x8, v1, q0⟩
        refine tkX 0 (h := ?_)
        refine tkX 1 (h := ?_)
        refine tkX 2 (h := ?_)
        refine tkX 3 (h := ?_)
        refine tkX 4 (h := ?_)
        (simp only [Act.put, List.getElem_toArray, List.getElem_cons_succ, List.getElem_cons_zero, List.setIfInBounds_toArray, List.set_cons_zero, List.set_cons_succ])
        refine tkX 5 (h := ?_)
        refine tkX 6 (h := ?_)
        (simp only [Act.put, List.getElem_toArray, List.getElem_cons_succ, List.getElem_cons_zero, List.setIfInBounds_toArray, List.set_cons_zero, List.set_cons_succ])
        refine wpAnyH_ready (rs := [7]) (by kernel_rfl) (by simp) ?_
        refine AllReadyH.cons rfl (fun K hK => ?_) AllReadyH.nil
        go_simp
        refine (HCat.out _ (below_drewN (Below.refl wr.heap.size wr) 1)).mono ?_
        rintro e' wv1 ⟨v9, rfl, hown9, hbv1⟩
        have HBw1 : Hid (Below wr.heap.size wr wv1) := Below.trans (below_drewN (Below.refl wr.heap.size wr) 1) (hbv1.mono (Below.size (below_drewN (Below.refl wr.heap.size wr) 1)))
        have HO9 := hidd (ownG_mono hown9 (show wr.heap.size ≤ wr.drew.heap.size from Nat.le_refl _))
        clear hbv1 hown9
        go_wp2_with fail
        refine hK.out _ _ ?_ (fun hHeld1 => ?_)
        · exact ⟨(HBw1.out.cell (p := ⟨w.heap.size, 2, none⟩) hw0).trans x2, (HBw1.out.cell (p := ⟨w.heap.size, 3, none⟩) hw0).trans x3, (HBw1.out.cell (p := ⟨w.heap.size, 4, none⟩) hw0).trans x4, (HBw1.out.cell (p := ⟨w.heap.size, 5, none⟩) hw0).trans x5, (HBw1.out.cell (p := ⟨w.heap.size, 6, none⟩) hw0).trans x6, (HBw1.out.cell (p := ⟨w.heap.size, 7, none⟩) hw0).trans x7, (HBw1.out.cell (p := ⟨w.heap.size, 8, none⟩) hw0).trans x8, (HBw1.out.cell (p := ⟨VB, 1, none⟩) hVB).trans v1, (HBw1.out.cell (p := ⟨b, off + k, none⟩) hbl).trans q0⟩
        clear hK K
        try simp only [Act.put, List.getElem_toArray, List.getElem_cons_succ, List.getElem_cons_zero, List.setIfInBounds_toArray, List.set_cons_zero, List.set_cons_succ]
        refine tkX 8 (h := ?_)
        refine tkX 9 (h := ?_)
        refine tkX 10 (h := ?_)
        refine tkX 11 (h := ?_)
        refine tkX 12 (h := ?_)
        (simp only [Act.put, List.getElem_toArray, List.getElem_cons_succ, List.getElem_cons_zero, List.setIfInBounds_toArray, List.set_cons_zero, List.set_cons_succ])
        refine wpAnyH_done (by kernel_rfl) ?_ _
        clear hHeld hHeld1
        go_wp2_with fail
        go_meet
        exact ⟨HO9.out, HBw1.out⟩
      case rest =>
        obtain ⟨hown9, hb9⟩ := hcut
        obtain ⟨a9, c9, rfl⟩ := own4_len hown9
        have HO9 := hidd hown9
        have HB9 := hidd hb9
        clear hown9 hb9 v1 q0 x1 x2 x3 x4 x5 x6 x7 x8 HCat
        go_wp2_with fail
        generalize wr = wo at *
        go_loopw [11] (fun jv wx => ∃ j : Nat, j ≤ L.length ∧ jv = .int .i64 (j : Int) ∧ wx.ownsRow wo.heap.size 63 4 (.slice a9 L.length c9) L.length (toksCells (mixT B L j)) ∧ Below wo.heap.size wo wx) (fun jv _ => L.length - (intOf jv).toNat)
        case atStart => exact ⟨0, Nat.zero_le _, rfl, HO9.out, HB9.out⟩
        case round =>
          obtain ⟨j, hj, rfl, hown, hby⟩ := hrel
          have HAo := hidd hown
          have HAb := hidd hby
          clear hown hby HO9 HB9
          by_cases hjl : j < L.length
          · have hjz : (j : Int) < (L.length : Int) := by omega
            obtain ⟨g9, rfl⟩ : ∃ g9, a9 = some ⟨g9, 0, none⟩ := by
              rcases own4_cases HAo.out with ⟨h, hz⟩ | ⟨g, cap, h, _, _⟩
              · omega
              · cases h; exact ⟨g, rfl⟩
            have hps := HPs.out j
            have hcell := HAo.out.cellAt (j * 4 + 1) (by omega)
            have hfz := HAo.out.frozenAt (j * 4 + 1)
            have hg9 : wo.heap.size ≤ g9 := own4_block HAo.out g9 rfl
            rw [tk_at _ j 1 (by rw [mixT_len]; exact hjl) (by omega), show (mixT B L j)[j]'(by rw [mixT_len]; exact hjl) = L.getD j tk0 by rw [← mixT_get B L hjl, List.getD_eq_getElem?_getD, List.getElem?_eq_getElem (by rw [mixT_len]; exact hjl), Option.getD_some]] at hcell
            have HSt : Hid ((toksCells (mixT B L j)).set (j * 4 + 1) (.int .i64 (((L.getD j tk0).2.1 + B : Nat) : Int)) = toksCells (mixT B L (j + 1))) := by
              show _ = _
              rw [toksCells_pos _ _ _ (by rw [mixT_len]; exact hjl), mixT_get B L hjl, mixT_set B L hjl]
            have HSo := hidd (own4_set HAo.out (j * 4 + 1) (.int .i64 (((L.getD j tk0).2.1 + B : Nat) : Int)) (by omega))
            rw [HSt.out] at HSo
            clear HSt
            generalize L.getD j tk0 = y at *
            obtain ⟨ty, p0, p1, p2⟩ := y
            have hcell2 : wr.cell? ⟨g9, j * 4 + 1, none⟩ = some (.int .i64 (p0 : Int)) := hcell
            clear hcell
            dsimp only at hps HSo
            have HBn : Hid (Below wo.heap.size wo (wr.setCell ⟨g9, j * 4 + 1, none⟩ (.int .i64 ((p0 + B : Nat) : Int)))) := HAb.out.setCell hg9 _
            have hwrap : IntKind.i64.wrap ((p0 : Int) + (B : Int)) = ((p0 + B : Nat) : Int) := by rw [IntWalk.i64_in _ (by omega)]; push_cast; rfl
            go_wp2_with fail
            go_roundw
            case rel => exact ⟨j + 1, by omega, by go_num, HSo.out, HBn.out⟩
            case measure => simp [intOf]; omega
          · have hjz : ¬ (j : Int) < (L.length : Int) := by omega
            have HAf := HAo.out
            rw [mixT_end B L hjl] at HAf
            have HO5 := hidd HAf
            have HOx := hidd (own4_below HO.out HAb.out)
            have HBx := hidd (HBl.out.trans (HAb.out.mono HBl.out.size))
            have hxz := HBx.out.size
            have hslen := shiftTk_len B L
            have HApp : Hid (∀ (W : World) (v : Value), W.ownsRow w3.heap.size 63 4 v (A ++ shiftTk B L).length (toksCells (A ++ shiftTk B L)) → Below w3.heap.size w3 W → True) := fun _ _ _ _ => trivial
            clear HAf HAo HAb HO HApp
            go_upto_region 14 with fail
            go_cut [6] (fun v wy => wy.ownsRow w3.heap.size 63 4 v (A ++ shiftTk B L).length (toksCells (A ++ shiftTk B L)) ∧ Below w3.heap.size w3 wy)
            case first =>
              rcases own4_cases HO5.out with ⟨hnil, hz⟩ | ⟨g9, cap9, hv9, hb9, hl9⟩
              · obtain rfl : L = [] := List.length_eq_zero_iff.1 hz
                have e9 : a9 = none ∧ c9 = 0 := by simpa using hnil
                obtain ⟨rfl, rfl⟩ := e9
                have hap : ∀ ty, (Builtin.append_ #[42, 42] ty #[u6, .slice none 0 0]).run Tryz.prog wr = .ok u6 wr := fun ty => run_append_owned_none wr w3.heap.size _ ty 63 i0 4 Tryz.underlying42 hi0 u6 _ _ HOx.out
                have HR : Hid (A ++ shiftTk B [] = A) := by show _ = _; rw [shiftTk, List.map_nil, List.append_nil]
                have RR : Hid (wr.ownsRow w3.heap.size 63 4 u6 (A ++ shiftTk B []).length (toksCells (A ++ shiftTk B [])) ∧ Below w3.heap.size w3 wr) := by show _ ∧ _; rw [HR.out]; exact ⟨HOx.out, HBx.out⟩
                clear HR
                have Hap := hidd hap
                clear hap
                go_wp2_with (at_builtin; refine wpList_append_none rfl _ _ 42 rfl u6 rfl rfl Hap.out ?_)
                go_meet
                exact RR.out
              · obtain ⟨rfl, rfl⟩ : a9 = some ⟨g9, 0, none⟩ ∧ c9 = cap9 := by simpa using hv9
                have HOn := hidd HO5.out.cellAt
                go_wp2_with (at_builtin; refine wpList_append_own_at _ rfl _ _ 42 rfl w3.heap.size 63 i0 (.agg #[.string ⟨#[]⟩, .int .i64 0, .int .i64 0, .int .i64 0]) 4 40 Tryz.underlying42 hi0 hz0 hz1 hz2 rfl (by decide) _ _ _ rfl HOx.out ⟨g9, 0, none⟩ L.length c9 (toksCells (shiftTk B L)) rfl ?c0 ?c1 ?c2 ?c3 ?c4 ?c5 ?_)
                case c0 => rw [toksCells_len, hslen]
                case c1 =>
                  intro q u hq
                  have hql : q < (toksCells (shiftTk B L)).length := (List.getElem?_eq_some_iff.1 hq).1
                  rw [toksCells_len, hslen] at hql
                  exact (HOn.out q hql).trans hq
                case c2 => exact toks_one _
                case c3 => unfold maxLen; omega
                case c4 => omega
                intro v' w6 hown' hgrow hne hat
                have RR : Hid (w6.ownsRow w3.heap.size 63 4 v' (A ++ shiftTk B L).length (toksCells (A ++ shiftTk B L)) ∧ Below w3.heap.size w3 w6) := by
                  refine ⟨?_, HBx.out.grown hgrow hxz (own4_block HOx.out)⟩
                  rw [List.length_append, hslen, toksCells_app]
                  exact hown'
                clear hown' hgrow hne hat
                go_wp2_with fail
                go_meet
                exact RR.out
            case rest =>
              obtain ⟨hown6, hb6⟩ := hcut
              have HO6 := hidd hown6
              have HB6 := hidd hb6
              have v6 : wc.cell? ⟨VB, 1, none⟩ = some (.slice (some ⟨b, off, none⟩) tx.length ct) := blkc (blko HV3.out hb6) 1
              have q6 : wc.cell? ⟨b, off + k, none⟩ = some (.string (bs t)) := (hb6.cell (p := ⟨b, off + k, none⟩) hbb).trans HQ3.out
              clear hown6 hb6 HOx HO5 HBx
              generalize A ++ shiftTk B L = A1 at *
              go_wp2_with fail
              refine (HCbt.out _).mono ?_
              rintro e w7 ⟨v7, rfl, hown7, hb7⟩
              obtain ⟨a7, c7, rfl⟩ := own4_len hown7
              have HO7 := hidd (own4_below HO6.out hb7)
              have HB7 := hidd (HB6.out.trans (hb7.mono HB6.out.size))
              clear hown7 hb7 HO6 HB6 v6 q6
              dsimp only
              go_wp2_with fail
              go_roundw
              case rel => exact ⟨k + 1, by omega, by go_num, by rw [HE.out]; go_num, by rw [HE.out]; exact HO7.out, HB7.out⟩
              case measure => simp [intOf]; omega
    · have hkz : ¬ (k : Int) < (tx.length : Int) := by omega
      have e : k = tx.length := by omega
      subst e
      go_wp2_with fail
      go_ret
      exact ⟨_, rfl, ownG_mono HO.out HB3.out.size, HB.out⟩
end Go.Proofs.YtgoklapafidpkaaGreatDoor

namespace Go.Proofs.YtgoklapafidpkaaGreatDoor
open Go Go.RowKit
set_option linter.unusedVariables false
set_option maxRecDepth 100000

set_option maxHeartbeats 4000000 in
theorem specId_any (s : ByteArray) (w : World) (hs : s.size ≤ 1048576) :
    Calls Tryz.prog 65 #[.string s] w fun e w' => e = .returned (.bool (idV (lst s))) ∧ w' = w := by
  have hll := lst_len s
  go_enter Tryz.func65, Tryz.ntmps65
  go_wp2_with fail
  go_loopw [3] (fun i wr => ∃ k : Nat, k ≤ s.size ∧ i = .int .i64 k ∧ ((lst s).take k).all idC = true ∧ wr = w) (fun i _ => s.size - (intOf i).toNat)
  case atStart => exact ⟨0, Nat.zero_le _, rfl, rfl, rfl⟩
  case round =>
    obtain ⟨k, hk, rfl, hall, hww⟩ := hrel
    have hww' := hww.symm
    subst hww'
    clear hww
    have HA := hidd hall
    clear hall
    by_cases hlt : k < s.size
    · have hkz : (k : Int) < (s.size : Int) := by omega
      have hkl : k < (lst s).length := by rw [lst_len]; exact hlt
      have HG := hidd (get_listN s k hlt)
      obtain ⟨z, hz⟩ : ∃ z : Int, ((s[k]'hlt).toNat : Int) = z := ⟨_, rfl⟩
      have HZ : Hid (idC ((lst s).getD k 0) = (decide (33 ≤ z) && decide (z ≤ 126))) := by show _ = _; rw [idC, ← HG.out, hz]
      clear HG
      by_cases h1 : z < 33
      · have HR : Hid (idV (lst s) = false) := by
          show _ = _
          rw [idV, all_notC idC _ hkl (by rw [HZ.out, decide_eq_false (p := (33 : Int) ≤ z) (by omega)]; rfl)]
          simp
        clear HZ
        go_wp2_with fail
        go_ret
        rw [HR.out]
        exact ⟨rfl, rfl⟩
      by_cases h2 : z > 126
      · have HR : Hid (idV (lst s) = false) := by
          show _ = _
          rw [idV, all_notC idC _ hkl (by rw [HZ.out, decide_eq_false (p := z ≤ 126) (by omega)]; simp)]
          simp
        clear HZ
        go_wp2_with fail
        go_ret
        rw [HR.out]
        exact ⟨rfl, rfl⟩
      have HN : Hid (((lst s).take (k + 1)).all idC = true) := all_takeC _ _ hkl HA.out (by rw [HZ.out, decide_eq_true (p := (33 : Int) ≤ z) (by omega), decide_eq_true (p := z ≤ 126) (by omega)]; rfl)
      clear HZ
      go_wp2_with fail
      go_roundw
      case rel => exact ⟨k + 1, by omega, by go_num, HN.out, by first | trivial | rfl⟩
      case measure => simp [intOf]; omega
    · have hkz : ¬ (k : Int) < (s.size : Int) := by omega
      have HR : Hid (idV (lst s) = (decide (1 ≤ s.size) && decide (s.size ≤ 30))) := by
        show _ = _
        have := HA.out
        rw [List.take_of_length_le (by rw [lst_len]; omega)] at this
        rw [idV, this, hll, Bool.and_true]
      by_cases h1 : 1 ≤ s.size
      · by_cases h2 : s.size ≤ 30
        · have z1 : (1 : Int) ≤ (s.size : Int) := by omega
          have z2 : (s.size : Int) ≤ 30 := by omega
          rw [decide_eq_true h1, decide_eq_true h2] at HR
          go_wp2_with fail
          go_ret
          rw [HR.out]
          exact ⟨rfl, rfl⟩
        · have z1 : (1 : Int) ≤ (s.size : Int) := by omega
          have z2 : ¬ (s.size : Int) ≤ 30 := by omega
          rw [decide_eq_true h1, decide_eq_false h2] at HR
          go_wp2_with fail
          go_ret
          rw [HR.out]
          exact ⟨rfl, rfl⟩
      · have z1 : ¬ (1 : Int) ≤ (s.size : Int) := by omega
        rw [decide_eq_false h1, Bool.false_and] at HR
        go_wp2_with fail
        go_ret
        rw [HR.out]
        exact ⟨rfl, rfl⟩
set_option maxHeartbeats 4000000 in
theorem specField_any (a : Option Addr) (cap : Nat) (l : List Fd) (n : List UInt8) (w : World) (hn : l.length ≤ 1048576) (hS : HoldF w a l) :
    Calls Tryz.prog 38 #[.agg #[.slice a l.length cap], .string (bs n)] w fun e w' => e = .returned (.int .i64 (fldZ l n)) ∧ Below w.heap.size w w' := by
  have HS := hidd hS
  clear hS
  have HBa := hidd ((Below.refl w.heap.size w).alloc (Nat.le_refl _) (.cells #[.slice a l.length cap] 33))
  have HX := hidd (heap_alloc_new w (.cells #[.slice a l.length cap] 33))
  go_enter Tryz.func38, Tryz.ntmps38
  go_wp2_with fail
  obtain ⟨wa, hwa⟩ : ∃ wa, w.alloc (.cells #[.slice a l.length cap] 33) = wa := ⟨_, rfl⟩
  rw [hwa] at HBa HX
  try rw [hwa]
  clear hwa
  have x0 : wa.cell? ⟨w.heap.size, 0, none⟩ = some (.slice a l.length cap) := blkc HX.out 0
  go_loopw [5] (fun i wr => ∃ k : Nat, k ≤ l.length ∧ i = .int .i64 k ∧ (∀ j, j < k → ((l.getD j fd0).name == n) = false) ∧ wr = wa) (fun i _ => l.length - (intOf i).toNat)
  case atStart => exact ⟨0, Nat.zero_le _, rfl, fun j hj => absurd hj (by omega), rfl⟩
  case round =>
    obtain ⟨k, hk, rfl, hno, hww⟩ := hrel
    have hww' := hww.symm
    subst hww'
    clear hww
    have HN := hidd hno
    clear hno
    by_cases hlt : k < l.length
    · have hkz : (k : Int) < (l.length : Int) := by omega
      obtain ⟨b, off, rfl, hbl, hc⟩ := (HS.out.below HBa.out).resolve_left (fun h => by rw [h] at hlt; simp at hlt)
      have q0 := (hc k hlt).1
      clear hc
      obtain ⟨f, hf⟩ : ∃ f, (l.getD k fd0).name = f := ⟨_, rfl⟩
      rw [hf] at q0
      have HF := hidd hf
      clear hf
      cases hp : (f == n) with
      | false =>
        have HPn : Hid (∀ j, j < k + 1 → ((l.getD j fd0).name == n) = false) := fun j hj => by
          by_cases h : j < k
          · exact HN.out j h
          · have : j = k := by omega
            subst this
            rw [HF.out]; exact hp
        have hpb : ((bs f).toList == (bs n).toList) = false := by rw [bs_toList, bs_toList]; exact hp
        clear hp
        go_wp2_with fail
        go_roundw
        case rel => exact ⟨k + 1, by omega, by go_num, HPn.out, by first | trivial | rfl⟩
        case measure => simp [intOf]; omega
      | true =>
        have HR : Hid (fldZ l n = (k : Int)) := by
          show _ = _
          have h2 : fldIx l n = k := by
            unfold fldIx
            rw [List.findIdx_eq hlt]
            have e : ∀ j (hj : j < l.length), l.getD j fd0 = l[j] := fun j hj => by simp [hj]
            refine ⟨by rw [← e k hlt, HF.out]; exact hp, fun j hj => ?_⟩
            rw [← e j (by omega)]; exact HN.out j hj
          rw [fldZ, h2, if_pos hlt]
        have hpb : ((bs f).toList == (bs n).toList) = true := by rw [bs_toList, bs_toList]; exact hp
        clear hp
        go_wp2_with fail
        go_ret
        rw [HR.out]
        exact ⟨rfl, HBa.out⟩
    · have hkz : ¬ (k : Int) < (l.length : Int) := by omega
      have HR : Hid (fldZ l n = -1) := by
        show _ = _
        rw [fldZ, if_neg]
        intro h
        have := HN.out (fldIx l n) (by omega)
        rw [fldIx_mem h] at this
        simp at this
      go_wp2_with fail
      go_ret
      rw [HR.out]
      exact ⟨rfl, HBa.out⟩
set_option maxHeartbeats 4000000 in
theorem specNumbers_any (f : List UInt8) (at_ an : Option Addr) (ct cn : Nat) (tx : List (List UInt8)) (nz : List Int) (w : World) (hxl : tx.length ≤ 1048576) (hnl : nz.length ≤ 1048576) (hZ : HoldZ w an nz) :
    Calls Tryz.prog 66 #[.agg #[.string ⟨f.toArray⟩, .slice at_ tx.length ct, .slice an nz.length cn]] w fun e w' => e = .returned (.bool (nzFit (f, tx, nz))) ∧ Below w.heap.size w w' := by
  have HZ := hidd hZ
  clear hZ
  have HBa := hidd ((Below.refl w.heap.size w).alloc (Nat.le_refl _) (.cells #[.string ⟨f.toArray⟩, .slice at_ tx.length ct, .slice an nz.length cn] 60))
  have HX := hidd (heap_alloc_new w (.cells #[.string ⟨f.toArray⟩, .slice at_ tx.length ct, .slice an nz.length cn] 60))
  obtain ⟨R, hR⟩ : ∃ R, nzFit (f, tx, nz) = R := ⟨_, rfl⟩
  rw [hR]
  rw [nzFit] at hR
  dsimp only at hR
  have HR := hidd hR
  clear hR
  go_enter Tryz.func66, Tryz.ntmps66
  by_cases h1 : 0 < tx.length
  · have z1 : (0 : Int) < (tx.length : Int) := by omega
    rw [decide_eq_false (p := tx.length = 0) (by omega)] at HR
    go_wp2_with fail
    go_ret
    rw [← HR.out]
    exact ⟨by simp, HBa.out⟩
  have z1 : ¬ (0 : Int) < (tx.length : Int) := by omega
  rw [decide_eq_true (p := tx.length = 0) (by omega)] at HR
  by_cases h2 : nz.length < 1
  · have z2 : (nz.length : Int) < 1 := by omega
    rw [decide_eq_false (p := 1 ≤ nz.length) (by omega)] at HR
    go_wp2_with fail
    go_ret
    rw [← HR.out]
    exact ⟨by simp, HBa.out⟩
  have z2 : ¬ (nz.length : Int) < 1 := by omega
  rw [decide_eq_true (p := 1 ≤ nz.length) (by omega)] at HR
  by_cases h3 : 16 < nz.length
  · have z3 : (16 : Int) < (nz.length : Int) := by omega
    rw [decide_eq_false (p := nz.length ≤ 16) (by omega)] at HR
    go_wp2_with fail
    go_ret
    rw [← HR.out]
    exact ⟨by simp, HBa.out⟩
  have z3 : ¬ (16 : Int) < (nz.length : Int) := by omega
  rw [decide_eq_true (p := nz.length ≤ 16) (by omega)] at HR
  go_wp2_with fail
  obtain ⟨wa, hwa⟩ : ∃ wa, w.alloc (.cells #[.string ⟨f.toArray⟩, .slice at_ tx.length ct, .slice an nz.length cn] 60) = wa := ⟨_, rfl⟩
  rw [hwa] at HBa HX
  try rw [hwa]
  clear hwa
  have x2 : wa.cell? ⟨w.heap.size, 2, none⟩ = some (.slice an nz.length cn) := blkc HX.out 2
  go_loopw [3] (fun i wr => ∃ k : Nat, k ≤ nz.length ∧ i = .int .i64 k ∧ (nz.take k).all nuOK = true ∧ wr = wa) (fun i _ => nz.length - (intOf i).toNat)
  case atStart => exact ⟨0, Nat.zero_le _, rfl, rfl, rfl⟩
  case round =>
    obtain ⟨k, hk, rfl, hall, hww⟩ := hrel
    have hww' := hww.symm
    subst hww'
    clear hww
    have HA := hidd hall
    clear hall
    by_cases hlt : k < nz.length
    · have hkz : (k : Int) < (nz.length : Int) := by omega
      obtain ⟨b, off, rfl, hbl, hc⟩ := (HZ.out.below HBa.out).resolve_left (fun h => by rw [h] at hlt; simp at hlt)
      have q0 := hc k hlt
      clear hc
      obtain ⟨z, hz⟩ : ∃ z, nz.getD k 0 = z := ⟨_, rfl⟩
      rw [hz] at q0
      have Hz := hidd hz
      clear hz
      by_cases p1 : z < -1000000000000
      · have HO : Hid (nz.all nuOK = false) := all_not nuOK nz 0 hlt (by rw [Hz.out, nuOK]; exact decide_eq_false (by omega))
        go_wp2_with fail
        go_ret
        rw [← HR.out, HO.out]
        exact ⟨by simp, HBa.out⟩
      by_cases p2 : z > 1000000000000
      · have HO : Hid (nz.all nuOK = false) := all_not nuOK nz 0 hlt (by rw [Hz.out, nuOK]; exact decide_eq_false (by omega))
        go_wp2_with fail
        go_ret
        rw [← HR.out, HO.out]
        exact ⟨by simp, HBa.out⟩
      have HA2 := hidd (all_take nuOK nz 0 hlt HA.out (by rw [Hz.out, nuOK]; exact decide_eq_true (by omega)))
      go_wp2_with fail
      go_roundw
      case rel => exact ⟨k + 1, by omega, by go_num, HA2.out, by first | trivial | rfl⟩
      case measure => simp [intOf]; omega
    · have hkz : ¬ (k : Int) < (nz.length : Int) := by omega
      have HAx : Hid (nz.all nuOK = true) := by show _ = _; have := HA.out; rwa [show k = nz.length by omega, List.take_length] at this
      go_wp2_with fail
      go_ret
      rw [← HR.out, HAx.out]
      exact ⟨by simp, HBa.out⟩
end Go.Proofs.YtgoklapafidpkaaGreatDoor
