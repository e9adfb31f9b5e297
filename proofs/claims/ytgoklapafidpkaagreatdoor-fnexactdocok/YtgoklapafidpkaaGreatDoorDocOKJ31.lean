import Derived.Test.YtgoklapafidpkaaGreatDoorDocOKJ25
import Derived.Test.YtgoklapafidpkaaGreatDoorDocOKJ30
import Derived.Test.YtgoklapafidpkaaGreatDoorDocOKJ11
import Derived.Deep.AppendLies
import Derived.Deep.RegionLaw
namespace Go.Proofs.YtgoklapafidpkaaGreatDoor
open Go Go.RowKit
set_option linter.unusedVariables false
set_option linter.unusedSimpArgs false

/-- The step of the synonyms. -/
def synStep (syns : List (List UInt8 × List UInt8)) (l : List Tk) : List Tk := l.flatMap fun k => withT k (rawOf syns k.1)
theorem synStep_snoc (syns : List (List UInt8 × List UInt8)) (l : List Tk) (k : Nat) (h : k < l.length) : synStep syns (l.take (k + 1)) = synStep syns (l.take k) ++ withT (l.getD k tk0) (rawOf syns (l.getD k tk0).1) := by
  rw [synStep, List.take_succ_eq_append_getElem h, List.flatMap_append, List.getD_eq_getElem?_getD, List.getElem?_eq_getElem h]
  simp [synStep]
set_option maxHeartbeats 8000000 in
set_option maxRecDepth 100000 in
theorem withSyn_any (fo st ph : Bool) (aS aY aT : Option Addr) (cS cY cT nS : Nat) (syns : List (List UInt8 × List UInt8)) (lo hi : Int) (l : List Tk) (w : World) (hY : HoldY w aY syns) (hT : HoldT w aT l) (hn : l.length ≤ 8192) (hnY : syns.length ≤ 64) (zY : ∀ k, k < syns.length → (syns.getD k ([], [])).2.length ≤ 64) :
    Calls Tryz.prog 173 #[.agg #[.bool fo, .bool st, .bool ph, .slice aS nS cS, .slice aY syns.length cY, .int .i64 lo, .int .i64 hi], .slice aT l.length cT] w fun e w' => ∃ v, e = .returned (.tuple #[v, .int .i64 0]) ∧ w'.ownsRow w.heap.size 63 4 v (synStep syns l).length (toksCells (synStep syns l)) ∧ Below w.heap.size w w' := by
  obtain ⟨i0, hi0, hz0, hz1, hz2⟩ := info_parts Tryz.infoTok
  have HY := hidd hY
  have HT := hidd hT
  clear hY hT
  go_enter Tryz.func173, Tryz.ntmps173
  have HBa : Hid (Below w.heap.size w (w.alloc (.cells #[.bool fo, .bool st, .bool ph, .slice aS nS cS, .slice aY syns.length cY, .int .i64 lo, .int .i64 hi] 77))) := (Below.refl _ _).alloc (Nat.le_refl _) _
  have hblk : (w.alloc (.cells #[.bool fo, .bool st, .bool ph, .slice aS nS cS, .slice aY syns.length cY, .int .i64 lo, .int .i64 hi] 77)).heap[w.heap.size]? = some (.cells #[.bool fo, .bool st, .bool ph, .slice aS nS cS, .slice aY syns.length cY, .int .i64 lo, .int .i64 hi] 77) := heap_alloc_new _ _
  have Hblk := hidd hblk
  clear hblk
  go_wp2_with fail
  have HYa := hidd (HY.out.below HBa.out)
  have HTa := hidd (HT.out.below HBa.out)
  generalize w.alloc (.cells #[.bool fo, .bool st, .bool ph, .slice aS nS cS, .slice aY syns.length cY, .int .i64 lo, .int .i64 hi] 77) = wa at *
  generalize hB : w.heap.size = B at *
  have hza := HBa.out.size
  clear HY HT
  go_loopw [6, 13] (fun v i wx => ∃ k : Nat, k ≤ l.length ∧ i = .int .i64 k ∧ wx.ownsRow wa.heap.size 63 4 v (synStep syns (l.take k)).length (toksCells (synStep syns (l.take k))) ∧ (synStep syns (l.take k)).length ≤ k * 65 ∧ Below wa.heap.size wa wx) (fun _ i _ => l.length - (intOf i).toNat)
  case atStart => exact ⟨0, by omega, rfl, World.ownsRow_nil _ _ _ _, by simp [synStep], Below.refl _ _⟩
  case round =>
    obtain ⟨k, hk, rfl, hown, hal, hbx⟩ := hrel
    have HO := hidd hown
    have HBx := hidd hbx
    have HKx := hidd (blko Hblk.out hbx)
    have HYx := hidd (HYa.out.below hbx)
    have HTx := hidd (HTa.out.below hbx)
    have hwx := hbx.size
    clear hown hbx
    by_cases hlt : k < l.length
    · have HSn := hidd (synStep_snoc syns l k hlt)
      obtain ⟨b, off, rfl, hbl, hc⟩ := HTx.out.resolve_left (fun h => by rw [h] at hlt; simp at hlt)
      obtain ⟨t0, t1, t2, t3⟩ := hc k hlt
      clear hc
      obtain ⟨tk, htk⟩ : ∃ tk, l.getD k tk0 = tk := ⟨_, rfl⟩
      rw [htk] at t0 t1 t2 t3 HSn
      clear htk
      obtain ⟨tx, p0, p1, p2⟩ := tk
      dsimp only at t0 t1 t2 t3 HSn
      generalize synStep syns (l.take k) = A at *
      have q4 : wr.cell? ⟨B, 4, none⟩ = some (.slice aY syns.length cY) := blkc HKx.out 4
      go_upto_region 6 with (at_builtin; refine wpList_append_own_at _ rfl _ _ 42 rfl wa.heap.size 63 i0 (.agg #[.string ⟨#[]⟩, .int .i64 0, .int .i64 0, .int .i64 0]) 4 40 Tryz.underlying42 hi0 hz0 hz1 hz2 rfl (by decide) _ _ _ rfl ((HO.out.alloc _).alloc _) ⟨wr.heap.size + 1, 0, none⟩ 1 1 [.string (bs tx), .int .i64 p0, .int .i64 p1, .int .i64 p2] rfl rfl ?c1 ?c2 ?c3 ?c4 ?c5 ?_)
      case c1 =>
        intro q u hq
        match q, hq with
        | 0, hq => simp at hq; subst hq; simp [Addr.add]
        | 1, hq => simp at hq; subst hq; simp [Addr.add]
        | 2, hq => simp at hq; subst hq; simp [Addr.add]
        | 3, hq => simp at hq; subst hq; simp [Addr.add]
        | q + 4, hq => simp at hq
      case c2 =>
        intro u hu
        simp at hu
        rcases hu with rfl | rfl | rfl | rfl <;> rfl
      case c3 => unfold maxLen; omega
      case c4 => omega
      case c5 => simp; omega
      intro v' w6 hown' hgrow hne hat
      have hnb : some wr.heap.size ≠ v'.ownBlock := by
        rcases hat with h | h
        · rw [h]; exact own4_ne HO.out (a := some ⟨wr.heap.size, 0, none⟩) (fun b off e => by cases e; exact Nat.le_refl _) _ _ rfl
        · rw [h]; intro e; have := Option.some.inj e; first | omega | (simp at this)
      have hbox : w6.heap[wr.heap.size]? = some (.cells #[.string (bs tx), .int .i64 p0, .int .i64 p1, .int .i64 p2] 63) := by
        rw [hgrow.block wr.heap.size (by simp <;> omega) (own4_ne HO.out (a := some ⟨wr.heap.size, 0, none⟩) (fun b off e => by cases e; exact Nat.le_refl _) _ _ rfl)]
        rw [Below.heap_alloc _ _ _ (by simp <;> omega)]
        exact heap_alloc_new _ _
      have RR : Hid (w6.ownsRow wa.heap.size 63 4 v' (A ++ [(tx, p0, p1, p2)]).length (toksCells (A ++ [(tx, p0, p1, p2)])) ∧ Below wa.heap.size wa w6) := by
        refine ⟨?_, ((HBx.out.alloc hwx _).alloc (by simp; omega) _).grown hgrow (by simp; omega) (own4_block HO.out)⟩
        rw [toksCells_snoc, List.length_append]
        exact hown'
      have Hnb := hidd hnb
      have Hbox := hidd hbox
      clear hown' hgrow hne hat hnb hbox t0 t1 t2 t3 q4
      have q4 : w6.cell? ⟨B, 4, none⟩ = some (.slice aY syns.length cY) := blkc (blko Hblk.out RR.out.2) 4
      go_wp2_with fail
      generalize hTB : wr.heap.size = TB at *
      go_loopw [6, 24] (fun v i wx => ∃ j : Nat, j ≤ syns.length ∧ i = .int .i64 j ∧ wx.ownsRow wa.heap.size 63 4 v (A ++ withT (tx, p0, p1, p2) (rawOf (syns.take j) tx)).length (toksCells (A ++ withT (tx, p0, p1, p2) (rawOf (syns.take j) tx))) ∧ wx.heap[TB]? = some (.cells #[.string (bs tx), .int .i64 p0, .int .i64 p1, .int .i64 p2] 63) ∧ some TB ≠ v.ownBlock ∧ Below wa.heap.size wa wx) (fun _ i _ => syns.length - (intOf i).toNat)
      case atStart => exact ⟨0, by omega, rfl, RR.out.1, Hbox.out, Hnb.out, RR.out.2⟩
      case round =>
        obtain ⟨j, hj, rfl, hown, hbox, hnb, hby⟩ := hrel
        have HAo := hidd hown
        have HAx := hidd hbox
        have HAn := hidd hnb
        have HAb := hidd hby
        have hlr := synsOf_len (syns.take j) tx
        rw [List.length_take] at hlr
        have har : (A ++ withT (tx, p0, p1, p2) (rawOf (syns.take j) tx)).length ≤ k * 65 + 65 := by
          rw [List.length_append, withT_len, rawOf, List.length_cons]; omega
        clear hown hbox hnb hby RR Hbox Hnb q4 HO HBx HKx HYx HTx
        by_cases hjl : j < syns.length
        · obtain ⟨b2, off2, rfl, hbl2, hc2⟩ := HYa.out.resolve_left (fun h => by rw [h] at hjl; simp at hjl)
          have g1 := (HAb.out.cell (p := ⟨b2, off2 + j * 2, none⟩) hbl2).trans (hc2 j hjl).1
          have g2 := (HAb.out.cell (p := ⟨b2, off2 + j * 2 + 1, none⟩) hbl2).trans (hc2 j hjl).2
          have HSs := hidd (synsOf_snoc syns j tx hjl)
          have HE := hidd (beq_txt (syns.getD j ([], [])).1 tx)
          have huz := zY j hjl
          clear hc2
          generalize (syns.getD j ([], [])).1 = f at *
          generalize (syns.getD j ([], [])).2 = u at *
          have HBs : Hid (Below wr.heap.size wr (wr.alloc (.cells #[.string (bs f), .string (bs u)] 156))) := (Below.refl _ _).alloc (Nat.le_refl _) _
          have HXs := hidd (blko HAx.out HBs.out)
          have e0 : (wr.alloc (.cells #[.string (bs f), .string (bs u)] 156)).cell? ⟨TB, 0, none⟩ = some (.string (bs tx)) := blkc HXs.out 0
          have hwr := HAb.out.size
          go_upto_block 3 with fail
          go_cut [6] (fun c wy => wy.ownsRow wa.heap.size 63 4 c (A ++ withT (tx, p0, p1, p2) (rawOf (syns.take (j + 1)) tx)).length (toksCells (A ++ withT (tx, p0, p1, p2) (rawOf (syns.take (j + 1)) tx))) ∧ wy.heap[TB]? = some (.cells #[.string (bs tx), .int .i64 p0, .int .i64 p1, .int .i64 p2] 63) ∧ some TB ≠ c.ownBlock ∧ Below wa.heap.size wa wy)
          case first =>
            cases hf : (f == tx)
            · have he : ((bs f).toList == (bs tx).toList) = false := by rw [HE.out]; exact hf
              have HR : Hid (rawOf (syns.take (j + 1)) tx = rawOf (syns.take j) tx) := by show _ = _; rw [rawOf, HSs.out, hf]; rfl
              clear HE hf HSs
              go_wp2_with fail
              go_meet
              case rel => rw [HR.out]; exact ⟨HAo.out.alloc _, HXs.out, HAn.out, HAb.out.alloc hwr _⟩
            · have he : ((bs f).toList == (bs tx).toList) = true := by rw [HE.out]; exact hf
              have HR : Hid (A ++ withT (tx, p0, p1, p2) (rawOf (syns.take (j + 1)) tx) = (A ++ withT (tx, p0, p1, p2) (rawOf (syns.take j) tx)) ++ [(u, p0, p1, p2)]) := by
                show _ = _
                rw [rawOf, HSs.out, hf, if_pos rfl, ← List.cons_append, ← rawOf, withT, List.map_append, List.append_assoc]
                rfl
              clear HE hf HSs
              go_upto_region 10 with fail
              have hsb : (wr.alloc (.cells #[.string (bs f), .string (bs u)] 156)).heap[wr.heap.size]? = some (.cells #[.string (bs f), .string (bs u)] 156) := heap_alloc_new _ _
              have HSn : Hid (some wr.heap.size ≠ u6.ownBlock) := own4_ne HAo.out (a := some ⟨wr.heap.size, 0, none⟩) (fun b off e => by cases e; exact Nat.le_refl _) _ _ rfl
              have HAo8 := hidd (HAo.out.alloc (.cells #[.string (bs f), .string (bs u)] 156))
              have HAb8 := hidd (HAb.out.alloc hwr (.cells #[.string (bs f), .string (bs u)] 156))
              generalize hSB : wr.heap.size = SB at *
              generalize wr.alloc (.cells #[.string (bs f), .string (bs u)] 156) = w8 at *
              clear e0 HAo HAb HAx g1 g2
              have e0 : w8.cell? ⟨TB, 0, none⟩ = some (.string (bs tx)) := blkc HXs.out 0
              have e1 : w8.cell? ⟨TB, 1, none⟩ = some (.int .i64 p0) := blkc HXs.out 1
              have e2 : w8.cell? ⟨TB, 2, none⟩ = some (.int .i64 p1) := blkc HXs.out 2
              have e3 : w8.cell? ⟨TB, 3, none⟩ = some (.int .i64 p2) := blkc HXs.out 3
              have s1 : w8.cell? ⟨SB, 1, none⟩ = some (.string (bs u)) := blkc hsb 1
              have hsb2 := hidd hsb
              clear e0 e1 e2 e3 s1 hsb
              have HS1 : Hid (∀ W, Below w8.heap.size w8 W → (W.heap[TB]? = some (.cells #[.string (bs tx), .int .i64 p0, .int .i64 p1, .int .i64 p2] 63) ∧ W.heap[SB]? = some (.cells #[.string (bs f), .string (bs u)] 156))) := fun W hW => ⟨blko HXs.out hW, blko hsb2.out hW⟩
              have hB1 : Below w8.heap.size w8 w8.drew := below_drewN (Below.refl _ w8) 1
              refine wp_region_held (S := fun W' => W'.heap[TB]? = some (.cells #[.string (bs tx), .int .i64 p0, .int .i64 p1, .int .i64 p2] 63) ∧ W'.heap[SB]? = some (.cells #[.string (bs f), .string (bs u)] 156)) (by kernel_rfl) ?_
              try simp only [Act.put, List.getElem_toArray, List.getElem_cons_succ, List.getElem_cons_zero, List.setIfInBounds_toArray, List.set_cons_zero, List.set_cons_succ]
              refine wpAnyH_take (i := 0) (v := u6) rfl (by kernel_rfl) (by kernel_rfl) (by kernel_rfl) (fun _ _ _ h => h) (Or.inl ⟨by kernel_rfl, fun W hW => exec_move W _ _ _ rfl _ (by kernel_rfl)⟩) (HS1.out _ hB1) ?_
              try simp only [Act.put, List.getElem_toArray, List.getElem_cons_succ, List.getElem_cons_zero, List.setIfInBounds_toArray, List.set_cons_zero, List.set_cons_succ]
              refine wpAnyH_take (i := 1) (v := .agg #[.string (bs tx), .int .i64 p0, .int .i64 p1, .int .i64 p2]) rfl (by kernel_rfl) (by kernel_rfl) (by kernel_rfl) (fun _ _ _ h => h) (Or.inl ⟨by kernel_rfl, fun W hW => exec_loadTok W _ _ _ rfl TB 0 _ _ _ _ (by kernel_rfl) (blkc hW.1 0) (blkc hW.1 1) (blkc hW.1 2) (blkc hW.1 3)⟩) (HS1.out _ hB1) ?_
              try simp only [Act.put, List.getElem_toArray, List.getElem_cons_succ, List.getElem_cons_zero, List.setIfInBounds_toArray, List.set_cons_zero, List.set_cons_succ]
              refine wpAnyH_take (i := 2) (v := .pointer (some ⟨SB, 1, none⟩)) rfl (by kernel_rfl) (by kernel_rfl) (by kernel_rfl) (fun _ _ _ h => h) (Or.inl ⟨by kernel_rfl, fun W hW => exec_field W _ _ _ rfl SB (by kernel_rfl)⟩) (HS1.out _ hB1) ?_
              try simp only [Act.put, List.getElem_toArray, List.getElem_cons_succ, List.getElem_cons_zero, List.setIfInBounds_toArray, List.set_cons_zero, List.set_cons_succ]
              refine wpAnyH_take (i := 3) (v := .string (bs u)) rfl (by kernel_rfl) (by kernel_rfl) (by kernel_rfl) (fun _ _ _ h => h) (Or.inl ⟨by kernel_rfl, fun W hW => exec_loadText W _ _ _ rfl SB 1 _ (by kernel_rfl) (blkc hW.2 1)⟩) (HS1.out _ hB1) ?_
              try simp only [Act.put, List.getElem_toArray, List.getElem_cons_succ, List.getElem_cons_zero, List.setIfInBounds_toArray, List.set_cons_zero, List.set_cons_succ]
              refine wpAnyH_one 4 (by kernel_rfl) ?_
              refine wpOp_call 124 #[.string (bs u)] rfl (by kernel_rfl) (exec_call1 _ _ _ _ _ _ rfl _ (by kernel_rfl) (Tryz.call124 _ _)) ?_
              refine (clone_any (bs u) _ (by rw [bs_size]; omega)).mono ?_
              rintro e' w9 ⟨rfl, hb9⟩
              have hB9 : Below w8.heap.size w8 w9 := hB1.trans (hb9.mono hB1.size)
              refine ⟨HS1.out _ hB9, ?_⟩
              try simp only [Act.put, List.getElem_toArray, List.getElem_cons_succ, List.getElem_cons_zero, List.setIfInBounds_toArray, List.set_cons_zero, List.set_cons_succ]
              refine wpAnyH_one 5 (by kernel_rfl) ?_
              refine wpOp_call 151 #[.agg #[.string (bs tx), .int .i64 p0, .int .i64 p1, .int .i64 p2], .string (bs u)] rfl (by kernel_rfl) (exec_call2 _ _ _ _ _ _ _ _ rfl _ _ (by kernel_rfl) (by kernel_rfl) (Tryz.call151 _ _)) ?_
              refine (retold_any (bs tx) (bs u) p0 p1 p2 _).mono ?_
              rintro e' w10 ⟨rfl, hb10⟩
              have hB10 : Below w8.heap.size w8 w10 := hB9.trans (hb10.mono hB9.size)
              refine ⟨HS1.out _ hB10, ?_⟩
              try simp only [Act.put, List.getElem_toArray, List.getElem_cons_succ, List.getElem_cons_zero, List.setIfInBounds_toArray, List.set_cons_zero, List.set_cons_succ]
              refine wpAnyH_one 6 (by kernel_rfl) ?_
              refine wpOp_val (.slice (some ⟨w10.heap.size, 0, none⟩) 1 1) (w10.alloc (.cells #[.string (bs u), .int .i64 p0, .int .i64 p1, .int .i64 p2] 63)) rfl (by kernel_rfl) (exec_build _ _ _ _ rfl _ _ _ _ (by kernel_rfl)) ?_
              have hB11 := hB10.alloc hB10.size (.cells #[.string (bs u), .int .i64 p0, .int .i64 p1, .int .i64 p2] 63)
              refine ⟨HS1.out _ hB11, ?_⟩
              try simp only [Act.put, List.getElem_toArray, List.getElem_cons_succ, List.getElem_cons_zero, List.setIfInBounds_toArray, List.set_cons_zero, List.set_cons_succ]
              refine wpAnyH_one 7 (by kernel_rfl) ?_
              have HAo11 := (own4_below (own4_below HAo8.out hB10) ((Below.refl _ w10).alloc (Nat.le_refl _) (.cells #[.string (bs u), .int .i64 p0, .int .i64 p1, .int .i64 p2] 63)))
              refine wpOp_wp rfl (by kernel_rfl) (wp_append_lies _ (.tmp 33) (.tmp 39) 42 rfl wa.heap.size 63 i0 (.agg #[.string ⟨#[]⟩, .int .i64 0, .int .i64 0, .int .i64 0]) 4 40 Tryz.underlying42 hi0 hz0 hz1 hz2 rfl (by decide) u6 _ _ (by kernel_rfl) HAo11 ⟨w10.heap.size, 0, none⟩ 1 1 [.string (bs u), .int .i64 p0, .int .i64 p1, .int .i64 p2] (by kernel_rfl) rfl (World.news_of_block (heap_alloc_new w10 _)) (by intro v hv; simp at hv; rcases hv with rfl | rfl | rfl | rfl <;> rfl) (by omega) (by unfold maxLen; omega) (by omega) (by have := hB10.size; have := HAb8.out.size; simp; omega) _ rfl ?_)
              intro g6 cp6 w12 hown12 hgrow12 hat12 hlt12
              have hTBl : TB < (w10.alloc (.cells #[.string (bs u), .int .i64 p0, .int .i64 p1, .int .i64 p2] 63)).heap.size := (Array.getElem?_eq_some_iff.1 (HS1.out _ hB11).1).1
              have hSBl : SB < (w10.alloc (.cells #[.string (bs u), .int .i64 p0, .int .i64 p1, .int .i64 p2] 63)).heap.size := (Array.getElem?_eq_some_iff.1 (HS1.out _ hB11).2).1
              have hs12 := (hgrow12.block TB hTBl HAn.out).trans (HS1.out _ hB11).1
              have hs13 := (hgrow12.block SB hSBl HSn.out).trans (HS1.out _ hB11).2
              refine ⟨⟨hs12, hs13⟩, ?_⟩
              try simp only [Act.put, List.getElem_toArray, List.getElem_cons_succ, List.getElem_cons_zero, List.setIfInBounds_toArray, List.set_cons_zero, List.set_cons_succ]
              refine wpAnyH_one 8 (by kernel_rfl) ?_
              refine wpOp_val (.slice (some ⟨g6, 0, none⟩) ((A ++ withT (tx, p0, p1, p2) (rawOf (syns.take j) tx)).length + 1) cp6) w12 rfl (by kernel_rfl) (exec_assign _ _ _ _ rfl _ (by kernel_rfl)) ?_
              refine ⟨⟨hs12, hs13⟩, ?_⟩
              try simp only [Act.put, List.getElem_toArray, List.getElem_cons_succ, List.getElem_cons_zero, List.setIfInBounds_toArray, List.set_cons_zero, List.set_cons_succ]
              refine wpAnyH_done (by kernel_rfl) ?_ _
              have RR : Hid (w12.ownsRow wa.heap.size 63 4 (.slice (some ⟨g6, 0, none⟩) ((A ++ withT (tx, p0, p1, p2) (rawOf (syns.take j) tx)).length + 1) cp6) (A ++ withT (tx, p0, p1, p2) (rawOf (syns.take (j + 1)) tx)).length (toksCells (A ++ withT (tx, p0, p1, p2) (rawOf (syns.take (j + 1)) tx))) ∧ w12.heap[TB]? = some (.cells #[.string (bs tx), .int .i64 p0, .int .i64 p1, .int .i64 p2] 63) ∧ some TB ≠ (Value.slice (some ⟨g6, 0, none⟩) ((A ++ withT (tx, p0, p1, p2) (rawOf (syns.take j) tx)).length + 1) cp6).ownBlock ∧ Below wa.heap.size wa w12) := by
                refine ⟨?_, hs12, ?_, ?_⟩
                · rw [HR.out, toksCells_snoc, show ((A ++ withT (tx, p0, p1, p2) (rawOf (syns.take j) tx)) ++ [(u, p0, p1, p2)]).length = (A ++ withT (tx, p0, p1, p2) (rawOf (syns.take j) tx)).length + 1 from List.length_append]
                  exact hown12
                · rcases hat12 with h | h
                  · intro e
                    exact HAn.out (e.trans h.symm)
                  · intro e
                    have e' : TB = g6 := Option.some.inj e
                    omega
                · have h1 := HAb8.out.trans (hB11.mono HAb8.out.size)
                  exact h1.grown hgrow12 h1.size (own4_block HAo11)
              clear hs12 hs13 hown12 hgrow12 hat12 hlt12 hB9 hB10 hB11 hb9 hb10 HAo11 hTBl hSBl hB1
              generalize (A ++ withT (tx, p0, p1, p2) (rawOf (syns.take j) tx)).length + 1 = nn at *
              go_wp2_with fail
              go_meet
              case rel => exact RR.out
          case rest =>
            obtain ⟨h1, h2, h3, h4⟩ := hcut
            have RR : Hid (_ ∧ _ ∧ _ ∧ _) := ⟨h1, h2, h3, h4⟩
            clear h1 h2 h3 h4
            go_wp2_with fail
            go_roundw
            case rel => exact ⟨j + 1, by omega, by go_num, RR.out.1, RR.out.2.1, RR.out.2.2.1, RR.out.2.2.2⟩
            case measure => simp [intOf]; omega
        · have HE : Hid (synStep syns (l.take (k + 1)) = A ++ withT (tx, p0, p1, p2) (rawOf (syns.take j) tx)) := by
            show _ = _
            rw [HSn.out, List.take_of_length_le (by omega)]
          go_wp2_with fail
          go_roundw
          case rel => exact ⟨k + 1, by omega, by go_num, by rw [HE.out]; exact HAo.out, by rw [HE.out]; omega, HAb.out⟩
          case measure => simp [intOf]; omega
    · have HE : Hid (synStep syns (l.take k) = synStep syns l) := by show _ = _; rw [List.take_of_length_le (by omega)]
      go_wp2_with fail
      go_ret2
      rw [← HE.out]
      try rw [hB]
      exact ⟨_, rfl, own4_mono HO.out (by omega), HBa.out.trans (HBx.out.mono (by omega))⟩
end Go.Proofs.YtgoklapafidpkaaGreatDoor
