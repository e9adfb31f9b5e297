import Derived.Test.YtionicjnoogpjaaGreatDoorAnalyzJ24
import Derived.Test.YtionicjnoogpjaaGreatDoorAnalyzJ29
import Derived.Test.YtionicjnoogpjaaGreatDoorAnalyzJ07
import Derived.Test.YtionicjnoogpjaaGreatDoorAnalyzJ09
import Derived.Deep.AppendLies
import Derived.Deep.RegionLaw
import Derived.Test.YtionicjnoogpjaaGreatDoorAnalyzJ22
namespace Go.Proofs.YtionicjnoogpjaaGreatDoor
open Go Go.RowKit
set_option linter.unusedVariables false
set_option linter.unusedSimpArgs false

/-- The step of the synonyms. -/
def synStep (syns : List (List UInt8 × List UInt8)) (l : List Tk) : List Tk := l.flatMap fun k => withT k (rawOf syns k.1)
theorem synStep_snoc (syns : List (List UInt8 × List UInt8)) (l : List Tk) (k : Nat) (h : k < l.length) : synStep syns (l.take (k + 1)) = synStep syns (l.take k) ++ withT (l.getD k tk0) (rawOf syns (l.getD k tk0).1) := by
  rw [synStep, List.take_succ_eq_append_getElem h, List.flatMap_append, List.getD_eq_getElem?_getD, List.getElem?_eq_getElem h]
  simp [synStep]
set_option maxHeartbeats 8000000 in
set_option maxRecDepth 100000 in
theorem withSyn_any (fo st ph : Bool) (aS aY aT : Option Addr) (cS cY cT nS : Nat) (syns : List (List UInt8 × List UInt8)) (lo hi : Int) (l : List Tk) (w : World) (hY : HoldY w aY syns) (hT : HoldT w aT l) (hn : l.length ≤ 8192) (hnY : syns.length ≤ 64) (zY : ∀ k, k < syns.length → (syns.getD k ([], [])).2.length ≤ 64) :
    Calls Tryz.prog 82 #[.agg #[.bool fo, .bool st, .bool ph, .slice aS nS cS, .slice aY syns.length cY, .int .i64 lo, .int .i64 hi], .slice aT l.length cT] w fun e w' => ∃ v, e = .returned (.tuple #[v, .int .i64 0]) ∧ w'.ownsRow w.heap.size 35 4 v (synStep syns l).length (toksCells (synStep syns l)) ∧ Below w.heap.size w w' := by
  obtain ⟨i0, hi0, hz0, hz1, hz2⟩ := info_parts Tryz.infoTok
  have HY := hidd hY
  have HT := hidd hT
  clear hY hT
  go_enter Tryz.func82, Tryz.ntmps82
  have HBa : Hid (Below w.heap.size w (w.alloc (.cells #[.bool fo, .bool st, .bool ph, .slice aS nS cS, .slice aY syns.length cY, .int .i64 lo, .int .i64 hi] 26))) := (Below.refl _ _).alloc (Nat.le_refl _) _
  have hblk : (w.alloc (.cells #[.bool fo, .bool st, .bool ph, .slice aS nS cS, .slice aY syns.length cY, .int .i64 lo, .int .i64 hi] 26)).heap[w.heap.size]? = some (.cells #[.bool fo, .bool st, .bool ph, .slice aS nS cS, .slice aY syns.length cY, .int .i64 lo, .int .i64 hi] 26) := heap_alloc_new _ _
  have Hblk := hidd hblk
  clear hblk
  go_wp2_with fail
  have HYa := hidd (HY.out.below HBa.out)
  have HTa := hidd (HT.out.below HBa.out)
  generalize w.alloc (.cells #[.bool fo, .bool st, .bool ph, .slice aS nS cS, .slice aY syns.length cY, .int .i64 lo, .int .i64 hi] 26) = wa at *
  generalize hB : w.heap.size = B at *
  have hza := HBa.out.size
  clear HY HT
  go_loopw [6, 13] (fun v i wx => ∃ k : Nat, k ≤ l.length ∧ i = .int .i64 k ∧ wx.ownsRow wa.heap.size 35 4 v (synStep syns (l.take k)).length (toksCells (synStep syns (l.take k))) ∧ (synStep syns (l.take k)).length ≤ k * 65 ∧ Below wa.heap.size wa wx) (fun _ i _ => l.length - (intOf i).toNat)
  case atStart => exact ⟨0, by omega, rfl, World.ownsRow_nil _ _ _ _, by simp [synStep], Below.refl _ _⟩
  case round =>
    obtain ⟨k, hk, rfl, hown, hal, hbx⟩ := hrel
    have HO := hidd hown
    have HBx := hidd hbx
    have HKx := hidd (blko Hblk.out hbx)
    have HYx := hidd (HYa.out.below hbx)
    have HTx := hidd (HTa.out.below hbx)
    have hwx := hbx.size
    clear hown hbx
    by_cases hlt : k < l.length
    · have HSn := hidd (synStep_snoc syns l k hlt)
      obtain ⟨b, off, rfl, hbl, hc⟩ := HTx.out.resolve_left (fun h => by rw [h] at hlt; simp at hlt)
      obtain ⟨t0, t1, t2, t3⟩ := hc k hlt
      clear hc
      obtain ⟨tk, htk⟩ : ∃ tk, l.getD k tk0 = tk := ⟨_, rfl⟩
      rw [htk] at t0 t1 t2 t3 HSn
      clear htk
      obtain ⟨tx, p0, p1, p2⟩ := tk
      dsimp only at t0 t1 t2 t3 HSn
      generalize synStep syns (l.take k) = A at *
      have q4 : wr.cell? ⟨B, 4, none⟩ = some (.slice aY syns.length cY) := blkc HKx.out 4
      go_upto_region 6 with (at_builtin; refine wpList_append_own_at _ rfl _ _ 29 rfl wa.heap.size 35 i0 (.agg #[.string ⟨#[]⟩, .int .i64 0, .int .i64 0, .int .i64 0]) 4 40 Tryz.underlying29 hi0 hz0 hz1 hz2 rfl (by decide) _ _ _ rfl ((HO.out.alloc _).alloc _) ⟨wr.heap.size + 1, 0, none⟩ 1 1 [.string (bs tx), .int .i64 p0, .int .i64 p1, .int .i64 p2] rfl rfl ?c1 ?c2 ?c3 ?c4 ?c5 ?_)
      case c1 =>
        intro q u hq
        match q, hq with
        | 0, hq => simp at hq; subst hq; simp [Addr.add]
        | 1, hq => simp at hq; subst hq; simp [Addr.add]
        | 2, hq => simp at hq; subst hq; simp [Addr.add]
        | 3, hq => simp at hq; subst hq; simp [Addr.add]
        | q + 4, hq => simp at hq
      case c2 =>
        intro u hu
        simp at hu
        rcases hu with rfl | rfl | rfl | rfl <;> rfl
      case c3 => unfold maxLen; omega
      case c4 => omega
      case c5 => simp; omega
      intro v' w6 hown' hgrow hne hat
      have hnb : some wr.heap.size ≠ v'.ownBlock := by
        rcases hat with h | h
        · rw [h]; exact own4_ne HO.out (a := some ⟨wr.heap.size, 0, none⟩) (fun b off e => by cases e; exact Nat.le_refl _) _ _ rfl
        · rw [h]; intro e; have := Option.some.inj e; first | omega | (simp at this)
      have hbox : w6.heap[wr.heap.size]? = some (.cells #[.string (bs tx), .int .i64 p0, .int .i64 p1, .int .i64 p2] 35) := by
        rw [hgrow.block wr.heap.size (by simp <;> omega) (own4_ne HO.out (a := some ⟨wr.heap.size, 0, none⟩) (fun b off e => by cases e; exact Nat.le_refl _) _ _ rfl)]
        rw [Below.heap_alloc _ _ _ (by simp <;> omega)]
        exact heap_alloc_new _ _
      have RR : Hid (w6.ownsRow wa.heap.size 35 4 v' (A ++ [(tx, p0, p1, p2)]).length (toksCells (A ++ [(tx, p0, p1, p2)])) ∧ Below wa.heap.size wa w6) := by
        refine ⟨?_, ((HBx.out.alloc hwx _).alloc (by simp; omega) _).grown hgrow (by simp; omega) (own4_block HO.out)⟩
        rw [toksCells_snoc, List.length_append]
        exact hown'
      have Hnb := hidd hnb
      have Hbox := hidd hbox
      clear hown' hgrow hne hat hnb hbox t0 t1 t2 t3 q4
      have q4 : w6.cell? ⟨B, 4, none⟩ = some (.slice aY syns.length cY) := blkc (blko Hblk.out RR.out.2) 4
      go_wp2_with fail
      generalize hTB : wr.heap.size = TB at *
      go_loopw [6, 24] (fun v i wx => ∃ j : Nat, j ≤ syns.length ∧ i = .int .i64 j ∧ wx.ownsRow wa.heap.size 35 4 v (A ++ withT (tx, p0, p1, p2) (rawOf (syns.take j) tx)).length (toksCells (A ++ withT (tx, p0, p1, p2) (rawOf (syns.take j) tx))) ∧ wx.heap[TB]? = some (.cells #[.string (bs tx), .int .i64 p0, .int .i64 p1, .int .i64 p2] 35) ∧ some TB ≠ v.ownBlock ∧ Below wa.heap.size wa wx) (fun _ i _ => syns.length - (intOf i).toNat)
      case atStart => exact ⟨0, by omega, rfl, RR.out.1, Hbox.out, Hnb.out, RR.out.2⟩
      case round =>
        obtain ⟨j, hj, rfl, hown, hbox, hnb, hby⟩ := hrel
        have HAo := hidd hown
        have HAx := hidd hbox
        have HAn := hidd hnb
        have HAb := hidd hby
        have hlr := synsOf_len (syns.take j) tx
        rw [List.length_take] at hlr
        have har : (A ++ withT (tx, p0, p1, p2) (rawOf (syns.take j) tx)).length ≤ k * 65 + 65 := by
          rw [List.length_append, withT_len, rawOf, List.length_cons]; omega
        clear hown hbox hnb hby RR Hbox Hnb q4 HO HBx HKx HYx HTx
        by_cases hjl : j < syns.length
        · obtain ⟨b2, off2, rfl, hbl2, hc2⟩ := HYa.out.resolve_left (fun h => by rw [h] at hjl; simp at hjl)
          have g1 := (HAb.out.cell (p := ⟨b2, off2 + j * 2, none⟩) hbl2).trans (hc2 j hjl).1
          have g2 := (HAb.out.cell (p := ⟨b2, off2 + j * 2 + 1, none⟩) hbl2).trans (hc2 j hjl).2
          have HSs := hidd (synsOf_snoc syns j tx hjl)
          have HE := hidd (beq_txt (syns.getD j ([], [])).1 tx)
          have huz := zY j hjl
          clear hc2
          generalize (syns.getD j ([], [])).1 = f at *
          generalize (syns.getD j ([], [])).2 = u at *
          have HBs : Hid (Below wr.heap.size wr (wr.alloc (.cells #[.string (bs f), .string (bs u)] 80))) := (Below.refl _ _).alloc (Nat.le_refl _) _
          have HXs := hidd (blko HAx.out HBs.out)
          have e0 : (wr.alloc (.cells #[.string (bs f), .string (bs u)] 80)).cell? ⟨TB, 0, none⟩ = some (.string (bs tx)) := blkc HXs.out 0
          have hwr := HAb.out.size
          go_upto_block 3 with fail
          go_cut [6] (fun c wy => wy.ownsRow wa.heap.size 35 4 c (A ++ withT (tx, p0, p1, p2) (rawOf (syns.take (j + 1)) tx)).length (toksCells (A ++ withT (tx, p0, p1, p2) (rawOf (syns.take (j + 1)) tx))) ∧ wy.heap[TB]? = some (.cells #[.string (bs tx), .int .i64 p0, .int .i64 p1, .int .i64 p2] 35) ∧ some TB ≠ c.ownBlock ∧ Below wa.heap.size wa wy)
          case first =>
            cases hf : (f == tx)
            · have he : ((bs f).toList == (bs tx).toList) = false := by rw [HE.out]; exact hf
              have HR : Hid (rawOf (syns.take (j + 1)) tx = rawOf (syns.take j) tx) := by show _ = _; rw [rawOf, HSs.out, hf]; rfl
              clear HE hf HSs
              go_wp2_with fail
              go_meet
              case rel => rw [HR.out]; exact ⟨HAo.out.alloc _, HXs.out, HAn.out, HAb.out.alloc hwr _⟩
            · have he : ((bs f).toList == (bs tx).toList) = true := by rw [HE.out]; exact hf
              have HR : Hid (A ++ withT (tx, p0, p1, p2) (rawOf (syns.take (j + 1)) tx) = (A ++ withT (tx, p0, p1, p2) (rawOf (syns.take j) tx)) ++ [(u, p0, p1, p2)]) := by
                show _ = _
                rw [rawOf, HSs.out, hf, if_pos rfl, ← List.cons_append, ← rawOf, withT, List.map_append, List.append_assoc]
                rfl
              clear HE hf HSs
              go_upto_region 10 with fail
              have hsb : (wr.alloc (.cells #[.string (bs f), .string (bs u)] 80)).heap[wr.heap.size]? = some (.cells #[.string (bs f), .string (bs u)] 80) := heap_alloc_new _ _
              have HSn : Hid (some wr.heap.size ≠ u6.ownBlock) := own4_ne HAo.out (a := some ⟨wr.heap.size, 0, none⟩) (fun b off e => by cases e; exact Nat.le_refl _) _ _ rfl
              have HAo8 := hidd (HAo.out.alloc (.cells #[.string (bs f), .string (bs u)] 80))
              have HAb8 := hidd (HAb.out.alloc hwr (.cells #[.string (bs f), .string (bs u)] 80))
              generalize hSB : wr.heap.size = SB at *
              generalize wr.alloc (.cells #[.string (bs f), .string (bs u)] 80) = w8 at *
              clear e0 HAo HAb HAx g1 g2
              have e0 : w8.cell? ⟨TB, 0, none⟩ = some (.string (bs tx)) := blkc HXs.out 0
              have e1 : w8.cell? ⟨TB, 1, none⟩ = some (.int .i64 p0) := blkc HXs.out 1
              have e2 : w8.cell? ⟨TB, 2, none⟩ = some (.int .i64 p1) := blkc HXs.out 2
              have e3 : w8.cell? ⟨TB, 3, none⟩ = some (.int .i64 p2) := blkc HXs.out 3
              have s1 : w8.cell? ⟨SB, 1, none⟩ = some (.string (bs u)) := blkc hsb 1
              have hsb2 := hidd hsb
              clear e0 e1 e2 e3 s1 hsb
              have HS1 : Hid (∀ W, Below w8.heap.size w8 W → (W.heap[TB]? = some (.cells #[.string (bs tx), .int .i64 p0, .int .i64 p1, .int .i64 p2] 35) ∧ W.heap[SB]? = some (.cells #[.string (bs f), .string (bs u)] 80))) := fun W hW => ⟨blko HXs.out hW, blko hsb2.out hW⟩
              have hB1 : Below w8.heap.size w8 w8.drew := below_drewN (Below.refl _ w8) 1
              refine wp_region_held (S := fun W' => W'.heap[TB]? = some (.cells #[.string (bs tx), .int .i64 p0, .int .i64 p1, .int .i64 p2] 35) ∧ W'.heap[SB]? = some (.cells #[.string (bs f), .string (bs u)] 80)) (by kernel_rfl) ?_
              try simp only [Act.put, List.getElem_toArray, List.getElem_cons_succ, List.getElem_cons_zero, List.setIfInBounds_toArray, List.set_cons_zero, List.set_cons_succ]
              refine wpAnyH_take (i := 0) (v := u6) rfl (by kernel_rfl) (by kernel_rfl) (by kernel_rfl) (fun _ _ _ h => h) (Or.inl ⟨by kernel_rfl, fun W hW => exec_move W _ _ _ rfl _ (by kernel_rfl)⟩) (HS1.out _ hB1) ?_
              try simp only [Act.put, List.getElem_toArray, List.getElem_cons_succ, List.getElem_cons_zero, List.setIfInBounds_toArray, List.set_cons_zero, List.set_cons_succ]
              refine wpAnyH_take (i := 1) (v := .agg #[.string (bs tx), .int .i64 p0, .int .i64 p1, .int .i64 p2]) rfl (by kernel_rfl) (by kernel_rfl) (by kernel_rfl) (fun _ _ _ h => h) (Or.inl ⟨by kernel_rfl, fun W hW => exec_loadTok W _ _ _ rfl TB 0 _ _ _ _ (by kernel_rfl) (blkc hW.1 0) (blkc hW.1 1) (blkc hW.1 2) (blkc hW.1 3)⟩) (HS1.out _ hB1) ?_
              try simp only [Act.put, List.getElem_toArray, List.getElem_cons_succ, List.getElem_cons_zero, List.setIfInBounds_toArray, List.set_cons_zero, List.set_cons_succ]
              refine wpAnyH_take (i := 2) (v := .pointer (some ⟨SB, 1, none⟩)) rfl (by kernel_rfl) (by kernel_rfl) (by kernel_rfl) (fun _ _ _ h => h) (Or.inl ⟨by kernel_rfl, fun W hW => exec_field W _ _ _ rfl SB (by kernel_rfl)⟩) (HS1.out _ hB1) ?_
              try simp only [Act.put, List.getElem_toArray, List.getElem_cons_succ, List.getElem_cons_zero, List.setIfInBounds_toArray, List.set_cons_zero, List.set_cons_succ]
              refine wpAnyH_take (i := 3) (v := .string (bs u)) rfl (by kernel_rfl) (by kernel_rfl) (by kernel_rfl) (fun _ _ _ h => h) (Or.inl ⟨by kernel_rfl, fun W hW => exec_loadText W _ _ _ rfl SB 1 _ (by kernel_rfl) (blkc hW.2 1)⟩) (HS1.out _ hB1) ?_
              try simp only [Act.put, List.getElem_toArray, List.getElem_cons_succ, List.getElem_cons_zero, List.setIfInBounds_toArray, List.set_cons_zero, List.set_cons_succ]
              refine wpAnyH_one 4 (by kernel_rfl) ?_
              refine wpOp_call 78 #[.string (bs u)] rfl (by kernel_rfl) (exec_call1 _ _ _ _ _ _ rfl _ (by kernel_rfl) (Tryz.call78 _ _)) ?_
              refine (clone_any (bs u) _ (by rw [bs_size]; omega)).mono ?_
              rintro e' w9 ⟨rfl, hb9⟩
              have hB9 : Below w8.heap.size w8 w9 := hB1.trans (hb9.mono hB1.size)
              refine ⟨HS1.out _ hB9, ?_⟩
              try simp only [Act.put, List.getElem_toArray, List.getElem_cons_succ, List.getElem_cons_zero, List.setIfInBounds_toArray, List.set_cons_zero, List.set_cons_succ]
              refine wpAnyH_one 5 (by kernel_rfl) ?_
              refine wpOp_call 38 #[.agg #[.string (bs tx), .int .i64 p0, .int .i64 p1, .int .i64 p2], .string (bs u)] rfl (by kernel_rfl) (exec_call2 _ _ _ _ _ _ _ _ rfl _ _ (by kernel_rfl) (by kernel_rfl) (Tryz.call38 _ _)) ?_
              refine (retold_any (bs tx) (bs u) p0 p1 p2 _).mono ?_
              rintro e' w10 ⟨rfl, hb10⟩
              have hB10 : Below w8.heap.size w8 w10 := hB9.trans (hb10.mono hB9.size)
              refine ⟨HS1.out _ hB10, ?_⟩
              try simp only [Act.put, List.getElem_toArray, List.getElem_cons_succ, List.getElem_cons_zero, List.setIfInBounds_toArray, List.set_cons_zero, List.set_cons_succ]
              refine wpAnyH_one 6 (by kernel_rfl) ?_
              refine wpOp_val (.slice (some ⟨w10.heap.size, 0, none⟩) 1 1) (w10.alloc (.cells #[.string (bs u), .int .i64 p0, .int .i64 p1, .int .i64 p2] 35)) rfl (by kernel_rfl) (exec_build _ _ _ _ rfl _ _ _ _ (by kernel_rfl)) ?_
              have hB11 := hB10.alloc hB10.size (.cells #[.string (bs u), .int .i64 p0, .int .i64 p1, .int .i64 p2] 35)
              refine ⟨HS1.out _ hB11, ?_⟩
              try simp only [Act.put, List.getElem_toArray, List.getElem_cons_succ, List.getElem_cons_zero, List.setIfInBounds_toArray, List.set_cons_zero, List.set_cons_succ]
              refine wpAnyH_one 7 (by kernel_rfl) ?_
              have HAo11 := (own4_below (own4_below HAo8.out hB10) ((Below.refl _ w10).alloc (Nat.le_refl _) (.cells #[.string (bs u), .int .i64 p0, .int .i64 p1, .int .i64 p2] 35)))
              refine wpOp_wp rfl (by kernel_rfl) (wp_append_lies _ (.tmp 33) (.tmp 39) 29 rfl wa.heap.size 35 i0 (.agg #[.string ⟨#[]⟩, .int .i64 0, .int .i64 0, .int .i64 0]) 4 40 Tryz.underlying29 hi0 hz0 hz1 hz2 rfl (by decide) u6 _ _ (by kernel_rfl) HAo11 ⟨w10.heap.size, 0, none⟩ 1 1 [.string (bs u), .int .i64 p0, .int .i64 p1, .int .i64 p2] (by kernel_rfl) rfl (World.news_of_block (heap_alloc_new w10 _)) (by intro v hv; simp at hv; rcases hv with rfl | rfl | rfl | rfl <;> rfl) (by omega) (by unfold maxLen; omega) (by omega) (by have := hB10.size; have := HAb8.out.size; simp; omega) _ rfl ?_)
              intro g6 cp6 w12 hown12 hgrow12 hat12 hlt12
              have hTBl : TB < (w10.alloc (.cells #[.string (bs u), .int .i64 p0, .int .i64 p1, .int .i64 p2] 35)).heap.size := (Array.getElem?_eq_some_iff.1 (HS1.out _ hB11).1).1
              have hSBl : SB < (w10.alloc (.cells #[.string (bs u), .int .i64 p0, .int .i64 p1, .int .i64 p2] 35)).heap.size := (Array.getElem?_eq_some_iff.1 (HS1.out _ hB11).2).1
              have hs12 := (hgrow12.block TB hTBl HAn.out).trans (HS1.out _ hB11).1
              have hs13 := (hgrow12.block SB hSBl HSn.out).trans (HS1.out _ hB11).2
              refine ⟨⟨hs12, hs13⟩, ?_⟩
              try simp only [Act.put, List.getElem_toArray, List.getElem_cons_succ, List.getElem_cons_zero, List.setIfInBounds_toArray, List.set_cons_zero, List.set_cons_succ]
              refine wpAnyH_one 8 (by kernel_rfl) ?_
              refine wpOp_val (.slice (some ⟨g6, 0, none⟩) ((A ++ withT (tx, p0, p1, p2) (rawOf (syns.take j) tx)).length + 1) cp6) w12 rfl (by kernel_rfl) (exec_assign _ _ _ _ rfl _ (by kernel_rfl)) ?_
              refine ⟨⟨hs12, hs13⟩, ?_⟩
              try simp only [Act.put, List.getElem_toArray, List.getElem_cons_succ, List.getElem_cons_zero, List.setIfInBounds_toArray, List.set_cons_zero, List.set_cons_succ]
              refine wpAnyH_done (by kernel_rfl) ?_ _
              have RR : Hid (w12.ownsRow wa.heap.size 35 4 (.slice (some ⟨g6, 0, none⟩) ((A ++ withT (tx, p0, p1, p2) (rawOf (syns.take j) tx)).length + 1) cp6) (A ++ withT (tx, p0, p1, p2) (rawOf (syns.take (j + 1)) tx)).length (toksCells (A ++ withT (tx, p0, p1, p2) (rawOf (syns.take (j + 1)) tx))) ∧ w12.heap[TB]? = some (.cells #[.string (bs tx), .int .i64 p0, .int .i64 p1, .int .i64 p2] 35) ∧ some TB ≠ (Value.slice (some ⟨g6, 0, none⟩) ((A ++ withT (tx, p0, p1, p2) (rawOf (syns.take j) tx)).length + 1) cp6).ownBlock ∧ Below wa.heap.size wa w12) := by
                refine ⟨?_, hs12, ?_, ?_⟩
                · rw [HR.out, toksCells_snoc, show ((A ++ withT (tx, p0, p1, p2) (rawOf (syns.take j) tx)) ++ [(u, p0, p1, p2)]).length = (A ++ withT (tx, p0, p1, p2) (rawOf (syns.take j) tx)).length + 1 from List.length_append]
                  exact hown12
                · rcases hat12 with h | h
                  · intro e
                    exact HAn.out (e.trans h.symm)
                  · intro e
                    have e' : TB = g6 := Option.some.inj e
                    omega
                · have h1 := HAb8.out.trans (hB11.mono HAb8.out.size)
                  exact h1.grown hgrow12 h1.size (own4_block HAo11)
              clear hs12 hs13 hown12 hgrow12 hat12 hlt12 hB9 hB10 hB11 hb9 hb10 HAo11 hTBl hSBl hB1
              generalize (A ++ withT (tx, p0, p1, p2) (rawOf (syns.take j) tx)).length + 1 = nn at *
              go_wp2_with fail
              go_meet
              case rel => exact RR.out
          case rest =>
            obtain ⟨h1, h2, h3, h4⟩ := hcut
            have RR : Hid (_ ∧ _ ∧ _ ∧ _) := ⟨h1, h2, h3, h4⟩
            clear h1 h2 h3 h4
            go_wp2_with fail
            go_roundw
            case rel => exact ⟨j + 1, by omega, by go_num, RR.out.1, RR.out.2.1, RR.out.2.2.1, RR.out.2.2.2⟩
            case measure => simp [intOf]; omega
        · have HE : Hid (synStep syns (l.take (k + 1)) = A ++ withT (tx, p0, p1, p2) (rawOf (syns.take j) tx)) := by
            show _ = _
            rw [HSn.out, List.take_of_length_le (by omega)]
          go_wp2_with fail
          go_roundw
          case rel => exact ⟨k + 1, by omega, by go_num, by rw [HE.out]; exact HAo.out, by rw [HE.out]; omega, HAb.out⟩
          case measure => simp [intOf]; omega
    · have HE : Hid (synStep syns (l.take k) = synStep syns l) := by show _ = _; rw [List.take_of_length_le (by omega)]
      go_wp2_with fail
      go_ret2
      rw [← HE.out]
      try rw [hB]
      exact ⟨_, rfl, own4_mono HO.out (by omega), HBa.out.trans (HBx.out.mono (by omega))⟩
end Go.Proofs.YtionicjnoogpjaaGreatDoor

namespace Go.Proofs.YtionicjnoogpjaaGreatDoor
open Go Go.RowKit
set_option linter.unusedVariables false

theorem lt_heap {w : World} {b : Nat} {o : Obj} (h : w.heap[b]? = some o) : b < w.heap.size := (Array.getElem?_eq_some_iff.1 h).1
theorem cntG_le (len : Nat) : ∀ f n, cntG len n f ≤ f * (len + 1)
  | 0, _ => by simp [cntG]
  | f + 1, n => by
    have := cntG_le len f (n + 1)
    rw [cntG, Nat.succ_mul]
    omega
set_option maxHeartbeats 4000000 in
set_option maxRecDepth 100000 in
theorem implGrams_in (s : ByteArray) (L H : Nat) (w : World) (hs : s.size ≤ 65536) (hT : Tabs w) (HC : Hid (decCode s = 0)) (HV : Hid (validB s = true)) (h1 : 1 ≤ L) (h2 : L ≤ H) (h8 : H ≤ 8) (G : List (List UInt8)) (HG : Hid (gAll L (H + 1 - L) (runes s) = G)) (R : List (List UInt8)) (c : Int) (HR : Hid ((G.length ≤ 4096 → R = G ∧ c = 0) ∧ (¬ G.length ≤ 4096 → R = [] ∧ c = 11))) :
    Calls Tryz.prog 129 #[.string s, .int .i64 L, .int .i64 H] w fun e w' => ∃ v, e = .returned (.tuple #[v, .int .i64 c]) ∧ w'.ownsRow w.heap.size 9 1 v R.length (sCells R) ∧ Below w.heap.size w w' := by
  obtain ⟨i0, hi, hz0, hz1, hz2⟩ := info_parts Tryz.infoStr
  have HT := hidd hT
  clear hT
  have HOK : Hid (gOK L H = true) := (gOK_iff _ _).2 ⟨by omega, by omega, by omega⟩
  have hrl := runes_le s
  have HRC := hidd (runeCount_len s)
  have HLen : Hid (G.length = cntG (runes s).length L (H + 1 - L)) := by show _ = _; rw [← HG.out]; exact gAll_len L _ h1 _
  go_enter Tryz.func129, Tryz.ntmps129
  go_wp2_with fail
  refine (textCode_any s _ (by omega) HT.out).mono ?_
  rintro e w1 ⟨rfl, hb1⟩
  rw [HC.out]
  go_wp2_with fail
  refine (gramSizes_any _ _ _).mono ?_
  rintro e w' ⟨rfl, hw'⟩
  obtain rfl := hw'.symm
  clear hw'
  rw [HOK.out]
  go_wp2_with fail
  refine (Tryz.utf8_RuneCountInString s _ (by omega)).mono ?_
  rintro e w2 ⟨rfl, q, rfl⟩
  have hb2 : Below w.heap.size w (w1.iter s q) := hb1.alloc hb1.size _
  generalize w1.iter s q = w2 at hb2 ⊢
  clear hb1
  rw [HRC.out]
  generalize hN : (runes s).length = N at *
  have HN := hidd hN
  clear hN
  go_wp2_with fail
  go_loop [9, 11] (fun cv i => ∃ (n f a : Nat), n + f = H + 1 ∧ L ≤ n ∧ i = .int .i64 n ∧ cv = .int .i64 a ∧ a + cntG N n f = G.length) (fun _ i => H + 1 - (intOf i).toNat)
  case atStart => exact ⟨L, H + 1 - L, 0, by omega, by omega, rfl, rfl, by rw [HLen.out]; omega⟩
  case round =>
    obtain ⟨n, f, a, hnf, hLn, rfl, rfl, hsum⟩ := hrel
    have hcl := cntG_le N f n
    have hfl : f ≤ 8 := by omega
    have hfN : f * (N + 1) ≤ 8 * (N + 1) := Nat.mul_le_mul_right _ hfl
    have hGl : G.length ≤ 8 * (N + 1) := by
      have h9 := cntG_le N (H + 1 - L) L
      have h10 : (H + 1 - L) * (N + 1) ≤ 8 * (N + 1) := Nat.mul_le_mul_right _ (by omega)
      rw [HLen.out]; omega
    have HS := hidd hsum
    have hab : a ≤ 8 * (N + 1) := by omega
    clear hcl hfN
    by_cases hnH : n ≤ H
    · have hnz : (n : Int) ≤ (H : Int) := by omega
      obtain ⟨f, rfl⟩ : ∃ f', f = f' + 1 := ⟨f - 1, by omega⟩
      have HS2 : Hid (a + (N + 1 - n) + cntG N (n + 1) f = G.length) := by show _ = _; rw [← HS.out, cntG]; omega
      clear hsum HS
      go_wp2_with fail
      go_round
      case rel => exact ⟨n + 1, f, a + (N + 1 - n), by omega, by omega, by go_num, congrArg (Value.int .i64) (by omega), HS2.out⟩
      case measure => simp [intOf]; omega
    · have hnz : ¬ (n : Int) ≤ (H : Int) := by omega
      have haG : a = G.length := by rw [← HS.out, show f = 0 by omega]; rfl
      clear hsum HS
      by_cases hbig : 4096 < a
      · have hbz : (4096 : Int) < (a : Int) := by omega
        have HF := hidd (HR.out.2 (by omega))
        clear haG
        go_wp2_with fail
        go_ret2
        rw [HF.out.1, HF.out.2]
        exact ⟨_, rfl, World.ownsRow_nil _ _ _ _, hb2⟩
      · have hbz : ¬ (4096 : Int) < (a : Int) := by omega
        have HF := hidd (HR.out.1 (by omega))
        have hGl2 : G.length ≤ 4096 := by omega
        clear haG HR HLen
        go_wp2_with (at_make; refine wpList_make_own _ rfl _ _ 23 rfl w.heap.size 9 i0 (.string ⟨#[]⟩) 1 Tryz.underlying23 hi hz0 hz1 _ _ _ a rfl rfl (by omega) ?b2 ?b3 hb2.size ?_)
        case b2 => omega
        case b3 => unfold maxLen; omega
        intro w3 hown3 hgrow3
        have hb3 : Below w.heap.size w w3 := hb2.grown hgrow3 hb2.size (fun k h => by cases h)
        generalize (Value.slice (some ⟨w2.heap.size, 0, none⟩) 0 a) = v3 at hown3 ⊢
        have hI : w.heap.size ≤ w3.heap.size := hb3.size
        have hit0 := hidd (World.iter_heap w3 s 0)
        have hb4 : Below w.heap.size w (w3.iter s 0) := hb3.alloc hb3.size _
        have hown4 : (w3.iter s 0).ownsRow w.heap.size 9 1 v3 0 [] := hown3.alloc _
        clear hb2 hgrow3 hown3 hb3
        go_wp2_with fail
        generalize w3.iter s 0 = w4 at hit0 hb4 hown4 ⊢
        generalize w3.heap.size = B at *
        go_loopw [12] (fun v wr => ∃ (k : Nat) (out : List (List UInt8)), k ≤ N ∧ wr.ownsRow w.heap.size 9 1 v out.length (sCells out) ∧ out ++ gAll L (H + 1 - L) ((runes s).drop k) = G ∧ wr.heap[B]? = some (.stringIter s (blen ((runes s).take k))) ∧ B < wr.heap.size ∧ Below w.heap.size w wr) (fun _ wr => s.size - wr.iterPos B)
        case atStart => exact ⟨0, [], by omega, hown4, HG.out, hit0.out, lt_heap hit0.out, hb4⟩
        case round =>
          obtain ⟨k, out, hk, hown, hG, hit, hzB0, hbel⟩ := hrel
          have HOk := hidd hown
          have HGk := hidd hG
          have hol : out.length ≤ 4096 := by
            have := congrArg List.length hG
            rw [List.length_append] at this
            omega
          clear hown hG hown4 hb4 hit0
          have hlt' := at_lt s k HV.out
          rw [HN.out] at hlt'
          generalize hp : blen ((runes s).take k) = p at *
          have Hp := hidd hp
          clear hp
          by_cases hlt : p < s.size
          · have hkl : k < N := hlt'.2 hlt
            have hst := at_step s k HV.out (by rw [Hp.out]; exact hlt)
            rw [Hp.out] at hst
            have hnx : ∀ ty, (Instr.next (.pointer (some ⟨B, 0, none⟩)) true ty).run Tryz.prog wr = _ := fun ty => Lib.run_next_any_at wr B s p ty hit hlt
            have hw := width_le s p hlt
            have hr := rune_le s p
            have HO2 := hidd (own_iterAt HOk.out hit (p + (Utf8.decode s p).2))
            have hit2 := Lib.iterAt_heap wr B s p (p + (Utf8.decode s p).2) hit
            have hbel2 := Lib.below_iterAt hbel (k := B) hI s (p + (Utf8.decode s p).2)
            have Hpos := hidd (iterPos_of hit)
            have Hit2 := hidd hit2
            have HB2 := hidd hbel2
            have hzw : w.heap.size ≤ (wr.iterAt B s (p + (Utf8.decode s p).2)).heap.size := hbel2.size
            have hzB : B < (wr.iterAt B s (p + (Utf8.decode s p).2)).heap.size := (Array.getElem?_eq_some_iff.1 hit2).1
            have HP2 : Hid (blen ((runes s).take (k + 1)) = p + (Utf8.decode s p).2) := hst.2.1
            have hps : p ≤ s.size := by omega
            have HXV : Hid (validB (s.extract p s.size) = true) := by
              show _ = _
              rw [ext_valid s p hps]
              have := (at_runes s k HV.out).2
              rwa [Hp.out] at this
            have HXR : Hid (runes (s.extract p s.size) = (runes s).drop k) := by
              show _ = _
              rw [ext_runes s p hps]
              have := (at_runes s k HV.out).1
              rwa [Hp.out] at this
            have hxz : (s.extract p s.size).size ≤ 65536 := by rw [ext_size s p hps]; omega
            have HD := hidd (gAll_drop L (H + 1 - L) (runes s) k (by rw [HN.out]; exact hkl))
            clear hst HOk hit2 hbel2 hbel hlt'
            generalize (Utf8.decode s p).1 = r at *
            generalize (Utf8.decode s p).2 = n2 at *
            generalize wr.iterAt B s (p + n2) = wi at *
            have hz : (p : Int) ≤ (s.size : Int) := by omega
            go_wp2_with fail
            refine (appendGrams_any w.heap.size _ out (s.extract p s.size) L H _ hxz HXV.out h1 h2 h8 hol hzw HO2.out).mono ?_
            rintro e w5 ⟨v5, rfl, hown5, hb5, hk5⟩
            rw [HXR.out] at hown5
            have RR : Hid (w5.ownsRow w.heap.size 9 1 v5 (out ++ gAt ((runes s).drop k) L (H + 1 - L)).length (sCells (out ++ gAt ((runes s).drop k) L (H + 1 - L))) ∧ out ++ gAt ((runes s).drop k) L (H + 1 - L) ++ gAll L (H + 1 - L) ((runes s).drop (k + 1)) = G ∧ Below w.heap.size w w5 ∧ w5.heap[B]? = some (.stringIter s (p + n2))) := by
              refine ⟨hown5, ?_, HB2.out.trans hb5, (hk5.1 B hzB (own_ne_iter HO2.out Hit2.out)).trans Hit2.out⟩
              rw [← HGk.out, HD.out, List.append_assoc]
            clear hown5 hb5 hk5 HO2 HB2 Hit2 HGk HD
            go_wp2_with fail
            go_roundw
            case rel => exact ⟨k + 1, _, by omega, RR.out.1, RR.out.2.1, by rw [HP2.out]; exact RR.out.2.2.2, lt_heap RR.out.2.2.2, RR.out.2.2.1⟩
            case measure => rw [iterPos_of RR.out.2.2.2, Hpos.out]; omega
          · have hkl : ¬ k < (runes s).length := by rw [HN.out]; exact fun h => hlt (hlt'.1 h)
            have hnx : ∀ ty, (Instr.next (.pointer (some ⟨B, 0, none⟩)) true ty).run Tryz.prog wr = _ := fun ty => Lib.run_next_end_at wr B s p ty hit hlt
            have HE : Hid (G = out) := by show _ = _; rw [← HGk.out, gAll_end _ _ _ _ hkl, List.append_nil]
            clear hit hlt'
            go_wp2_with fail
            go_ret2
            rw [HF.out.1, HF.out.2, HE.out]
            exact ⟨_, rfl, HOk.out, hbel⟩
set_option maxHeartbeats 2000000 in
theorem implGrams_any (s : ByteArray) (lo hi : Int) (w : World) (hs : s.size ≤ 1048576) (hT : Tabs w) :
    Calls Tryz.prog 129 #[.string s, .int .i64 lo, .int .i64 hi] w fun e w' => ∃ v, e = .returned (.tuple #[v, .int .i64 (gCode s lo hi)]) ∧ w'.ownsRow w.heap.size 9 1 v (gList s lo hi).length (sCells (gList s lo hi)) ∧ Below w.heap.size w w' := by
  by_cases hc : decCode s = 0
  · by_cases hok : gOK lo hi = true
    · have hb := (gOK_iff lo hi).1 hok
      obtain ⟨L, rfl⟩ := Int.eq_ofNat_of_zero_le (by omega : 0 ≤ lo)
      obtain ⟨H, rfl⟩ := Int.eq_ofNat_of_zero_le (by omega : 0 ≤ hi)
      have hd := (dec_okV s hc)
      refine implGrams_in s L H w hd.2 hT hc hd.1 (by omega) (by omega) (by omega) (gFull s L H) ?_ _ _ ?_
      · show _ = _
        rw [gFull, Int.toNat_natCast, show ((H : Int) + 1 - (L : Int)).toNat = H + 1 - L by omega, decList, if_neg (by omega), decL, if_pos hd.1]
      · refine ⟨fun h => ?_, fun h => ?_⟩
        · have e : gCode s L H = 0 := by rw [gCode, if_pos hc, if_pos hok, if_pos h]
          exact ⟨by rw [gList, if_pos e], e⟩
        · have e : gCode s L H = 11 := by rw [gCode, if_pos hc, if_pos hok, if_neg h]
          exact ⟨by rw [gList, if_neg (by omega)], e⟩
    · have HM : Hid (gCode s lo hi = 1 ∧ gList s lo hi = []) := by
        have e : gCode s lo hi = 1 := by rw [gCode, if_pos hc, if_neg hok]
        exact ⟨e, by rw [gList, if_neg (by omega)]⟩
      have HC := hidd hc
      have hok' : gOK lo hi = false := by simpa using hok
      have HOK := hidd hok'
      have HT := hidd hT
      clear hc hok hok' hT
      go_enter Tryz.func129, Tryz.ntmps129
      go_wp2_with fail
      refine (textCode_any s _ hs HT.out).mono ?_
      rintro e w1 ⟨rfl, hb1⟩
      rw [HC.out]
      go_wp2_with fail
      refine (gramSizes_any _ _ _).mono ?_
      rintro e w' ⟨rfl, hw'⟩
      obtain rfl := hw'.symm
      clear hw'
      rw [HOK.out]
      go_wp2_with fail
      go_ret2
      rw [HM.out.1, HM.out.2]
      exact ⟨_, rfl, World.ownsRow_nil _ _ _ _, hb1⟩
  · have HM : Hid (gCode s lo hi = decCode s ∧ gList s lo hi = []) := by
      have e : gCode s lo hi = decCode s := by rw [gCode, if_neg hc]
      exact ⟨e, by rw [gList, if_neg (by rw [e]; exact hc)]⟩
    have hcn : (decCode s != 0) = true := by rw [bne_iff_ne]; exact hc
    have HT := hidd hT
    clear hc hT
    go_enter Tryz.func129, Tryz.ntmps129
    go_wp2_with fail
    refine (textCode_any s _ hs HT.out).mono ?_
    rintro e w1 ⟨rfl, hb1⟩
    generalize decCode s = c at *
    go_wp2_with fail
    go_ret2
    rw [HM.out.1, HM.out.2]
    exact ⟨_, rfl, World.ownsRow_nil _ _ _ _, hb1⟩
theorem gList_le (s : ByteArray) (lo hi : Int) : (gList s lo hi).length ≤ 4096 := by
  rw [gList]
  split
  · rename_i h
    rw [gCode] at h
    by_cases hc : decCode s = 0
    · rw [if_pos hc] at h
      by_cases hok : gOK lo hi = true
      · rw [if_pos hok] at h
        by_cases hg : (gFull s lo hi).length ≤ 4096
        · exact hg
        · rw [if_neg hg] at h; omega
      · rw [if_neg hok] at h; omega
    · rw [if_neg hc] at h; exact absurd h hc
  · simp
end Go.Proofs.YtionicjnoogpjaaGreatDoor
