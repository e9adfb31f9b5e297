import Derived.Test.YtbkedgpligcicaaDictJ02
import Derived.Deep.RegionHeld
import Derived.Deep.DeepCutAuto
namespace Go.Proofs.Ytbkedgpligcicaa
open Go Go.RowKit
set_option linter.unusedVariables false
set_option linter.unusedSimpArgs false
set_option maxRecDepth 100000

set_option maxHeartbeats 16000000 in
theorem make_step {base bm bb : Nat} {aT : Option Addr} {cT : Nat} {ts : List Tx} {f : Nat} (ih : MakeN base bm bb aT cT ts f) : MakeC base bm bb aT cT ts (f + 1) := by
  intro lo hi depth w r O vS vb xs cs h1 h2 h3 hlen hdf hdep hrise hmk hok hts hsz hbase
  have HIh := hidd ih
  obtain ⟨a0, ha0, hza0, hza1, hza2⟩ := info_parts Try.infoArc
  have HLen := hidd hlen
  have HDep := hidd hdep
  have HRise := hidd hrise
  have HMk := hidd hmk
  have HOk := hidd hok
  have HTs := hidd hts
  have HSz := hidd hsz
  clear ih hlen hdep hrise hmk hok hts hsz
  have HBa : Hid (Below w.heap.size w (w.alloc (.cells #[.bool false, .slice none 0 0] 82))) := (Below.refl _ _).alloc (Nat.le_refl _) _
  have Hbx := hidd (heap_alloc_new w (.cells #[.bool false, .slice none 0 0] 82))
  have hbmw : bm < w.heap.size := (Array.getElem?_eq_some_iff.1 HMk.out.box).1
  go_enter Try.func66, Try.ntmps66
  go_upto_region 2 with fail
  obtain ⟨wa, hwa⟩ : ∃ wa, w.alloc (.cells #[.bool false, .slice none 0 0] 82) = wa := ⟨_, rfl⟩
  rw [hwa] at HBa Hbx
  try rw [hwa]
  clear hwa
  have HFa : Hid (MkFr w wa r r) := (MkFr.refl w r).below HBa.out
  have HMa : Hid (MkAt wa r base bm bb aT ts.length cT O vS vb xs cs) := HMk.out.kept HBa.out.size (fun b hb _ => HBa.out.block b hb)
  have HTa : Hid (TsAt wa r aT ts) := HTs.out.fr HFa.out
  have hza : w.heap.size < wa.heap.size := (Array.getElem?_eq_some_iff.1 Hbx.out).1
  have hrs : r w.heap.size = .oth := HMk.out.new _ (Nat.le_refl _)
  have x0 : wa.cell? ⟨bm, 0, none⟩ = some (.slice aT ts.length cT) := blkc HMa.out.box 0
  have HWa : Hid (Way wa r w.heap.size w.heap.size false (.slice none 0 0) []) := ⟨Hbx.out, hrs, World.ownsRow_nil _ _ _ _, fun b hb => by cases hb⟩
  have HO0 : Hid (∀ fin wy, Way wy r w.heap.size w.heap.size fin (.slice none 0 0) [] → MkAt wy r base bm bb aT ts.length cT O vS vb xs cs → MkFr w wy r r → TsAt wy r aT ts → ∀ i, (∀ n, n ∈ labelsT (suf ts lo i depth) → False) → On base bm bb aT cT ts O w r w.heap.size lo i depth fin wy) := by
    intro fin wy hw hm hf ht i hl
    have hlab : labelsT (suf ts lo i depth) = [] := List.eq_nil_iff_forall_not_mem.2 hl
    exact ⟨O, r, vS, vb, xs, cs, .slice none 0 0, hm, HOk.out, List.prefix_rfl, by have := szT_ge (suf ts lo i depth); omega, hf, by rw [stOf, hlab]; exact hw, fun n hn => absurd hn (hl n), ht⟩
  obtain ⟨B, hB⟩ : ∃ B : Bool, B = decide (lo < hi ∧ (ts.getD lo []).length = depth) := ⟨_, rfl⟩
  have HBB := hidd hB
  clear hB
  go_upto_region 4 with fail
  go_cut [32] (fun cv wy => cv = .bool B ∧ wy = wa)
  case first =>
    by_cases hlh : lo < hi
    · have hlz : (lo : Int) < (hi : Int) := by omega
      have hlt : (lo : Int) < (ts.length : Int) := by omega
      obtain ⟨gT, oT, rfl, hgT, hrT, hcT⟩ := HTa.out.resolve_left (fun h => by rw [h] at h2; simp at h2; omega)
      have c1 := hcT lo (by omega)
      have hsl : (⟨(ts.getD lo []).toArray⟩ : ByteArray).size = (ts.getD lo []).length := by rw [Lib.size_eq]
      clear hcT
      generalize ts.getD lo [] = t0 at *
      go_wp2_with fail
      go_meet
      case rel =>
        refine ⟨?_, rfl⟩
        rw [HBB.out]
        congr 1
        rw [Bool.eq_iff_iff]
        simp [hlh]
        try omega
    · have hlz : ¬ (lo : Int) < (hi : Int) := by omega
      go_wp2_with fail
      go_meet
      case rel =>
        refine ⟨?_, rfl⟩
        rw [HBB.out]
        congr 1
        rw [Bool.eq_iff_iff]
        simp [hlh]
  case rest =>
    obtain ⟨rfl, hwc⟩ := hcut
    obtain rfl := hwc.symm
    clear hwc
    have Hrest : Hid (lo < hi → ∀ j, lo + 1 ≤ j → j < hi → depth < (ts.getD j []).length) := by
      intro hlh j hj1 hj2
      have hr := HRise.out
      rw [suf_split ts (lo := lo) (i := lo + 1) (hi := hi) (depth := depth) (by omega) (by omega) h2] at hr
      have := rise_ne hr (by rw [suf_one ts (by omega)]; simp) _ (suf_in hj1 hj2 (by omega))
      have h5 : 0 < ((ts.getD j []).drop depth).length := List.length_pos_iff.2 this
      rw [List.length_drop] at h5
      omega
    go_upto_if 32 with fail
    go_cut [10, 11] (fun nv iv wy => ∃ (i : Nat) (fin : Bool), nv = .int .i64 ((i : Int) - (lo : Int)) ∧ iv = .int .i64 (i : Int) ∧ At1 ts lo hi depth i fin ∧ On base bm bb aT cT ts O w r w.heap.size lo i depth fin wy)
    case first =>
        cases hB : B with
        | true =>
          have hB2 := HBB.out
          rw [hB] at hB2
          have hB3 : lo < hi ∧ (ts.getD lo []).length = depth := by simpa using hB2.symm
          have Hone : Hid (suf ts lo (lo + 1) depth = [[]]) := by
            show _ = _
            rw [suf_one ts (by omega), List.drop_eq_nil_iff.2 (by omega)]
          have q0 : wa.cell? ⟨w.heap.size, 0, none⟩ = some (.bool false) := blkc Hbx.out 0
          have q1 : wa.frozen? ⟨w.heap.size, 0, none⟩ = false := frozen_of_row wa w.heap.size 0 _ _ Hbx.out
          have HFs : Hid (MkFr w (wa.setCell ⟨w.heap.size, 0, none⟩ (.bool true)) r r) := ⟨HFa.out.os, HFa.out.tape, HFa.out.output, by have := HFa.out.size; simpa using this, fun _ _ => rfl, fun b hb hr => (heap_set_other wa w.heap.size 0 _ b (by omega)).trans (HFa.out.keep b hb hr)⟩
          have HWs : Hid (Way (wa.setCell ⟨w.heap.size, 0, none⟩ (.bool true)) r w.heap.size w.heap.size true (.slice none 0 0) []) := ⟨heap_set_same Hbx.out 0 (.bool true), hrs, World.ownsRow_nil _ _ _ _, fun b hb => by cases hb⟩
          have HMs : Hid (MkAt (wa.setCell ⟨w.heap.size, 0, none⟩ (.bool true)) r base bm bb aT ts.length cT O vS vb xs cs) := HMa.out.kept (by simp) (fun b _ hr => heap_set_other wa w.heap.size 0 _ b (by rintro rfl; exact hr hrs))
          clear hB hB2
          go_wp2_with fail
          go_meet
          case rel =>
            refine ⟨lo + 1, true, by go_num, by go_num, ⟨by omega, by omega, by rw [Hone.out]; rfl, Hrest.out hB3.1, fun c q _ _ => by rw [Hone.out]; intro t ht; exact Or.inl (by simpa using ht)⟩, HO0.out true _ HWs.out HMs.out HFs.out (HTs.out.fr HFs.out) (lo + 1) (by rw [Hone.out]; exact labels_nil_one)⟩
        | false =>
          have hB2 := HBB.out
          rw [hB] at hB2
          have hB3 : ¬ (lo < hi ∧ (ts.getD lo []).length = depth) := by simpa using hB2.symm
          clear hB hB2
          go_wp2_with fail
          go_meet
          case rel =>
            refine ⟨lo, false, by go_num, rfl, ⟨Nat.le_refl _, h1, by rw [suf_same]; rfl, fun j hj1 hj2 => ?_, fun c q _ _ => by rw [suf_same]; intro t ht; simp at ht⟩, HO0.out false _ HWa.out HMa.out HFa.out HTa.out lo (by rw [suf_same]; exact labels_nil)⟩
            by_cases e : j = lo
            · subst e
              have := HDep.out j (Nat.le_refl _) hj2
              omega
            · exact Hrest.out (by omega) j (by omega) hj2
    case rest =>
      obtain ⟨i0, fin0, rfl, rfl, hat0, hon0⟩ := hcut
      have HAt0 := hidd hat0
      have HOn0 := hidd hon0
      clear hat0 hon0 HO0 HWa HMa HTa HFa Hbx x0 HBB
      go_wp2_with fail
      go_loopw [10, 11] (fun nv iv wx => ∃ (i : Nat) (fin : Bool), nv = .int .i64 ((i : Int) - (lo : Int)) ∧ iv = .int .i64 (i : Int) ∧ At1 ts lo hi depth i fin ∧ On base bm bb aT cT ts O w r w.heap.size lo i depth fin wx) (fun _ iv _ => hi - (intOf iv).toNat)
      case atStart => exact ⟨i0, fin0, rfl, rfl, HAt0.out, HOn0.out⟩
      case round =>
        obtain ⟨i, fin, rfl, rfl, hat, hon⟩ := hrel
        clear HAt0 HOn0
        have HAt := hidd hat
        have HOn := hidd hon
        have hi1 := hat.l1
        have hi2 := hat.l2
        clear hat hon
        by_cases hlt : i < hi
        · have hltz : (i : Int) < (hi : Int) := by omega
          obtain ⟨c, hc⟩ : ∃ c, (ts.getD i []).getD depth 0 = c := ⟨_, rfl⟩
          have Hc := hidd hc
          obtain ⟨O1, r1, vS1, vb1, xs1, cs1, va, hmk, hok, hpre, hlen1, hfr, hway, hkids, hts⟩ := HOn.out
          have y0 : wr.cell? ⟨bm, 0, none⟩ = some (.slice aT ts.length cT) := blkc hmk.box 0
          obtain ⟨gT, oT, rfl, hgT, hrT, hcT⟩ := hts.resolve_left (fun h => by rw [h] at h2; simp at h2; omega)
          have HcT := hidd hcT
          have ci := hcT i (by omega)
          have hdi := HAt.out.ne i (Nat.le_refl _) hlt
          have xi : ∀ W, (Instr.index 9 (.string ⟨(ts.getD i []).toArray⟩) (.int .i64 (depth : Int))).run Try.prog W = .ok (.int .u8 (c.toNat : Int)) W := fun W => by rw [idx_run _ _ W hdi, hc]
          clear hc hmk hok hpre hlen1 hfr hway hkids hts hcT
          have hit : (i : Int) < (ts.length : Int) := by omega
          generalize hti : ts.getD i [] = ti at ci xi hdi
          have Hti := hidd hti
          clear hti
          go_upto_block 2 with fail
          go_cut [12] (fun kv wy => ∃ (k m : Nat), i < k ∧ k ≤ hi ∧ kv = .int .i64 (k : Int) ∧ (∀ j, i ≤ j → j < k → (ts.getD j []).getD depth 0 = c) ∧ (k < hi → (ts.getD k []).getD depth 0 ≠ c) ∧ wy = wr.drewN m)
          case first =>
            go_wp2_with fail
            go_loopw [12] (fun kv wx => ∃ (k m : Nat), i ≤ k ∧ k ≤ hi ∧ kv = .int .i64 (k : Int) ∧ (∀ j, i ≤ j → j < k → (ts.getD j []).getD depth 0 = c) ∧ wx = wr.drewN m) (fun kv _ => hi - (intOf kv).toNat)
            case atStart => exact ⟨i, 0, Nat.le_refl _, hi2, rfl, fun j h5 h6 => by omega, rfl⟩
            case round =>
              obtain ⟨k, m, hk1, hk2, rfl, hkc, hw'⟩ := hrel
              subst hw'
              have HKc := hidd hkc
              clear hkc
              by_cases hkh : k < hi
              · have hkz : (k : Int) < (hi : Int) := by omega
                have hkt : (k : Int) < (ts.length : Int) := by omega
                have ck := HcT.out k (by omega)
                have hdk := HAt.out.ne k hk1 hkh
                obtain ⟨c', hc'⟩ : ∃ c', (ts.getD k []).getD depth 0 = c' := ⟨_, rfl⟩
                have Hc' := hidd hc'
                have xk : ∀ W, (Instr.index 9 (.string ⟨(ts.getD k []).toArray⟩) (.int .i64 (depth : Int))).run Try.prog W = .ok (.int .u8 (c'.toNat : Int)) W := fun W => by rw [idx_run _ _ W hdk, hc']
                clear hc'
                generalize htk : ts.getD k [] = tk at ck xk hdk
                clear htk
                by_cases hcc : c' = c
                ·
                  have hbc : ((c'.toNat : Int) == (c.toNat : Int)) = true := by simp [hcc]
                  have HKn : Hid (∀ j, i ≤ j → j < k + 1 → (ts.getD j []).getD depth 0 = c) := fun j h5 h6 => by
                    by_cases e : j = k
                    · rw [e, Hc'.out, hcc]
                    · exact HKc.out j h5 (by omega)
                  clear hcc
                  go_wp2_with fail
                  go_quiet (fail)
                  go_wp2_with fail
                  go_roundw
                  case rel => exact ⟨k + 1, m + nq, by omega, by omega, by go_num, HKn.out, by first | rfl | simp [World.drewN, Nat.add_assoc]⟩
                  case measure => simp [intOf]; omega
                · have hbc : ((c'.toNat : Int) == (c.toNat : Int)) = false := beq_false_of_ne (fun e => hcc (UInt8.toNat_inj.1 (by omega)))
                  have hik : i < k := by
                    rcases Nat.lt_or_ge i k with h5 | h5
                    · exact h5
                    · obtain rfl : i = k := by omega
                      exact absurd (Hc'.out.symm.trans Hc.out) hcc
                  have HNc : Hid (k < hi → (ts.getD k []).getD depth 0 ≠ c) := fun _ => by rw [Hc'.out]; exact hcc
                  clear hcc
                  go_wp2_with fail
                  go_quiet (fail)
                  go_wp2_with fail
                  go_meet
                  case rel => exact ⟨k, m + nq, hik, hk2, rfl, HKc.out, HNc.out, by first | rfl | simp [World.drewN, Nat.add_assoc]⟩
              · have hkz : ¬ (k : Int) < (hi : Int) := by omega
                go_wp2_with fail
                go_quiet (fail)
                go_wp2_with fail
                go_meet
                case rel => exact ⟨k, m + nq, by omega, hk2, rfl, HKc.out, fun h => absurd h hkh, by first | rfl | simp [World.drewN, Nat.add_assoc]⟩
          case rest =>
            obtain ⟨k, m, hikN, hk2, rfl, hkc, hnc, rfl⟩ := hcut
            have hnx := HAt.out.next h2 HRise.out hikN hk2 hkc hnc
            have HNx := hidd hnx
            clear hnx hkc hnc
            have HCl := hidd (fun W (hW : Below wr.heap.size wr W) => call_any (k := k) HIh.out h3 h2 HLen.out hdf HRise.out HSz.out hbase HAt.out (HOn.out.below hW) HNx.out.1 hikN hk2)
            go_wp2_with fail
            refine (HCl.out _ (below_drewN (Below.refl _ _) m)).mono ?_
            rintro e w2 ⟨O1, O2, r2, vS2, vb2, xs2, cs2, va, rfl, q1, q2, q3, q4, q5, q6, q7, q8, q9, q10⟩
            have Hmk := hidd q1
            have Hfr := hidd q7
            have Hway := hidd q8
            have HPu := hidd (fun V w6 g6 cp6 => arc_push (V := V) (w6 := w6) (g6 := g6) (cp6 := cp6) q1 q2 q3 q4 q5 q6 q7 q8 q9 HTs.out HNx.out.1 HNx.out.2.1 hi1 hikN (by omega) q10)
            have hll : (stOf O1 (suf ts lo i depth)).2.length ≤ 256 := by have := labelsT_len (suf ts lo i depth); simpa [stOf] using this
            have z0 : w2.cell? ⟨bm, 0, none⟩ = some (.slice (some ⟨gT, oT, none⟩) ts.length cT) := blkc q1.box 0
            have z1 : w2.cell? ⟨w.heap.size, 1, none⟩ = some va := blkc q8.box 1
            have z2 := HTs.out.text q7 (show i < ts.length by omega)
            rw [Hti.out] at z2
            have hzb : bm < w2.heap.size := (Array.getElem?_eq_some_iff.1 q1.box).1
            have hzs : w.heap.size < w2.heap.size := (Array.getElem?_eq_some_iff.1 q8.box).1
            have hzT : gT < w2.heap.size := cell_lt z2
            have HXb := hidd (List.idxOf_lt_length_of_mem q10)
            have hO2 : O2.length ≤ 300000 := by
              have e1 := szT_tail HNx.out.1
              rw [suf_tail] at e1
              have e2 := szT_append (suf ts lo i depth) (suf ts i hi depth)
              rw [← suf_split ts hi1 hi2 h2] at e2
              have e3 := szT_append (suf ts i k depth) (suf ts k hi depth)
              rw [← suf_split ts (show i ≤ k by omega) hk2 h2] at e3
              have e4 := HSz.out
              have e5 := suf_len ts (lo := i) (hi := k) (depth := depth) (by omega) (by omega)
              omega
            have hXb : O2.idxOf (suf ts i k (depth + 1)) ≤ 300000 := by have := HXb.out; omega
            clear q1 q2 q3 q4 q5 q6 q7 q8 q9 q10 ci y0
            generalize (stOf O1 (suf ts lo i depth)).2 = l at *
            generalize O2.idxOf (suf ts i k (depth + 1)) = X at *
            go_upto_region 13 with fail
            have hwc : IntKind.i64.wrap (c.toNat : Int) = (c.toNat : Int) := by have := UInt8.toNat_lt c; exact IntWalk.i64_in _ ⟨by omega, by omega⟩
            go_cut [13] (fun _ wy => On base bm bb (some ⟨gT, oT, none⟩) cT ts O w r w.heap.size lo k depth fin wy)
            case first =>
              go_region_law (refine step_append_lies _ rfl (.tmp 73) (.tmp 87) 80 rfl w.heap.size 85 a0 (.agg #[.int .i64 0, .int .i64 0, .int .i64 0]) 3 24 Try.underlying80 ha0 hza0 hza1 hza2 rfl (by decide) va l.length (aC l) (by simp [Act.eval]) (by first | exact Hway.out.row.drew.alloc _ | exact Hway.out.row.alloc _) ⟨w2.heap.size, 0, none⟩ 1 1 [.int .i64 (c.toNat : Int), .int .i64 (X : Int), .int .i64 ((i : Int) - (lo : Int))] (by simp [Act.eval]) rfl (by intro j' u' hj'; match j', hj' with | 0, hj' => simp at hj'; subst hj'; simp [Addr.add] | 1, hj' => simp at hj'; subst hj'; simp [Addr.add] | 2, hj' => simp at hj'; subst hj'; simp [Addr.add]) (by intro u' hu'; simp at hu'; rcases hu' with rfl | rfl | rfl <;> rfl) (by omega) (by unfold maxLen; omega) (by omega) (by simp; omega) _ rfl ?_; intro g6 cp6 w6 hown6 hgrow6 hat6 hlt6; have hpu := HPu.out _ w6 g6 cp6 (by first | exact (below_drewN (Below.refl _ _) 1).alloc (by simp) _ | exact (Below.refl _ _).alloc (by simp) _) (by simp) hown6 hgrow6 hat6 hlt6; obtain ⟨t1, t2, t3⟩ := hpu; have HT3 := hidd t3; clear t3 hown6 hgrow6 hat6 hlt6)
              all_goals
                clear t1 t2 z0 z1 z2 xi
                go_wp2_with fail
                go_meet
                exact HT3.out
            case rest =>
              have HT3 := hidd hcut
              clear hcut z0 z1 z2 xi
              go_wp2_with fail
              go_roundw
              · exact ⟨k, fin, by go_num, rfl, HNx.out.2.2, HT3.out⟩
              · simp [intOf]; omega
        · have hltz : ¬ (i : Int) < (hi : Int) := by omega
          obtain rfl : i = hi := by omega
          obtain ⟨O1, r1, vS1, vb1, xs1, cs1, va, hmk, hok, hpre, hlen1, hfr, hway, hkids, hts⟩ := HOn.out
          have HRs := hidd HRise.out
          have hsz1 := HSz.out
          have hsl := suf_len ts (lo := lo) (hi := i) (depth := depth) h1 h2
          have hfin := HAt.out.fin
          have hsge := szT_ge (suf ts lo i depth)
          obtain ⟨L, hL⟩ : ∃ L, suf ts lo i depth = L := ⟨_, rfl⟩
          rw [hL] at hlen1 hway hkids HRs hsz1 hsl hfin hsge
          have HLL := hidd hL
          clear hL
          obtain ⟨aA, cA, rfl, hA, hAb⟩ := holdA_of hway.row
          have hO1 : O1.length + 1 ≤ 300000 := by omega
          have Hsm := hidd (stOf_small hkids (by omega))
          have hll : (stOf O1 L).2.length ≤ 256 := by have := labelsT_len L; simpa [stOf] using this
          have Hst : Hid (stOf O1 L = (fin, (stOf O1 L).2)) := by show _ = _; rw [hfin]; rfl
          have s0 : wr.cell? ⟨w.heap.size, 0, none⟩ = some (.bool fin) := blkc hway.box 0
          have s1 : wr.cell? ⟨w.heap.size, 1, none⟩ = some (.slice aA (stOf O1 L).2.length cA) := blkc hway.box 1
          have hss : w.heap.size < wr.heap.size := (Array.getElem?_eq_some_iff.1 hway.box).1
          have Hmk := hidd hmk
          have Hway := hidd hway
          have Hfr := hidd hfr
          have HA := hidd hA
          have HAb := hidd hAb
          have Hok := hidd hok
          have Hkids := hidd hkids
          have Hpre := hidd hpre
          have Hlen1 : Hid (O1.length + L.length ≤ O.length + szT L) := hlen1
          have Hsl := hidd hsl
          clear hmk hway hfr hA hAb hok hkids hpre hlen1 hts HOn hsz1 hsge hfin hsl
          obtain ⟨l, hl⟩ : ∃ l, (stOf O1 L).2 = l := ⟨_, rfl⟩
          rw [hl] at Hsm hll Hst s1 Hway HA HAb
          have Hl := hidd hl
          clear hl
          obtain ⟨H, hH⟩ : ∃ H, mixOf (fin, l) = H := ⟨_, rfl⟩
          have hH2 : H < 1024 := by rw [← hH]; exact Nat.mod_lt _ (by omega)
          have HH := hidd hH
          have Hmix := hidd (mix_any fin aA cA l wr (by omega) HA.out Hsm.out)
          rw [hH] at Hmix
          clear hH
          have HMx : Hid (∀ W, Below wr.heap.size wr W → MkAt W r1 base bm bb aT ts.length cT O1 vS1 vb1 xs1 cs1) := fun W hW => Hmk.out.kept hW.size (fun b hb _ => hW.block b hb)
          obtain ⟨aB, cB, hvb⟩ := own_form (Hmk.out.lst H hH2).1
          have HVb := hidd hvb
          clear hvb
          have hbl := bkt_len (stM O1) H
          rw [stM_len] at hbl
          go_wp2_with fail
          refine Hmix.out.mono ?_
          rintro e w2 ⟨rfl, hb2⟩
          have HB2 := hidd hb2
          clear hb2
          go_wp2_with fail
          go_loopw [15] (fun jv wx => ∃ j : Nat, j ≤ (bkt (stM O1) H).length ∧ jv = .int .i64 (j : Int) ∧ (∀ jj, jj < j → (stM O1).getD ((bkt (stM O1) H).getD jj 0) st0 ≠ (fin, l)) ∧ Below wr.heap.size wr wx) (fun jv _ => (bkt (stM O1) H).length - (intOf jv).toNat)
          case atStart => exact ⟨0, Nat.zero_le _, rfl, fun jj h5 => by omega, HB2.out⟩
          case round =>
            obtain ⟨j, hj, rfl, hno, hbx⟩ := hrel
            clear HB2
            have HNo := hidd hno
            have HBx := hidd hbx
            have hmx := HMx.out _ hbx
            have b0 := blkc hmx.box 3
            have b1 := (blkc hmx.bks H).trans (hmx.cat H hH2)
            rw [HVb.out] at b1
            have hzx := hbx.size
            clear hno hbx
            by_cases hjl : j < (bkt (stM O1) H).length
            ·
                have hjz : (j : Int) < ((bkt (stM O1) H).length : Int) := by omega
                obtain ⟨gb, cb', e1, hgb, kb⟩ := hmx.bkAt hH2 hjl
                rw [HVb.out] at e1
                simp only [Value.slice.injEq, true_and] at e1
                obtain ⟨rfl, rfl⟩ := e1
                have hxm : (bkt (stM O1) H).getD j 0 < O1.length := by
                  have := (bkt_lt (S := stM O1) (h := H) (j := (bkt (stM O1) H).getD j 0) (by rw [List.getD_eq_getElem?_getD, List.getElem?_eq_getElem hjl]; exact List.getElem_mem _)).1
                  rwa [stM_len] at this
                obtain ⟨x, hx⟩ : ∃ x, (bkt (stM O1) H).getD j 0 = x := ⟨_, rfl⟩
                have Hx := hidd hx
                rw [hx] at kb hxm
                clear hx
                obtain ⟨gS, cS, aj, cj, eS, hgS, k0, k1, hAj⟩ := hmx.stAt hxm
                have b2 := blkc hmx.box 1
                obtain ⟨sx, hsx⟩ : ∃ sx, (stM O1).getD x st0 = sx := ⟨_, rfl⟩
                obtain ⟨fx, lx⟩ := sx
                rw [hsx] at k0 k1 hAj
                have Hsx := hidd hsx
                clear hsx
                have hlx : lx.length ≤ 256 := by
                  have h5 := stM_at (O := O1) (List.getElem?_eq_getElem hxm)
                  rw [Hsx.out] at h5
                  have h6 := congrArg (fun z => z.2.length) h5
                  have h7 := labelsT_len O1[x]
                  simp [stOf] at h6
                  omega
                have hbmx : bm < wr.heap.size := (Array.getElem?_eq_some_iff.1 hmx.box).1
                have hbbx : bb < wr.heap.size := (Array.getElem?_eq_some_iff.1 hmx.bks).1
                have t0 : wr.cell? ⟨w.heap.size, 0, none⟩ = some (.bool fin) := (HBx.out.cell (p := ⟨w.heap.size, 0, none⟩) hss).trans s0
                have t1 : wr.cell? ⟨w.heap.size, 1, none⟩ = some (.slice aA l.length cA) := (HBx.out.cell (p := ⟨w.heap.size, 1, none⟩) hss).trans s1
                have hssx : w.heap.size < wr.heap.size := by omega
                obtain ⟨R, hR⟩ : ∃ R, decide ((fx, lx) = (fin, l)) = R := ⟨_, rfl⟩
                have HR := hidd hR
                have HSame : Hid (∀ W, Below wr.heap.size wr W → Calls Try.prog 96 #[.agg #[.bool fx, .slice aj lx.length cj], .agg #[.bool fin, .slice aA l.length cA]] W fun e w' => e = .returned (.bool R) ∧ Below wr.heap.size wr w') := fun W hW => (sameState_any fx fin aj aA cj cA lx l W (by omega) (by omega) (hAj.below hW) ((HA.out.below HBx.out).below hW) R hR).mono (by rintro e w' ⟨h5, h6⟩; exact ⟨h5, hW.trans (h6.mono hW.size)⟩)
                clear hR hAj
                subst eS
                have hxz : (x : Int) < (O1.length : Int) := by omega
                have hHz : (H : Int) < 1024 := by omega
                have b2' : wr.cell? ⟨bm, 1, none⟩ = some (.slice (some ⟨gS, 0, none⟩) O1.length cS) := b2
                have b0' : wr.cell? ⟨bm, 3, none⟩ = some (.slice (some ⟨bb, 0, none⟩) 1024 1024) := b0
                clear b0 b2 hmx
                go_wp2_with fail
                go_region_held3 (fun W => W.cell? ⟨bm, 1, none⟩ = some (.slice (some ⟨gS, 0, none⟩) O1.length cS) ∧ W.cell? ⟨bm, 3, none⟩ = some (.slice (some ⟨bb, 0, none⟩) 1024 1024) ∧ W.cell? ⟨bb, H, none⟩ = some (.slice (some ⟨gb, 0, none⟩) (bkt (stM O1) H).length cB) ∧ W.cell? ⟨gb, j, none⟩ = some (.int .i64 (x : Int)) ∧ W.cell? ⟨gS, x * 2, none⟩ = some (.bool fx) ∧ W.cell? ⟨gS, x * 2 + 1, none⟩ = some (.slice aj lx.length cj) ∧ W.cell? ⟨w.heap.size, 0, none⟩ = some (.bool fin) ∧ W.cell? ⟨w.heap.size, 1, none⟩ = some (.slice aA l.length cA))
                  (first | exact hS3 | go_keep)
                  (first
                  | (go_at_call 96; refine (HSame.out _ (by first | exact below_drewN (Below.refl _ _) 1 | exact Below.refl _ _)).mono ?_; rintro e w3 ⟨rfl, hb3⟩; have hS3 : w3.cell? ⟨bm, 1, none⟩ = some (.slice (some ⟨gS, 0, none⟩) O1.length cS) ∧ w3.cell? ⟨bm, 3, none⟩ = some (.slice (some ⟨bb, 0, none⟩) 1024 1024) ∧ w3.cell? ⟨bb, H, none⟩ = some (.slice (some ⟨gb, 0, none⟩) (bkt (stM O1) H).length cB) ∧ w3.cell? ⟨gb, j, none⟩ = some (.int .i64 (x : Int)) ∧ w3.cell? ⟨gS, x * 2, none⟩ = some (.bool fx) ∧ w3.cell? ⟨gS, x * 2 + 1, none⟩ = some (.slice aj lx.length cj) ∧ w3.cell? ⟨w.heap.size, 0, none⟩ = some (.bool fin) ∧ w3.cell? ⟨w.heap.size, 1, none⟩ = some (.slice aA l.length cA) := ⟨(hb3.cell (p := ⟨bm, 1, none⟩) hbmx).trans b2', (hb3.cell (p := ⟨bm, 3, none⟩) hbmx).trans b0', (hb3.cell (p := ⟨bb, H, none⟩) hbbx).trans b1, (hb3.cell (p := ⟨gb, j, none⟩) hgb).trans kb, (hb3.cell (p := ⟨gS, x * 2, none⟩) hgS).trans k0, (hb3.cell (p := ⟨gS, x * 2 + 1, none⟩) hgS).trans k1, (hb3.cell (p := ⟨w.heap.size, 0, none⟩) hssx).trans t0, (hb3.cell (p := ⟨w.heap.size, 1, none⟩) hssx).trans t1⟩; have HB3 := hidd hb3; clear hb3)
                  | fail)
                have HBw := hidd (HBx.out.trans (HB3.out.mono HBx.out.size))
                obtain ⟨v0, v1, v2, v3, v4, v5, v6, v7⟩ := hS3
                clear t0 t1 b0' b1 b2' kb k0 k1 v0 v4 v5 v6 v7
                cases R with
                | true =>
                  have HF : Hid ((stM O1).getD x st0 = stOf O1 L) := by show _ = _; rw [Hsx.out, Hst.out]; exact of_decide_eq_true HR.out
                  have HFo := hidd (found Hok.out HRs.out Hkids.out hxm HF.out)
                  go_wp2_with fail
                  go_ret
                  refine ⟨O1, r1, _, vb1, xs1, cs1, by rw [HLL.out, HFo.out.2]; rfl, HMx.out _ HBw.out, Hok.out, Hpre.out, by rw [HLL.out]; exact HFo.out.1, by rw [HLL.out]; have := Hlen1.out; omega, Hfr.out.below HBw.out⟩
                | false =>
                  have HN2 : Hid (∀ jj, jj < j + 1 → (stM O1).getD ((bkt (stM O1) H).getD jj 0) st0 ≠ (fin, l)) := fun jj h5 => by
                    by_cases e : jj = j
                    · rw [e, Hx.out, Hsx.out]; exact of_decide_eq_false HR.out
                    · exact HNo.out jj (by omega)
                  go_wp2_with fail
                  go_roundw
                  case rel => exact ⟨j + 1, by omega, by go_num, HN2.out, HBw.out⟩
                  case measure => simp [intOf]; omega
            ·
                have hjz : ¬ (j : Int) < ((bkt (stM O1) H).length : Int) := by omega
                have HNotin : Hid (L ∉ O1) := missed (H := H) (by rw [Hst.out]; exact HH.out) (fun jj h5 => by rw [Hst.out]; exact HNo.out jj (by omega))
                obtain ⟨i1, hi1', hz0, hz1, hz2⟩ := info_parts Try.infoSt
                obtain ⟨i2, hi2', hy0, hy1, hy2⟩ := info_parts Try.infoIn
                have t0 : wr.cell? ⟨w.heap.size, 0, none⟩ = some (.bool fin) := (HBx.out.cell (p := ⟨w.heap.size, 0, none⟩) hss).trans s0
                have t1 : wr.cell? ⟨w.heap.size, 1, none⟩ = some (.slice aA l.length cA) := (HBx.out.cell (p := ⟨w.heap.size, 1, none⟩) hss).trans s1
                have b2 := blkc hmx.box 1
                have Hmx := hidd hmx
                clear hmx
                have b0' : wr.cell? ⟨bm, 3, none⟩ = some (.slice (some ⟨bb, 0, none⟩) 1024 1024) := b0
                have b2' : wr.cell? ⟨bm, 1, none⟩ = some vS1 := b2
                clear b0 b2
                have hHz : (H : Int) < 1024 := by omega
                have HWx := hidd (Hway.out.fr ((MkFr.refl _ r1).below HBx.out))
                have HAx := hidd (HA.out.below HBx.out)
                have hzw : base ≤ wr.heap.size := by omega
                have hbmx : bm < wr.heap.size := (Array.getElem?_eq_some_iff.1 Hmx.out.box).1
                have hbbx : bb < wr.heap.size := (Array.getElem?_eq_some_iff.1 Hmx.out.bks).1
                have hssx : w.heap.size < wr.heap.size := by omega
                go_upto_region 22 with fail
                go_cut [8] (fun _ wy => ∃ gS cS : Nat, wr.heap.size ≤ wy.heap.size ∧ wy.heap[bm]? = some (.cells #[.slice aT ts.length cT, .slice (some ⟨gS, 0, none⟩) (O1.length + 1) cS, .slice none 0 0, .slice (some ⟨bb, 0, none⟩) 1024 1024] 112) ∧ wy.ownsRow base 82 2 (.slice (some ⟨gS, 0, none⟩) (O1.length + 1) cS) (O1.length + 1) (xs1 ++ [.bool fin, .slice aA l.length cA]) ∧ (∀ b, b < wr.heap.size → r1 b ≠ .mk → r1 b ≠ .st → wy.heap[b]? = wr.heap[b]?) ∧ (gS < wr.heap.size → r1 gS = .st) ∧ gS ≠ bm ∧ wy.os = wr.os ∧ wy.tape = wr.tape ∧ wy.output = wr.output)
                case first =>
                    go_region_law (refine step_append_lies _ rfl (.tmp 142) (.tmp 144) 25 rfl base 82 i1 (.agg #[.bool false, .slice none 0 0]) 2 32 Try.underlying25 hi1' hz0 hz1 hz2 rfl (by decide) vS1 O1.length xs1 (by simp [Act.eval]) (by first | exact Hmx.out.row.drew.alloc _ | exact Hmx.out.row.alloc _) ⟨wr.heap.size, 0, none⟩ 1 1 [.bool fin, .slice aA l.length cA] (by simp [Act.eval]) rfl (by intro j' u' hj'; match j', hj' with | 0, hj' => simp at hj'; subst hj'; simp [Addr.add] | 1, hj' => simp at hj'; subst hj'; simp [Addr.add]) (by intro u' hu'; simp at hu'; rcases hu' with rfl | rfl <;> rfl) (by omega) (by unfold maxLen; omega) (by omega) (by first | omega | (simp; omega)) _ rfl ?_; intro g6 cp6 w6 hown6 hgrow6 hat6 hlt6; obtain ⟨n1, n2, n3, n4, n5, n6, n7, n8, n9, n10, n11⟩ := push_one Hmx.out (by first | exact (below_drewN (Below.refl _ _) 1).alloc (by simp) _ | exact (Below.refl _ _).alloc (by simp) _) hown6 hgrow6 hat6; have HN4 := hidd n4; have HN5 := hidd n5; have HN6 := hidd n6; have HN7 := hidd n7; have HN9 := hidd n9; have HN10 := hidd n10; have HN11 := hidd n11; clear n4 n5 n6 n7 n9 n10 n11 hown6 hgrow6 hat6)
                    all_goals
                      go_wp2_with fail
                      go_meet
                      exact ⟨g6, cp6, by simpa using n3, HN4.out, HN5.out, HN6.out, HN7.out, n8, HN9.out, HN10.out, HN11.out⟩
                case rest =>
                  obtain ⟨gS, cS, m1, m2, m3, m4, m5, m6, m7, m8, m9⟩ := hcut
                  have HM3 := hidd m3
                  have HM4 := hidd m4
                  have HM2 := hidd m2
                  have HM5 := hidd m5
                  have hrH := (Hmx.out.lst H hH2).2
                  have Hob : Hid (wc.ownsRow base 3 1 (.slice aB (bkt (stM O1) H).length cB) (bkt (stM O1) H).length (nV (bkt (stM O1) H))) := by
                    have h5 := (Hmx.out.lst H hH2).1
                    have h6 : wc.ownsRow base 3 1 (vb1 H) (bkt (stM O1) H).length (nV (bkt (stM O1) H)) := own_congr h5 fun b hb => HM4.out b (h5.lt b hb).2 (by rw [hrH b hb]; simp) (by rw [hrH b hb]; simp)
                    rw [HVb.out] at h6
                    exact h6
                  have y1 : wc.cell? ⟨bm, 1, none⟩ = some (.slice (some ⟨gS, 0, none⟩) (O1.length + 1) cS) := blkc m2 1
                  have y3 : wc.cell? ⟨bm, 3, none⟩ = some (.slice (some ⟨bb, 0, none⟩) 1024 1024) := blkc m2 3
                  have yH : wc.cell? ⟨bb, H, none⟩ = some (.slice aB (bkt (stM O1) H).length cB) := by
                    have h5 : wc.heap[bb]? = some (.cells cs1 66) := (HM4.out bb hbbx (by rw [Hmx.out.rbb]; simp) (by rw [Hmx.out.rbb]; simp)).trans Hmx.out.bks
                    rw [blkc h5 H, Hmx.out.cat H hH2, HVb.out]
                  have hbmc : bm < wc.heap.size := by omega
                  have hbbc : bb < wc.heap.size := by omega
                  have hO1z : (O1.length : Int) + 1 - 1 = (O1.length : Int) := by omega
                  have hwO : IntKind.i64.wrap (O1.length : Int) = (O1.length : Int) := IntWalk.i64_in _ ⟨by omega, by omega⟩
                  have hbc : base ≤ wc.heap.size := by omega
                  clear m2 m3 m4 m5 hrH t0 t1 b0' b1 b2'
                  have hAr : ∀ b off, aA = some ⟨b, off, none⟩ → r1 b = .oth ∧ b < wr.heap.size ∧ (Value.slice aA l.length cA).ownBlock = some b := fun b off e => by
                    have h5 := HAb.out b off e
                    have h6 := HWx.out.rv b h5
                    exact ⟨h6.1, h6.2.2, h5⟩
                  have HP2 := hidd (fun V w8 gB cB' => push_two (V := V) (w8 := w8) (gB := gB) (cB := cB') (ca := cA) Hmx.out Hok.out Hkids.out Hst.out HH.out hH2 HAx.out hAr (fun b hb => ⟨(HWx.out.rv b hb).1, (HWx.out.rv b hb).2.2⟩) m1 HM2.out HM3.out HM4.out HM5.out m6)
                  have HownVb := hidd HVb.out
                  clear hAr
                  go_upto_region 23 with fail
                  go_cut [8] (fun _ wy => ∃ (r' : Nat → Role) (vS' : Value) (vb' : Nat → Value) (xs' : List Value) (cs' : Array Value), MkAt wy r' base bm bb aT ts.length cT (O1 ++ [L]) vS' vb' xs' cs' ∧ vS' = .slice (some ⟨gS, 0, none⟩) (O1.length + 1) cS ∧ wr.heap.size ≤ wy.heap.size ∧ (∀ b, b < wr.heap.size → r1 b = .oth ∨ r1 b = .arc → wy.heap[b]? = wr.heap[b]?) ∧ (∀ b, b < wr.heap.size → (Value.slice aA l.length cA).ownBlock ≠ some b → r' b = r1 b) ∧ wy.os = wr.os ∧ wy.tape = wr.tape ∧ wy.output = wr.output)
                  case first =>
                      have HS0 : Hid (∀ W, Below wc.heap.size wc W → (W.cell? ⟨bm, 3, none⟩ = some (.slice (some ⟨bb, 0, none⟩) 1024 1024) ∧ W.cell? ⟨bm, 1, none⟩ = some (.slice (some ⟨gS, 0, none⟩) (O1.length + 1) cS))) := fun W hW => ⟨(hW.cell (p := ⟨bm, 3, none⟩) hbmc).trans y3, (hW.cell (p := ⟨bm, 1, none⟩) hbmc).trans y1⟩
                      have hB1 : Below wc.heap.size wc wc.drew := below_drewN (Below.refl _ wc) 1
                      have HS1 := hidd (HS0.out _ hB1)
                      have hO1m : O1.length ≤ 300000 := by omega
                      refine wp_region_held (S := fun W' => W'.cell? ⟨bm, 3, none⟩ = some (.slice (some ⟨bb, 0, none⟩) 1024 1024) ∧ W'.cell? ⟨bm, 1, none⟩ = some (.slice (some ⟨gS, 0, none⟩) (O1.length + 1) cS)) (by kernel_rfl) ?_
                      try simp only [Act.put, List.getElem_toArray, List.getElem_cons_succ, List.getElem_cons_zero, List.setIfInBounds_toArray, List.set_cons_zero, List.set_cons_succ]
                      refine wpAnyH_take (i := 0) (v := (.pointer (some ⟨bm, 0, none⟩))) rfl (by kernel_rfl) (by kernel_rfl) (by kernel_rfl) (fun _ _ _ h => h) (Or.inl ⟨by kernel_rfl, fun W hW => mkx_move W _ _ _ rfl _ (by kernel_rfl)⟩) HS1.out ?_
                      try simp only [Act.put, List.getElem_toArray, List.getElem_cons_succ, List.getElem_cons_zero, List.setIfInBounds_toArray, List.set_cons_zero, List.set_cons_succ]
                      refine wpAnyH_take (i := 1) (v := (.pointer (some ⟨bm, 0, none⟩))) rfl (by kernel_rfl) (by kernel_rfl) (by kernel_rfl) (fun _ _ _ h => h) (Or.inl ⟨by kernel_rfl, fun W hW => mkx_nil W _ _ _ rfl bm 0 (by kernel_rfl)⟩) HS1.out ?_
                      try simp only [Act.put, List.getElem_toArray, List.getElem_cons_succ, List.getElem_cons_zero, List.setIfInBounds_toArray, List.set_cons_zero, List.set_cons_succ]
                      refine wpAnyH_take (i := 2) (v := (.pointer (some ⟨bm, 3, none⟩))) rfl (by kernel_rfl) (by kernel_rfl) (by kernel_rfl) (fun _ _ _ h => h) (Or.inl ⟨by kernel_rfl, fun W hW => mkx_field3 W _ _ _ rfl bm (by kernel_rfl)⟩) HS1.out ?_
                      try simp only [Act.put, List.getElem_toArray, List.getElem_cons_succ, List.getElem_cons_zero, List.setIfInBounds_toArray, List.set_cons_zero, List.set_cons_succ]
                      refine wpAnyH_take (i := 3) (v := (.slice (some ⟨bb, 0, none⟩) 1024 1024)) rfl (by kernel_rfl) (by kernel_rfl) (by kernel_rfl) (fun _ _ _ h => h) (Or.inl ⟨by kernel_rfl, fun W hW => mkx_loadBk W _ _ _ rfl bm 3 _ _ _ (by kernel_rfl) hW.1⟩) HS1.out ?_
                      try simp only [Act.put, List.getElem_toArray, List.getElem_cons_succ, List.getElem_cons_zero, List.setIfInBounds_toArray, List.set_cons_zero, List.set_cons_succ]
                      refine wpAnyH_take (i := 4) (v := (.int .i64 (H : Int))) rfl (by kernel_rfl) (by kernel_rfl) (by kernel_rfl) (fun _ _ _ h => h) (Or.inl ⟨by kernel_rfl, fun W hW => mkx_move W _ _ _ rfl _ (by kernel_rfl)⟩) HS1.out ?_
                      try simp only [Act.put, List.getElem_toArray, List.getElem_cons_succ, List.getElem_cons_zero, List.setIfInBounds_toArray, List.set_cons_zero, List.set_cons_succ]
                      refine wpAnyH_take (i := 5) (v := (.pointer (some ⟨bm, 0, none⟩))) rfl (by kernel_rfl) (by kernel_rfl) (by kernel_rfl) (fun _ _ _ h => h) (Or.inl ⟨by kernel_rfl, fun W hW => mkx_move W _ _ _ rfl _ (by kernel_rfl)⟩) HS1.out ?_
                      try simp only [Act.put, List.getElem_toArray, List.getElem_cons_succ, List.getElem_cons_zero, List.setIfInBounds_toArray, List.set_cons_zero, List.set_cons_succ]
                      refine wpAnyH_take (i := 6) (v := (.pointer (some ⟨bm, 0, none⟩))) rfl (by kernel_rfl) (by kernel_rfl) (by kernel_rfl) (fun _ _ _ h => h) (Or.inl ⟨by kernel_rfl, fun W hW => mkx_nil W _ _ _ rfl bm 0 (by kernel_rfl)⟩) HS1.out ?_
                      try simp only [Act.put, List.getElem_toArray, List.getElem_cons_succ, List.getElem_cons_zero, List.setIfInBounds_toArray, List.set_cons_zero, List.set_cons_succ]
                      refine wpAnyH_take (i := 7) (v := (.pointer (some ⟨bm, 3, none⟩))) rfl (by kernel_rfl) (by kernel_rfl) (by kernel_rfl) (fun _ _ _ h => h) (Or.inl ⟨by kernel_rfl, fun W hW => mkx_field3 W _ _ _ rfl bm (by kernel_rfl)⟩) HS1.out ?_
                      try simp only [Act.put, List.getElem_toArray, List.getElem_cons_succ, List.getElem_cons_zero, List.setIfInBounds_toArray, List.set_cons_zero, List.set_cons_succ]
                      refine wpAnyH_take (i := 8) (v := (.slice (some ⟨bb, 0, none⟩) 1024 1024)) rfl (by kernel_rfl) (by kernel_rfl) (by kernel_rfl) (fun _ _ _ h => h) (Or.inl ⟨by kernel_rfl, fun W hW => mkx_loadBk W _ _ _ rfl bm 3 _ _ _ (by kernel_rfl) hW.1⟩) HS1.out ?_
                      try simp only [Act.put, List.getElem_toArray, List.getElem_cons_succ, List.getElem_cons_zero, List.setIfInBounds_toArray, List.set_cons_zero, List.set_cons_succ]
                      refine wpAnyH_take (i := 9) (v := (.int .i64 (H : Int))) rfl (by kernel_rfl) (by kernel_rfl) (by kernel_rfl) (fun _ _ _ h => h) (Or.inl ⟨by kernel_rfl, fun W hW => mkx_move W _ _ _ rfl _ (by kernel_rfl)⟩) HS1.out ?_
                      try simp only [Act.put, List.getElem_toArray, List.getElem_cons_succ, List.getElem_cons_zero, List.setIfInBounds_toArray, List.set_cons_zero, List.set_cons_succ]
                      refine wpAnyH_take (i := 10) (v := (.pointer (some ⟨bb, H, none⟩))) rfl (by kernel_rfl) (by kernel_rfl) (by kernel_rfl) (fun _ _ _ h => h) (Or.inl ⟨by kernel_rfl, fun W hW => mkx_idxB W _ _ _ _ rfl bb H hHz (by kernel_rfl) (by kernel_rfl)⟩) HS1.out ?_
                      try simp only [Act.put, List.getElem_toArray, List.getElem_cons_succ, List.getElem_cons_zero, List.setIfInBounds_toArray, List.set_cons_zero, List.set_cons_succ]
                      refine wpAnyH_take (i := 12) (v := (.pointer (some ⟨bm, 0, none⟩))) rfl (by kernel_rfl) (by kernel_rfl) (by kernel_rfl) (fun _ _ _ h => h) (Or.inl ⟨by kernel_rfl, fun W hW => mkx_move W _ _ _ rfl _ (by kernel_rfl)⟩) HS1.out ?_
                      try simp only [Act.put, List.getElem_toArray, List.getElem_cons_succ, List.getElem_cons_zero, List.setIfInBounds_toArray, List.set_cons_zero, List.set_cons_succ]
                      refine wpAnyH_take (i := 13) (v := (.pointer (some ⟨bm, 0, none⟩))) rfl (by kernel_rfl) (by kernel_rfl) (by kernel_rfl) (fun _ _ _ h => h) (Or.inl ⟨by kernel_rfl, fun W hW => mkx_nil W _ _ _ rfl bm 0 (by kernel_rfl)⟩) HS1.out ?_
                      try simp only [Act.put, List.getElem_toArray, List.getElem_cons_succ, List.getElem_cons_zero, List.setIfInBounds_toArray, List.set_cons_zero, List.set_cons_succ]
                      refine wpAnyH_take (i := 14) (v := (.pointer (some ⟨bm, 1, none⟩))) rfl (by kernel_rfl) (by kernel_rfl) (by kernel_rfl) (fun _ _ _ h => h) (Or.inl ⟨by kernel_rfl, fun W hW => mkx_field1 W _ _ _ rfl bm (by kernel_rfl)⟩) HS1.out ?_
                      try simp only [Act.put, List.getElem_toArray, List.getElem_cons_succ, List.getElem_cons_zero, List.setIfInBounds_toArray, List.set_cons_zero, List.set_cons_succ]
                      refine wpAnyH_take (i := 15) (v := (.slice (some ⟨gS, 0, none⟩) (O1.length + 1) cS)) rfl (by kernel_rfl) (by kernel_rfl) (by kernel_rfl) (fun _ _ _ h => h) (Or.inl ⟨by kernel_rfl, fun W hW => mkx_loadSt W _ _ _ rfl bm 1 _ _ _ (by kernel_rfl) hW.2⟩) HS1.out ?_
                      try simp only [Act.put, List.getElem_toArray, List.getElem_cons_succ, List.getElem_cons_zero, List.setIfInBounds_toArray, List.set_cons_zero, List.set_cons_succ]
                      refine wpAnyH_take (i := 16) (v := (.int .i64 ((O1.length + 1 : Nat) : Int))) rfl (by kernel_rfl) (by kernel_rfl) (by kernel_rfl) (fun _ _ _ h => h) (Or.inl ⟨by kernel_rfl, fun W hW => mkx_lenS W _ _ _ rfl (some ⟨gS, 0, none⟩) (O1.length + 1) cS (by kernel_rfl)⟩) HS1.out ?_
                      try simp only [Act.put, List.getElem_toArray, List.getElem_cons_succ, List.getElem_cons_zero, List.setIfInBounds_toArray, List.set_cons_zero, List.set_cons_succ]
                      refine wpAnyH_take (i := 17) (v := (.int .i64 (O1.length : Int))) rfl (by kernel_rfl) (by kernel_rfl) (by kernel_rfl) (fun _ _ _ h => h) (Or.inl ⟨by kernel_rfl, fun W hW => mkx_sub1 W _ _ _ rfl O1.length hO1m (by kernel_rfl) (by kernel_rfl)⟩) HS1.out ?_
                      try simp only [Act.put, List.getElem_toArray, List.getElem_cons_succ, List.getElem_cons_zero, List.setIfInBounds_toArray, List.set_cons_zero, List.set_cons_succ]
                      have hyH : wc.drew.cell? ⟨bb, H, none⟩ = some (.slice aB (bkt (stM O1) H).length cB) := (hB1.cell (p := ⟨bb, H, none⟩) hbbc).trans yH
                      have hB2 : Below wc.heap.size wc (wc.drew.alloc (.cells #[.int .i64 (O1.length : Int)] 3)) := hB1.alloc hB1.size _
                      have hyA : (wc.drew.alloc (.cells #[.int .i64 (O1.length : Int)] 3)).cell? ⟨bb, H, none⟩ = some (.slice aB (bkt (stM O1) H).length cB) := (hB2.cell (p := ⟨bb, H, none⟩) hbbc).trans yH
                      have HS2 := hidd (HS0.out _ hB2)
                      refine mkAny_two 11 18 (by kernel_rfl) ?oA ?oB
                      case oA =>
                        refine mkOp_val (.slice aB (bkt (stM O1) H).length cB) _ rfl (by kernel_rfl) (mkx_loadIn _ _ _ _ rfl bb H _ _ _ (by kernel_rfl) hyH) ?_
                        refine ⟨HS1.out, ?_⟩
                        try simp only [Act.put, List.getElem_toArray, List.getElem_cons_succ, List.getElem_cons_zero, List.setIfInBounds_toArray, List.set_cons_zero, List.set_cons_succ]
                        refine mkAny_one 18 (by kernel_rfl) ?_
                        refine mkOp_val (.slice (some ⟨wc.drew.heap.size, 0, none⟩) 1 1) (wc.drew.alloc (.cells #[.int .i64 (O1.length : Int)] 3)) rfl (by kernel_rfl) (mkx_buildI _ _ _ _ rfl _ (by kernel_rfl)) ?_
                        refine ⟨HS2.out, ?_⟩
                        try simp only [Act.put, List.getElem_toArray, List.getElem_cons_succ, List.getElem_cons_zero, List.setIfInBounds_toArray, List.set_cons_zero, List.set_cons_succ]
                        refine mkAny_one 19 (by kernel_rfl) ?_
                        refine mkOp_wp rfl (by kernel_rfl) (wp_append_lies _ (.tmp 159) (.tmp 166) 66 rfl base 3 i2 (.int .i64 0) 1 8 Try.underlying66 hi2' hy0 hy1 hy2 rfl (by decide) (.slice aB (bkt (stM O1) H).length cB) (bkt (stM O1) H).length (nV (bkt (stM O1) H)) (by kernel_rfl) (own_below Hob.out hB2) ⟨wc.drew.heap.size, 0, none⟩ 1 1 [.int .i64 (O1.length : Int)] (by kernel_rfl) rfl (World.news_of_block (heap_alloc_new wc.drew _)) (by intro u' hu'; simp at hu'; subst hu'; rfl) (by omega) (by unfold maxLen; omega) (by omega) (by have := hB2.size; omega) _ rfl ?_)
                        intro g8 cp8 w8 hown8 hgrow8 hat8 hlt8
                        have hgrow8' := hgrow8
                        have hat8' := hat8
                        rw [← HownVb.out] at hgrow8' hat8'
                        obtain ⟨⟨uu, n1⟩, n2, n3, n4, n5, n6, n7, n8⟩ := HP2.out _ w8 g8 cp8 hB2 hown8 hgrow8' hat8' hlt8
                        have z1 : w8.cell? ⟨bm, 1, none⟩ = some (.slice (some ⟨gS, 0, none⟩) (O1.length + 1) cS) := blkc n7 1
                        have z3 : w8.cell? ⟨bm, 3, none⟩ = some (.slice (some ⟨bb, 0, none⟩) 1024 1024) := blkc n7 3
                        have HN4 := hidd n4
                        have HN5 := hidd n5
                        have HN6 := hidd n6
                        have HN7 := hidd n7
                        have Hos : Hid (w8.os = wr.os ∧ w8.tape = wr.tape ∧ w8.output = wr.output) := ⟨hgrow8.os.trans m7, hgrow8.tape.trans m8, hgrow8.output.trans m9⟩
                        have Hb8 : Hid ((w8.setCell ⟨bb, H, none⟩ (.slice (some ⟨g8, 0, none⟩) ((bkt (stM O1) H).length + 1) cp8)).heap[bm]? = w8.heap[bm]?) := heap_set_other w8 bb H _ bm n8
                        clear n4 n5 n6 n7 hown8 hgrow8 hat8 hlt8 hgrow8' hat8'
                        refine ⟨⟨z3, z1⟩, ?_⟩
                        try simp only [Act.put, List.getElem_toArray, List.getElem_cons_succ, List.getElem_cons_zero, List.setIfInBounds_toArray, List.set_cons_zero, List.set_cons_succ]
                        refine wpAnyH_take (i := 20) (v := (.pointer (some ⟨bb, H, none⟩))) rfl (by kernel_rfl) (by kernel_rfl) (by kernel_rfl) (fun _ _ _ h => h) (Or.inl ⟨by kernel_rfl, fun W hW => mkx_idxB W _ _ _ _ rfl bb H hHz (by kernel_rfl) (by kernel_rfl)⟩) ⟨z3, z1⟩ ?_
                        try simp only [Act.put, List.getElem_toArray, List.getElem_cons_succ, List.getElem_cons_zero, List.setIfInBounds_toArray, List.set_cons_zero, List.set_cons_succ]
                        refine mkAny_one 21 (by kernel_rfl) ?_
                        refine mkOp_skip (w8.setCell ⟨bb, H, none⟩ (.slice (some ⟨g8, 0, none⟩) ((bkt (stM O1) H).length + 1) cp8)) rfl (by kernel_rfl) (mkx_storeIn _ _ _ _ _ rfl bb H _ _ _ _ (by kernel_rfl) (by kernel_rfl) n1 n2) ?_
                        refine ⟨⟨blkc (Hb8.out.trans HN7.out) 3, blkc (Hb8.out.trans HN7.out) 1⟩, ?_⟩
                        try simp only [Act.put, List.getElem_toArray, List.getElem_cons_succ, List.getElem_cons_zero, List.setIfInBounds_toArray, List.set_cons_zero, List.set_cons_succ]
                        refine wpAnyH_done (by kernel_rfl) ?_ _
                        go_wp2_with fail
                        go_meet
                        exact ⟨_, _, _, _, _, HN5.out, rfl, by simpa using n3, HN4.out, HN6.out, Hos.out.1, Hos.out.2.1, Hos.out.2.2⟩
                      case oB =>
                        refine mkOp_val (.slice (some ⟨wc.drew.heap.size, 0, none⟩) 1 1) (wc.drew.alloc (.cells #[.int .i64 (O1.length : Int)] 3)) rfl (by kernel_rfl) (mkx_buildI _ _ _ _ rfl _ (by kernel_rfl)) ?_
                        refine ⟨HS2.out, ?_⟩
                        try simp only [Act.put, List.getElem_toArray, List.getElem_cons_succ, List.getElem_cons_zero, List.setIfInBounds_toArray, List.set_cons_zero, List.set_cons_succ]
                        refine mkAny_one 11 (by kernel_rfl) ?_
                        refine mkOp_val (.slice aB (bkt (stM O1) H).length cB) _ rfl (by kernel_rfl) (mkx_loadIn _ _ _ _ rfl bb H _ _ _ (by kernel_rfl) hyA) ?_
                        refine ⟨HS2.out, ?_⟩
                        try simp only [Act.put, List.getElem_toArray, List.getElem_cons_succ, List.getElem_cons_zero, List.setIfInBounds_toArray, List.set_cons_zero, List.set_cons_succ]
                        refine mkAny_one 19 (by kernel_rfl) ?_
                        refine mkOp_wp rfl (by kernel_rfl) (wp_append_lies _ (.tmp 159) (.tmp 166) 66 rfl base 3 i2 (.int .i64 0) 1 8 Try.underlying66 hi2' hy0 hy1 hy2 rfl (by decide) (.slice aB (bkt (stM O1) H).length cB) (bkt (stM O1) H).length (nV (bkt (stM O1) H)) (by kernel_rfl) (own_below Hob.out hB2) ⟨wc.drew.heap.size, 0, none⟩ 1 1 [.int .i64 (O1.length : Int)] (by kernel_rfl) rfl (World.news_of_block (heap_alloc_new wc.drew _)) (by intro u' hu'; simp at hu'; subst hu'; rfl) (by omega) (by unfold maxLen; omega) (by omega) (by have := hB2.size; omega) _ rfl ?_)
                        intro g8 cp8 w8 hown8 hgrow8 hat8 hlt8
                        have hgrow8' := hgrow8
                        have hat8' := hat8
                        rw [← HownVb.out] at hgrow8' hat8'
                        obtain ⟨⟨uu, n1⟩, n2, n3, n4, n5, n6, n7, n8⟩ := HP2.out _ w8 g8 cp8 hB2 hown8 hgrow8' hat8' hlt8
                        have z1 : w8.cell? ⟨bm, 1, none⟩ = some (.slice (some ⟨gS, 0, none⟩) (O1.length + 1) cS) := blkc n7 1
                        have z3 : w8.cell? ⟨bm, 3, none⟩ = some (.slice (some ⟨bb, 0, none⟩) 1024 1024) := blkc n7 3
                        have HN4 := hidd n4
                        have HN5 := hidd n5
                        have HN6 := hidd n6
                        have HN7 := hidd n7
                        have Hos : Hid (w8.os = wr.os ∧ w8.tape = wr.tape ∧ w8.output = wr.output) := ⟨hgrow8.os.trans m7, hgrow8.tape.trans m8, hgrow8.output.trans m9⟩
                        have Hb8 : Hid ((w8.setCell ⟨bb, H, none⟩ (.slice (some ⟨g8, 0, none⟩) ((bkt (stM O1) H).length + 1) cp8)).heap[bm]? = w8.heap[bm]?) := heap_set_other w8 bb H _ bm n8
                        clear n4 n5 n6 n7 hown8 hgrow8 hat8 hlt8 hgrow8' hat8'
                        refine ⟨⟨z3, z1⟩, ?_⟩
                        try simp only [Act.put, List.getElem_toArray, List.getElem_cons_succ, List.getElem_cons_zero, List.setIfInBounds_toArray, List.set_cons_zero, List.set_cons_succ]
                        refine wpAnyH_take (i := 20) (v := (.pointer (some ⟨bb, H, none⟩))) rfl (by kernel_rfl) (by kernel_rfl) (by kernel_rfl) (fun _ _ _ h => h) (Or.inl ⟨by kernel_rfl, fun W hW => mkx_idxB W _ _ _ _ rfl bb H hHz (by kernel_rfl) (by kernel_rfl)⟩) ⟨z3, z1⟩ ?_
                        try simp only [Act.put, List.getElem_toArray, List.getElem_cons_succ, List.getElem_cons_zero, List.setIfInBounds_toArray, List.set_cons_zero, List.set_cons_succ]
                        refine mkAny_one 21 (by kernel_rfl) ?_
                        refine mkOp_skip (w8.setCell ⟨bb, H, none⟩ (.slice (some ⟨g8, 0, none⟩) ((bkt (stM O1) H).length + 1) cp8)) rfl (by kernel_rfl) (mkx_storeIn _ _ _ _ _ rfl bb H _ _ _ _ (by kernel_rfl) (by kernel_rfl) n1 n2) ?_
                        refine ⟨⟨blkc (Hb8.out.trans HN7.out) 3, blkc (Hb8.out.trans HN7.out) 1⟩, ?_⟩
                        try simp only [Act.put, List.getElem_toArray, List.getElem_cons_succ, List.getElem_cons_zero, List.setIfInBounds_toArray, List.set_cons_zero, List.set_cons_succ]
                        refine wpAnyH_done (by kernel_rfl) ?_ _
                        go_wp2_with fail
                        go_meet
                        exact ⟨_, _, _, _, _, HN5.out, rfl, by simpa using n3, HN4.out, HN6.out, Hos.out.1, Hos.out.2.1, Hos.out.2.2⟩
                  case rest =>
                      obtain ⟨r', vS', vb', xs', cs', p1, rfl, p3, p4, p5, p6, p7, p8⟩ := hcut
                      have HP1 := hidd p1
                      have HP4 := hidd p4
                      have HP5 := hidd p5
                      have l1 := blkc p1.box 1
                      have hidx : Hid ((O1 ++ [L]).idxOf L = O1.length) := by
                        show _ = _
                        rw [List.idxOf_append, if_neg HNotin.out]
                        simp
                      have hvlt : ∀ b, (Value.slice aA l.length cA).ownBlock = some b → w.heap.size ≤ b := fun b hb => (HWx.out.row.lt b hb).1
                      have HF1 : Hid (MkFr w _ r r') := ⟨p6.trans (HBx.out.os.trans Hfr.out.os), p7.trans (HBx.out.tape.trans Hfr.out.tape), p8.trans (HBx.out.output.trans Hfr.out.output), by have h5 := Hfr.out.size; have h6 := HBx.out.size; omega, fun b hb => (HP5.out b (by omega) (fun e => by have := hvlt b e; omega)).trans (Hfr.out.role b hb), fun b hb hr => (HP4.out b (by omega) (by rw [Hfr.out.role b hb]; exact hr)).trans ((HBx.out.block b (by have := Hfr.out.size; omega)).trans (Hfr.out.keep b hb hr))⟩
                      clear p1 p4 p5 p6 p7 p8 y1 y3 yH hvlt
                      go_wp2_with fail
                      go_ret
                      refine ⟨O1 ++ [L], r', _, vb', xs', cs', by rw [HLL.out, hidx.out]; rfl, HP1.out, Hok.out.snoc HRs.out Hkids.out HNotin.out, Hpre.out.trans (List.prefix_append _ _), by rw [HLL.out]; simp, ?_, HF1.out⟩
                      rw [HLL.out, List.length_append, List.length_singleton]
                      have h5 := Hlen1.out
                      rcases Nat.eq_zero_or_pos L.length with h0 | h0
                      · have h6 : szT L = 0 := by rw [List.length_eq_zero_iff.1 h0]; rfl
                        omega
                      · omega
theorem make_any (base bm bb : Nat) (aT : Option Addr) (cT : Nat) (ts : List Tx) : ∀ f, MakeC base bm bb aT cT ts (f + 1)
  | 0 => make_step (MakeN.zero base bm bb aT cT ts)
  | f + 1 => make_step (make_any base bm bb aT cT ts f).some
end Go.Proofs.Ytbkedgpligcicaa
